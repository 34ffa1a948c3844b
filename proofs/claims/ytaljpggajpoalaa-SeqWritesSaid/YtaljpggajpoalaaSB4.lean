/-
  An access of a memory's own words, of package seq: made in a memory of that word alone.
  Conditions: the memory may be and lies in rows of its own; the kind is one of the three; the place is not below 0.
-/
import Derived.Test.YtaljpggajpoalaaSB3
import Derived.IntWalk
import Derived.Test.YtaljpggajpoalaaSB2
import Derived.Laws.CopyOwn
import Derived.WalkKit
import Derived.StillTail
import Derived.Deep.RegionHeld3
import Derived.Deep.AppendLies
import Derived.BigRegion
import Derived.Deep.CutBlock
import Derived.Deep.DeepCutAuto
/-
  memory.lives: how many of a part of the words are live; what was in memory stays.
  Conditions: the part lies within the memory.
-/
namespace Go.Proofs.Ytaljpggajpoalaa
open Go.RowKit Go.Shelf
attribute [local go_sem] Oper.semAt_some

set_option maxRecDepth 100000 in
theorem spans_c (v : Value) (hv : ∃ p n c, v = .slice p n c) (W : World) : Calls Try.prog 88 #[v] W fun e w' => e = .returned (.func (.func 92) #[] #[.pointer (some ⟨W.heap.size, 0, none⟩)]) ∧ w' = W.alloc (.cells #[v] 42) := by
  obtain ⟨p, n, c, rfl⟩ := hv
  go_enter Try.func88, Try.ntmps88
  go_wp2
  go_ret
  exact ⟨rfl, rfl⟩

theorem spansP_length (l : List Bool) (a n : Nat) : (spansP a n l).length ≤ l.length + 1 := by
  induction l generalizing a n with
  | nil =>
    by_cases h : n = 0
    · subst h; simp [spansP, oneRow_zero]
    · simp [spansP, oneRow_pos a h]
  | cons b t ih =>
    cases b with
    | true => have := ih a (n + 1); simp only [spansP, List.length_cons]; omega
    | false =>
      have := ih (a + n + 1) 0
      simp only [spansP, List.length_append, List.length_cons]
      by_cases h : n = 0
      · subst h; simp only [oneRow_zero, List.length_nil]; omega
      · simp only [oneRow_pos a h, List.length_singleton]; omega
theorem ovlAll_rows (x y : Nat) (pre : List RowS) : ovlAll x y (pre.map (·.1)) ≤ pre.length * 4096 := by
  induction pre with
  | nil => simp [ovlAll]
  | cons s t ih =>
    have hs := s.2
    simp only [ovlAll, List.map_cons, List.sum_cons, List.length_cons] at ih ⊢
    have : ovl x y s.1 ≤ 4096 := by simp only [ovl]; omega
    omega

set_option maxRecDepth 100000 in
set_option maxHeartbeats 4000000 in
theorem lives_c (pw : Option Addr) (nw cw b off cap : Nat) (ls : List Bool) (f : Bool) (x k : Nat) (w : World) (hmax : ls.length ≤ 4096) (hcap : ls.length ≤ cap) (hk1 : 1 ≤ k) (hxk : x + k ≤ ls.length)
    (hl : ∀ i (h : i < ls.length), w.cell? ⟨b, off + i, none⟩ = some (.bool ls[i])) :
    Calls Try.prog 75 #[.agg #[.slice pw nw cw, .slice (some ⟨b, off, none⟩) ls.length cap, .bool f], .int .i64 (x : Int), .int .i64 (k : Int)] w fun e w' => e = .returned (.int .i64 ((cnt x (x + k) 0 ls : Nat) : Int)) ∧ Below w.heap.size w w' := by
  refine (callsIn_wide (n := 9)).1 ?_
  refine callsIn_of_wp_marks Try.func75 rfl trivial ?_ rfl
  simp only [Try.ntmps75, List.size_toArray, List.length_cons, List.length_nil, Nat.reduceAdd, Nat.reduceSub, Array.replicate_succ, Array.replicate_zero, List.push_toArray, List.append_toArray, List.nil_append, List.cons_append]
  have HL := Lib.hid hl
  clear hl
  gi_wp2
  refine wpIn_scope ?_
  gi_wp2
  refine wpIn_label ?_
  gi_wp2_with fail
  refine ⟨trivial, ?_⟩
  refine (callsIn_wide.2 (spans_c _ ⟨_, _, _, rfl⟩ _)).mono ?_
  rintro e w1 ⟨rfl, hw1⟩
  have hz1 : w1.heap.size = w.heap.size + 1 + 1 + 1 + 1 + 1 := by rw [hw1]; simp
  have hB1 : Below w.heap.size w w1 := by rw [hw1]; exact (((((Below.refl _ _).alloc (Nat.le_refl _) _).alloc (by simp) _).alloc (by simp; omega) _).alloc (by simp; omega) _).alloc (by simp; omega) _
  have hn1 : Boxed w1 (w.heap.size + 1 + 1 + 1) 3 (.int .i64 0) := by
    rw [hw1]
    refine Boxed.alloc ?_ _
    have := Boxed.new (((w.alloc (.cells #[.slice pw nw cw, .slice (some ⟨b, off, none⟩) ls.length cap, .bool f] 44)).alloc (.cells #[.int .i64 x] 3)).alloc (.cells #[.int .i64 k] 3)) 3 (.int .i64 0)
    simpa using this
  have hx1 : Boxed w1 (w.heap.size + 1) 3 (.int .i64 x) := by
    rw [hw1]
    refine Boxed.alloc (Boxed.alloc (Boxed.alloc ?_ _) _) _
    have := Boxed.new (w.alloc (.cells #[.slice pw nw cw, .slice (some ⟨b, off, none⟩) ls.length cap, .bool f] 44)) 3 (.int .i64 x)
    simpa using this
  have hkb : Boxed w1 (w.heap.size + 1 + 1) 3 (.int .i64 k) := by
    rw [hw1]
    refine Boxed.alloc (Boxed.alloc ?_ _) _
    have := Boxed.new ((w.alloc (.cells #[.slice pw nw cw, .slice (some ⟨b, off, none⟩) ls.length cap, .bool f] 44)).alloc (.cells #[.int .i64 x] 3)) 3 (.int .i64 k)
    simpa using this
  have hs1 : w1.cell? ⟨w.heap.size + 1 + 1 + 1 + 1, 0, none⟩ = some (.slice (some ⟨b, off, none⟩) ls.length cap) := by
    have := (Boxed.new ((((w.alloc (.cells #[.slice pw nw cw, .slice (some ⟨b, off, none⟩) ls.length cap, .bool f] 44)).alloc (.cells #[.int .i64 x] 3)).alloc (.cells #[.int .i64 k] 3)).alloc (.cells #[.int .i64 0] 3)) 42 (.slice (some ⟨b, off, none⟩) ls.length cap)).cell
    rw [hw1]
    simpa using this
  have hl1 : ∀ i (h : i < ls.length), w1.cell? ⟨b, off + i, none⟩ = some (.bool ls[i]) := fun i h => below_cell hB1 (HL.out i h)
  have hbS : ¬ b = w.heap.size + 1 + 1 + 1 := by
    intro e
    have := World.block_lt_of_cell? w _ (HL.out 0 (by omega))
    simp only at this
    omega
  have HL1 := Lib.hid hl1
  have HHB := Lib.hid hB1
  clear hw1 hl1
  gi_wp2
  generalize hz : w.heap.size = z at *
  refine wpIn_rangeBound rfl (by omega) (gf := 92) (bd := #[]) (lb := #[.pointer (some ⟨z + 1 + 1 + 1 + 1, 0, none⟩)]) rfl trivial (enters_of Try.func92 (by kernel_rfl) rfl)
    (spans_stops 8 (by omega) (fun q => q = z + 1 + 1 + 1) (z + 1 + 1 + 1 + 1) b off cap ls w1 (by omega) hbS hmax hcap hs1 HL1.out) (fun h k => h.trans k) (fun W l o o' _ => KeepsCells.turn _ W l o o') (Below.refl _ _) (fun _ => rfl)
    (fun pre W => ((Boxed W (z + 1 + 1 + 1) 3 (.int .i64 ((ovlAll x (x + k) (pre.map (·.1)) : Nat) : Int)) ∧ Boxed W (z + 1) 3 (.int .i64 x)) ∧ Boxed W (z + 1 + 1) 3 (.int .i64 k)) ∧ Below z w W)
    (fun c p W => (Boxed W (z + 1 + 1 + 1) 3 (.int .i64 ((ovlAll x (x + k) (p.dropLast.map (·.1)) : Nat) : Int)) ∧ (c = .exit 0 ∧ ∃ s, p.getLast? = some s ∧ x + k ≤ s.1.1)) ∧ Below z w W)
    ?hI ?hIx ?h0
    (fun s a' W => ∃ blk, (a' = { tmps := #[.agg #[.slice pw nw cw, .slice (some ⟨b, off, none⟩) ls.length cap, .bool f], .int .i64 x, .int .i64 k, .pointer (some ⟨z, 0, none⟩), .pointer (some ⟨z + 1, 0, none⟩), .pointer (some ⟨z + 1 + 1, 0, none⟩), .int .i64 0, .pointer (some ⟨z + 1 + 1 + 1, 0, none⟩), .pointer (some ⟨blk, 0, none⟩), undef, undef, .pointer (some ⟨z, 1, none⟩), .slice (some ⟨b, off, none⟩) ls.length cap, .func (.func 92) #[] #[.pointer (some ⟨z + 1 + 1 + 1 + 1, 0, none⟩)], rowV s, undef, undef, undef, undef, undef, undef, undef, undef, undef, undef, undef, undef, undef, undef, undef, undef, undef, undef, undef, undef, undef, undef, undef, undef, undef, undef, undef, undef, undef, undef], defers := [] } ∧ blk ≠ z + 1 + 1 + 1) ∧ W.heap[blk]? = some (.cells #[.int .i64 s.1.1, .int .i64 s.1.2] 23 (0, 0)))
    ?hAx ?assign ?body ?done ?stop
  case hI => exact OwnFrom.and (OwnFrom.and (OwnFrom.and (Own.from (boxed_own _ _ (fun pre : List RowS => Value.int .i64 ((ovlAll x (x + k) (pre.map (·.1)) : Nat) : Int))) _) ((boxed_own _ _ _).from _)) ((boxed_own _ _ _).from _)) (ownFrom_below (Nat.le_of_eq hz.symm) (by omega))
  case hIx => exact fun c => OwnFrom.and (OwnFrom.and (Own.from (boxed_own _ _ (fun p : List RowS => Value.int .i64 ((ovlAll x (x + k) (p.dropLast.map (·.1)) : Nat) : Int))) _) (ownFrom_pure _ _)) (ownFrom_below (Nat.le_of_eq hz.symm) (by omega))
  case h0 => exact ⟨⟨⟨hn1, hx1⟩, hkb⟩, HHB.out⟩
  case hAx =>
    rintro s a' _ X Y row ⟨blk, hpure, hs⟩ hg hr
    refine ⟨blk, hpure, (hg.block blk (Array.getElem?_eq_some_iff.1 hs).1 fun e => ?_).trans hs⟩
    obtain ⟨_, o, ho, hc⟩ := hr blk e.symm
    rw [hs] at ho
    cases ho
    cases hc
  case assign =>
    intro l pre s W K hi hK
    have hlt := hi.1.1.1.lt
    gi_wp2
    exact hK _ _ ((KeepsOthers.alloc _ _).from _) (KeepsCells.keeps (Keeps.alloc _ _ _)) ⟨⟨⟨hi.1.1.1.alloc _, hi.1.1.2.alloc _⟩, hi.1.2.alloc _⟩, hi.2.alloc (by have := hi.2.size; omega) _⟩ ⟨W.heap.size, ⟨rfl, by omega⟩, World.alloc_heap_new W _⟩
  case body =>
    rintro l pre s a' W hl _ ⟨⟨⟨hbn, hbx⟩, hbk⟩, hB⟩ ⟨blk, ⟨rfl, hne⟩, hrow⟩ hlen
    have hc0 : W.cell? ⟨blk, 0, none⟩ = some (.int .i64 s.1.1) := by simp [World.cell?, hrow]
    have hc1 : W.cell? ⟨blk, 1, none⟩ = some (.int .i64 s.1.2) := by simp [World.cell?, hrow]
    have hcn := hbn.cell
    have hfn := hbn.frozen
    have hcx := hbx.cell
    have hck := hbk.cell
    have hmx : Try.prog.follows .mixedOrders = true := by kernel_rfl
    obtain ⟨⟨a, m⟩, ham⟩ := s
    simp only at ham hc0 hc1
    have hw1 : IntKind.i64.wrap ((a : Int) + m) = (a : Int) + m := IntWalk.i64_in _ (by omega)
    have hw2 : IntKind.i64.wrap ((x : Int) + k) = (x : Int) + k := IntWalk.i64_in _ (by omega)
    gi_wp2
    refine wpIn_region_held (S := fun w' => w'.cell? ⟨blk, 0, none⟩ = some (.int .i64 a) ∧ w'.cell? ⟨blk, 1, none⟩ = some (.int .i64 m) ∧ w'.cell? ⟨z + 1, 0, none⟩ = some (.int .i64 x) ∧ w'.cell? ⟨z + 1 + 1, 0, none⟩ = some (.int .i64 k)) hmx (by kernel_rfl) ⟨hc0, hc1, hcx, hck⟩ (fun hHeld => ?_)
    refine wpAnyH_take (i := 0) (v := (.pointer (some ⟨blk, 0, none⟩))) rfl (by kernel_rfl) (by kernel_rfl) (by kernel_rfl) (fun _ _ _ h => by cases h.1) (Or.inl ⟨by rfl, ?_⟩) (by assumption) ?_
    · intro w hSw
      go_simp
    simp only [Act.put, List.getElem_toArray, List.getElem_cons_zero, List.setIfInBounds_toArray, List.set_cons_succ, List.set_cons_zero]
    refine wpAnyH_take (i := 1) (v := (.int .i64 a)) rfl (by kernel_rfl) (by kernel_rfl) (by kernel_rfl) (fun _ _ _ h => by cases h.1) (Or.inl ⟨by rfl, ?_⟩) (by assumption) ?_
    · intro w hSw
      go_simp
    simp only [Act.put, List.getElem_toArray, List.getElem_cons_succ, List.getElem_cons_zero, List.setIfInBounds_toArray, List.set_cons_succ, List.set_cons_zero]
    refine wpAnyH_take (i := 2) (v := (.int .i64 x)) rfl (by kernel_rfl) (by kernel_rfl) (by kernel_rfl) (fun _ _ _ h => by cases h.1) (Or.inl ⟨by rfl, ?_⟩) (by assumption) ?_
    · intro w hSw
      go_simp
    simp only [Act.put, List.getElem_toArray, List.getElem_cons_succ, List.getElem_cons_zero, List.setIfInBounds_toArray, List.set_cons_succ, List.set_cons_zero]
    refine wpAnyH_take (i := 4) (v := (.pointer (some ⟨blk, 0, none⟩))) rfl (by kernel_rfl) (by kernel_rfl) (by kernel_rfl) (fun _ _ _ h => by cases h.1) (Or.inl ⟨by rfl, ?_⟩) (by assumption) ?_
    · intro w hSw
      go_simp
    simp only [Act.put, List.getElem_toArray, List.getElem_cons_succ, List.getElem_cons_zero, List.setIfInBounds_toArray, List.set_cons_succ, List.set_cons_zero]
    refine wpAnyH_take (i := 5) (v := (.int .i64 a)) rfl (by kernel_rfl) (by kernel_rfl) (by kernel_rfl) (fun _ _ _ h => by cases h.1) (Or.inl ⟨by rfl, ?_⟩) (by assumption) ?_
    · intro w hSw
      go_simp
    simp only [Act.put, List.getElem_toArray, List.getElem_cons_succ, List.getElem_cons_zero, List.setIfInBounds_toArray, List.set_cons_succ, List.set_cons_zero]
    refine wpAnyH_take (i := 6) (v := (.pointer (some ⟨blk, 1, none⟩))) rfl (by kernel_rfl) (by kernel_rfl) (by kernel_rfl) (fun _ _ _ h => by cases h.1) (Or.inl ⟨by rfl, ?_⟩) (by assumption) ?_
    · intro w hSw
      go_simp
    simp only [Act.put, List.getElem_toArray, List.getElem_cons_succ, List.getElem_cons_zero, List.setIfInBounds_toArray, List.set_cons_succ, List.set_cons_zero]
    refine wpAnyH_take (i := 7) (v := (.int .i64 m)) rfl (by kernel_rfl) (by kernel_rfl) (by kernel_rfl) (fun _ _ _ h => by cases h.1) (Or.inl ⟨by rfl, ?_⟩) (by assumption) ?_
    · intro w hSw
      go_simp
    simp only [Act.put, List.getElem_toArray, List.getElem_cons_succ, List.getElem_cons_zero, List.setIfInBounds_toArray, List.set_cons_succ, List.set_cons_zero]
    refine wpAnyH_take (i := 8) (v := (.int .i64 ((a : Int) + m))) rfl (by kernel_rfl) (by kernel_rfl) (by kernel_rfl) (fun _ _ _ h => by cases h.1) (Or.inl ⟨by rfl, ?_⟩) (by assumption) ?_
    · intro w hSw
      go_simp
    simp only [Act.put, List.getElem_toArray, List.getElem_cons_succ, List.getElem_cons_zero, List.setIfInBounds_toArray, List.set_cons_succ, List.set_cons_zero]
    refine wpAnyH_take (i := 9) (v := (.int .i64 x)) rfl (by kernel_rfl) (by kernel_rfl) (by kernel_rfl) (fun _ _ _ h => by cases h.1) (Or.inl ⟨by rfl, ?_⟩) (by assumption) ?_
    · intro w hSw
      go_simp
    simp only [Act.put, List.getElem_toArray, List.getElem_cons_succ, List.getElem_cons_zero, List.setIfInBounds_toArray, List.set_cons_succ, List.set_cons_zero]
    refine wpAnyH_take (i := 10) (v := (.int .i64 k)) rfl (by kernel_rfl) (by kernel_rfl) (by kernel_rfl) (fun _ _ _ h => by cases h.1) (Or.inl ⟨by rfl, ?_⟩) (by assumption) ?_
    · intro w hSw
      go_simp
    simp only [Act.put, List.getElem_toArray, List.getElem_cons_succ, List.getElem_cons_zero, List.setIfInBounds_toArray, List.set_cons_succ, List.set_cons_zero]
    refine wpAnyH_take (i := 11) (v := (.int .i64 ((x : Int) + k))) rfl (by kernel_rfl) (by kernel_rfl) (by kernel_rfl) (fun _ _ _ h => by cases h.1) (Or.inl ⟨by rfl, ?_⟩) (by assumption) ?_
    · intro w hSw
      go_simp
    simp only [Act.put, List.getElem_toArray, List.getElem_cons_succ, List.getElem_cons_zero, List.setIfInBounds_toArray, List.set_cons_succ, List.set_cons_zero]
    refine wpAnyH_take (i := 3) (v := (.int .i64 ((max a x : Nat) : Int))) rfl (by kernel_rfl) (by kernel_rfl) (by kernel_rfl) (fun _ _ _ h => by cases h.1) (Or.inl ⟨by rfl, ?_⟩) (by assumption) ?_
    · intro w hSw
      go_simp
      split <;> omega
    simp only [Act.put, List.getElem_toArray, List.getElem_cons_succ, List.getElem_cons_zero, List.setIfInBounds_toArray, List.set_cons_succ, List.set_cons_zero]
    refine wpAnyH_take (i := 12) (v := (.int .i64 ((min (a + m) (x + k) : Nat) : Int))) rfl (by kernel_rfl) (by kernel_rfl) (by kernel_rfl) (fun _ _ _ h => by cases h.1) (Or.inl ⟨by rfl, ?_⟩) (by assumption) ?_
    · intro w hSw
      go_simp
      split <;> omega
    simp only [Act.put, List.getElem_toArray, List.getElem_cons_succ, List.getElem_cons_zero, List.setIfInBounds_toArray, List.set_cons_succ, List.set_cons_zero]
    refine wpAnyH_take (i := 13) (v := (.int .i64 ((max a x : Nat) : Int))) rfl (by kernel_rfl) (by kernel_rfl) (by kernel_rfl) (fun _ _ _ h => by cases h.1) (Or.inl ⟨by rfl, ?_⟩) (by assumption) ?_
    · intro w hSw
      go_simp
    simp only [Act.put, List.getElem_toArray, List.getElem_cons_succ, List.getElem_cons_zero, List.setIfInBounds_toArray, List.set_cons_succ, List.set_cons_zero]
    refine wpAnyH_take (i := 14) (v := (.int .i64 ((min (a + m) (x + k) : Nat) : Int))) rfl (by kernel_rfl) (by kernel_rfl) (by kernel_rfl) (fun _ _ _ h => by cases h.1) (Or.inl ⟨by rfl, ?_⟩) (by assumption) ?_
    · intro w hSw
      go_simp
    simp only [Act.put, List.getElem_toArray, List.getElem_cons_succ, List.getElem_cons_zero, List.setIfInBounds_toArray, List.set_cons_succ, List.set_cons_zero]
    refine wpAnyH_done (by kernel_rfl) (And.intro rfl ?_) _
    have hov : ovlAll x (x + k) ((pre ++ [(⟨(a, m), ham⟩ : RowS)]).map (·.1)) = ovlAll x (x + k) (pre.map (·.1)) + (min (a + m) (x + k) - max a x) := by
      rw [List.map_append, List.map_singleton, ovlAll_snoc]; rfl
    obtain ⟨lo, hlo⟩ : ∃ lo, lo = max a x := ⟨_, rfl⟩
    obtain ⟨hi, hhi⟩ : ∃ hi, hi = min (a + m) (x + k) := ⟨_, rfl⟩
    rw [← hlo, ← hhi] at hov ⊢
    have hlo' : lo ≤ 8192 := by omega
    have hhi' : hi ≤ 8192 := by omega
    have HOV := Lib.hid hov
    clear hov hlo hhi hHeld
    by_cases hst : x + k ≤ a
    · gi_wp2
      refine ⟨(KeepsOthers.drew _).from _, ⟨⟨?_, rfl, ?_⟩, hB.drew⟩⟩
      · rw [List.map_append, List.map_singleton, List.dropLast_concat]; exact hbn
      · first | exact ⟨⟨(a, m), ham⟩, by simp, hst⟩ | exact ⟨a, m, ham, by simp, hst⟩ | exact ⟨a, ⟨m, ham, by simp⟩, hst⟩ | (simp; omega)
    · by_cases hlt : lo < hi
      · have hnl := hbn.lt
        obtain ⟨ov, hovp⟩ : ∃ ov, ov = ovlAll x (x + k) (pre.map (·.1)) := ⟨_, rfl⟩
        have hovb : ov ≤ 33554432 := by
          have h1 := ovlAll_rows x (x + k) pre
          have h2 := spansP_length ls 0 0
          have h3 : pre.length < (spansP 0 0 ls).length := hlen
          have h4 : pre.length * 4096 ≤ 8192 * 4096 := Nat.mul_le_mul_right _ (by omega)
          omega
        rw [← hovp] at hbn hcn
        have HOV4 := Lib.hid (show ovlAll x (x + k) ((pre ++ [(⟨(a, m), ham⟩ : RowS)]).map (·.1)) = ov + (hi - lo) by rw [HOV.out, hovp])
        clear hovp HOV
        gi_wp2
        refine ⟨((KeepsOthers.setCell _ _ _).trans (KeepsOthers.drew _)).from _, KeepsCells.keeps ((Keeps.setCell W (S := fun q => q = z + 1 + 1 + 1) (p := ⟨z + 1 + 1 + 1, 0, none⟩) rfl _).trans ⟨rfl, rfl, rfl, Nat.le_refl _, fun _ _ _ => rfl⟩), ⟨⟨⟨?_, hbx.other (by omega) _⟩, hbk.other (by omega) _⟩, (hB.setCell (p := ⟨z + 1 + 1 + 1, 0, none⟩) (by simp; omega) _).drew⟩⟩
        rw [HOV4.out, show ((ov + (hi - lo) : Nat) : Int) = (ov : Int) + ((hi : Int) - lo) by omega]
        exact hbn.set _
      · have HOV2 : ovlAll x (x + k) ((pre ++ [(⟨(a, m), ham⟩ : RowS)]).map (·.1)) = ovlAll x (x + k) (pre.map (·.1)) := by rw [HOV.out]; omega
        have HOV3 := Lib.hid HOV2
        clear HOV2
        gi_wp2
        exact ⟨(KeepsOthers.drew _).from _, KeepsCells.keeps ⟨rfl, rfl, rfl, Nat.le_refl _, fun _ _ _ => rfl⟩, ⟨⟨⟨by rw [HOV3.out]; exact hbn, hbx⟩, hbk⟩, hB.drew⟩⟩
  case done =>
    rintro D xs W hD hxs ⟨⟨⟨hbn, _⟩, _⟩, hB⟩ hK
    have hcn := hbn.cell
    have HRES := Lib.hid (ovl_spansL x (x + k) (by omega) ls)
    gi_wp2
    show bodyPostM Fence.wide 9 Try.prog Try.f75 _ Exit.ret _ _
    refine leaves_marks (B := z) [D] _ ((Marks.nil z W).cons (by omega) (fun h => by cases h) hK) fun W' hW' => ⟨_, results_tmp rfl _ _ _, ?_, by rw [hz]; exact hB.trans hW'⟩
    exact ret_int (by rw [HRES.out])
  case stop =>
    rintro D c p W hD ⟨suf, hsuf⟩ ⟨⟨hbn, rfl, ⟨⟨a, m⟩, ham⟩, hlast, hst⟩, hB⟩ hK
    have hcn := hbn.cell
    have hres : ovlAll x (x + k) (p.dropLast.map (·.1)) = cnt x (x + k) 0 ls := by
      refine ovl_stop x (x + k) (by omega) ls _ (a, m) suf ?_ hst
      have hp : p = p.dropLast ++ [⟨(a, m), ham⟩] := by
        have hne : p ≠ [] := by rintro rfl; cases hlast
        have := List.dropLast_concat_getLast hne
        rw [List.getLast?_eq_some_getLast hne] at hlast
        injection hlast with hlast
        rw [hlast] at this
        exact this.symm
      rw [← hsuf]
      conv => rhs; rw [hp]
      simp
    have HRES := Lib.hid hres
    clear hres
    gi_wp2
    show bodyPostM Fence.wide 9 Try.prog Try.f75 _ Exit.ret _ _
    refine leaves_marks (B := z) [D] _ ((Marks.nil z W).cons (by omega) (fun h => by cases h) hK) fun W' hW' => ⟨_, results_tmp rfl _ _ _, ?_, by rw [hz]; exact hB.trans hW'⟩
    exact ret_int (by rw [← HRES.out, List.map_dropLast])

end Go.Proofs.Ytaljpggajpoalaa
/-
  memory.Live: an error, or the memory in memory of its own with some words live; what was in memory stays.
  Conditions: the memory reads as these lists.
-/
namespace Go.Proofs.Ytaljpggajpoalaa
open Go.RowKit Go.Shelf

set_option maxRecDepth 100000 in
set_option maxHeartbeats 4000000 in
theorem live_no (v : Value) (ws : List Int) (ls : List Bool) (f : Bool) (a k : Int) (W : World) (hv : MemAt W v ws ls f) (hcap0 : ∀ x y p n c, v = .agg #[x, .slice p n c, y] → n ≤ c) (hw : ws.length ≤ 9223372036854775807) (hk2 : k ≤ 9223372036854775807) (c : Int)
    (hc : (rightB ws ls = false ∧ c = 120) ∨ (rightB ws ls = true ∧ thereB ws.length a k = false ∧ c = 2) ∨ (rightB ws ls = true ∧ thereB ws.length a k = true ∧ cnt a.toNat (a.toNat + k.toNat) 0 ls ≠ 0 ∧ c = 5)) :
    Calls Try.prog 60 #[v, .int .i64 a, .int .i64 k] W fun e w' => e = .returned (.tuple #[memZ, .int .i64 c]) ∧ Below W.heap.size W w' := by
  have hm := hv
  obtain ⟨vw, vl, rfl, ⟨pw, cw, rfl, hcw⟩, pl, cl, rfl, hcl⟩ := hv
  have hcap := hcap0 _ _ _ _ _ rfl
  clear hcap0
  have HM := Lib.hid hm
  have HCL := Lib.hid hcl
  clear hm hcw hcl
  obtain ⟨z, hz⟩ : ∃ z, z = W.heap.size := ⟨_, rfl⟩
  obtain ⟨wo, hwo⟩ : ∃ wo : World, wo = (W.alloc (.cells #[.slice pw ws.length cw, .slice pl ls.length cl, .bool f] 44)).alloc (.cells #[.slice none 0 0, .slice none 0 0, .bool false] 44) := ⟨_, rfl⟩
  have hZ : MBox wo z (.slice pw ws.length cw) (.slice pl ls.length cl) f := by rw [hwo, hz]; exact (MBox.new _ _ _ _).alloc _
  have hR : MBox wo (z + 1) (.slice none 0 0) (.slice none 0 0) false := by
    have := MBox.new (W.alloc (.cells #[.slice pw ws.length cw, .slice pl ls.length cl, .bool f] 44)) (.slice none 0 0) (.slice none 0 0) false
    rw [World.size_alloc] at this
    rw [hwo, hz]; exact this
  have hB : Below W.heap.size W wo := by rw [hwo]; exact ((Below.refl _ _).alloc (Nat.le_refl _) _).alloc (by simp) _
  have hsz : z + 2 ≤ wo.heap.size := by rw [hwo, hz]; simp
  have HZ := Lib.hid hZ
  have HR := Lib.hid hR
  clear hZ hR
  go_enter Try.func60, Try.ntmps60
  go_wp2_with fail
  rw [← hwo, ← hz]
  have hzW : W.heap.size ≤ z := Nat.le_of_eq hz.symm
  clear hwo hz
  refine (check_c _ ws ls f _ (HM.out.below hB) hw).mono ?_
  rintro e w1 ⟨rfl, hb1⟩
  have HZ1 := Lib.hid (HZ.out.below hb1)
  have HR1 := Lib.hid (HR.out.below hb1)
  have hB1 := below_then hB hB.size hb1
  have hsz1 := Nat.le_trans hsz hb1.size
  clear hb1 HZ HR hB hsz
  rcases hc with ⟨hr, rfl⟩ | ⟨hr, ht, rfl⟩ | ⟨hr, ht, hc, rfl⟩
  · rw [chkM_no hr]
    obtain ⟨⟨hr0, hr1, hr2⟩, hs0, hs1, hs2⟩ := mbox_cells HR1.out
    have hBe := ((hB1.setCell (p := ⟨z + 1, 0, none⟩) (by simp; omega) (.slice none 0 0)).setCell (p := ⟨z + 1, 1, none⟩) (by simp; omega) (.slice none 0 0)).setCell (p := ⟨z + 1, 2, none⟩) (by simp; omega) (.bool false)
    go_wp2
    exact bodyPost_ret (v := .tuple #[memZ, .int .i64 120]) (by simp [results, Try.results60, go_sem, hr0, hr1, hr2, memZ]) rfl ⟨rfl, hBe⟩
  · rw [chkM_yes hr]
    obtain ⟨⟨hd0, hd1, hd2⟩, _⟩ := mbox_cells HZ1.out
    go_wp2_with fail
    refine (there_c _ ws.length cw _ f a k hk2 hw _).mono ?_
    rintro e w2 ⟨rfl, hb2⟩
    have HZ2 := Lib.hid (HZ1.out.below hb2)
    have HR2 := Lib.hid (HR1.out.below hb2)
    have hB2 := below_then hB1 hB1.size hb2
    have hsz2 := Nat.le_trans hsz1 hb2.size
    clear hb2 hB1 hsz1 HR1 HZ1 hd0 hd1 hd2
    rw [ht]
    obtain ⟨⟨hr0, hr1, hr2⟩, hs0, hs1, hs2⟩ := mbox_cells HR2.out
    have hBe := ((hB2.setCell (p := ⟨z + 1, 0, none⟩) (by simp; omega) (.slice none 0 0)).setCell (p := ⟨z + 1, 1, none⟩) (by simp; omega) (.slice none 0 0)).setCell (p := ⟨z + 1, 2, none⟩) (by simp; omega) (.bool false)
    go_wp2
    exact bodyPost_ret (v := .tuple #[memZ, .int .i64 2]) (by simp [results, Try.results60, go_sem, hr0, hr1, hr2, memZ]) rfl ⟨rfl, hBe⟩
  · rw [chkM_yes hr]
    obtain ⟨⟨hd0, hd1, hd2⟩, _⟩ := mbox_cells HZ1.out
    go_wp2_with fail
    refine (there_c _ ws.length cw _ f a k hk2 hw _).mono ?_
    rintro e w2 ⟨rfl, hb2⟩
    have HZ2 := Lib.hid (HZ1.out.below hb2)
    have HR2 := Lib.hid (HR1.out.below hb2)
    have hB2 := below_then hB1 hB1.size hb2
    have hsz2 := Nat.le_trans hsz1 hb2.size
    clear hb2 hB1 hsz1 HR1 HZ1 hd0 hd1 hd2
    rw [ht]
    obtain ⟨t1, t2, t3⟩ := thereB_iff.1 ht
    obtain ⟨a, rfl⟩ := Int.eq_ofNat_of_zero_le t2
    obtain ⟨k, rfl⟩ := Int.eq_ofNat_of_zero_le (show 0 ≤ k by omega)
    obtain ⟨hn1, hn2, hlen, hmay⟩ := rightB_iff.1 hr
    clear hmay
    simp only [Int.toNat_natCast] at hc ⊢
    obtain ⟨bl, ol, rfl, hcs⟩ := HCL.out (by intro e; rw [e] at hlen; simp at hlen; omega)
    have HCS := Lib.hid hcs
    have HLEN := Lib.hid hlen
    clear hcs hlen HCL
    obtain ⟨⟨hd0, hd1, hd2⟩, _⟩ := mbox_cells HZ2.out
    go_wp2_with fail
    refine (lives_c pw ws.length cw bl ol cl ls f a k _ (by rw [HLEN.out]; omega) hcap (by omega) (by rw [HLEN.out]; omega) (fun i h => below_cell hB2 (HCS.out i h))).mono ?_
    rintro e w3 ⟨rfl, hb3⟩
    have HZ3 := Lib.hid (HZ2.out.below hb3)
    have HR3 := Lib.hid (HR2.out.below hb3)
    have hB3 := below_then hB2 hB2.size hb3
    have hsz3 := Nat.le_trans hsz2 hb3.size
    clear hb3 hB2 hsz2 HR2 HZ2 hd0 hd1 hd2
    obtain ⟨q, hq⟩ : ∃ q, q = cnt a (a + k) 0 ls := ⟨_, rfl⟩
    rw [← hq] at hc ⊢
    clear hq
    have hq1 : (0 : Int) < q := by omega
    obtain ⟨⟨hr0, hr1, hr2⟩, hs0, hs1, hs2⟩ := mbox_cells HR3.out
    have hBe := ((hB3.setCell (p := ⟨z + 1, 0, none⟩) (by simp; omega) (.slice none 0 0)).setCell (p := ⟨z + 1, 1, none⟩) (by simp; omega) (.slice none 0 0)).setCell (p := ⟨z + 1, 2, none⟩) (by simp; omega) (.bool false)
    go_wp2
    exact bodyPost_ret (v := .tuple #[memZ, .int .i64 5]) (by simp [results, Try.results60, go_sem, hr0, hr1, hr2, memZ]) rfl ⟨rfl, hBe⟩

/-- What such a call hands over. -/
def LiveOk (B : Nat) (ws : List Int) (ls : List Bool) (f : Bool) (e : Ending) (w' : World) : Prop :=
  ∃ v', e = .returned (.tuple #[v', .int .i64 0]) ∧ OwnsMem w' B v' ws ls f

set_option maxRecDepth 100000 in
set_option maxHeartbeats 4000000 in
theorem live_yes (v : Value) (ws : List Int) (ls : List Bool) (f : Bool) (a k : Int) (W : World) (hv : MemAt W v ws ls f) (hcap0 : ∀ x y p n c, v = .agg #[x, .slice p n c, y] → n ≤ c) (hw : ws.length ≤ 9223372036854775807) (hk2 : k ≤ 9223372036854775807)
    (hr : rightB ws ls = true) (ht : thereB ws.length a k = true) (hc : cnt a.toNat (a.toNat + k.toNat) 0 ls = 0) :
    Calls Try.prog 60 #[v, .int .i64 a, .int .i64 k] W fun e w' => LiveOk W.heap.size (fill ws a.toNat 0 k.toNat) (fill ls a.toNat true k.toNat) f e w' ∧ Below W.heap.size W w' := by
  have hm := hv
  obtain ⟨vw, vl, rfl, ⟨pw, cw, rfl, hcw⟩, pl, cl, rfl, hcl⟩ := hv
  have hcap := hcap0 _ _ _ _ _ rfl
  clear hcap0
  have HM := Lib.hid hm
  have HCL := Lib.hid hcl
  clear hm hcw hcl
  obtain ⟨z, hz⟩ : ∃ z, z = W.heap.size := ⟨_, rfl⟩
  obtain ⟨wo, hwo⟩ : ∃ wo : World, wo = (W.alloc (.cells #[.slice pw ws.length cw, .slice pl ls.length cl, .bool f] 44)).alloc (.cells #[.slice none 0 0, .slice none 0 0, .bool false] 44) := ⟨_, rfl⟩
  have hZ : MBox wo z (.slice pw ws.length cw) (.slice pl ls.length cl) f := by rw [hwo, hz]; exact (MBox.new _ _ _ _).alloc _
  have hR : MBox wo (z + 1) (.slice none 0 0) (.slice none 0 0) false := by
    have := MBox.new (W.alloc (.cells #[.slice pw ws.length cw, .slice pl ls.length cl, .bool f] 44)) (.slice none 0 0) (.slice none 0 0) false
    rw [World.size_alloc] at this
    rw [hwo, hz]; exact this
  have hB : Below W.heap.size W wo := by rw [hwo]; exact ((Below.refl _ _).alloc (Nat.le_refl _) _).alloc (by simp) _
  have hsz : z + 2 ≤ wo.heap.size := by rw [hwo, hz]; simp
  have HZ := Lib.hid hZ
  have HR := Lib.hid hR
  clear hZ hR
  go_enter Try.func60, Try.ntmps60
  go_wp2_with fail
  rw [← hwo, ← hz]
  have hzW : W.heap.size ≤ z := Nat.le_of_eq hz.symm
  clear hwo hz
  refine (check_c _ ws ls f _ (HM.out.below hB) hw).mono ?_
  rintro e w1 ⟨rfl, hb1⟩
  have HZ1 := Lib.hid (HZ.out.below hb1)
  have HR1 := Lib.hid (HR.out.below hb1)
  have hB1 := below_then hB hB.size hb1
  have hsz1 := Nat.le_trans hsz hb1.size
  clear hb1 HZ HR hB hsz
  rw [chkM_yes hr]
  obtain ⟨⟨hd0, hd1, hd2⟩, _⟩ := mbox_cells HZ1.out
  go_wp2_with fail
  refine (there_c _ ws.length cw _ f a k hk2 hw _).mono ?_
  rintro e w2 ⟨rfl, hb2⟩
  have HZ2 := Lib.hid (HZ1.out.below hb2)
  have HR2 := Lib.hid (HR1.out.below hb2)
  have hB2 := below_then hB1 hB1.size hb2
  have hsz2 := Nat.le_trans hsz1 hb2.size
  clear hb2 hB1 hsz1 HR1 HZ1 hd0 hd1 hd2
  rw [ht]
  obtain ⟨t1, t2, t3⟩ := thereB_iff.1 ht
  obtain ⟨a, rfl⟩ := Int.eq_ofNat_of_zero_le t2
  obtain ⟨k, rfl⟩ := Int.eq_ofNat_of_zero_le (show 0 ≤ k by omega)
  obtain ⟨hn1, hn2, hlen, hmay⟩ := rightB_iff.1 hr
  clear hmay
  simp only [Int.toNat_natCast] at hc ⊢
  obtain ⟨bl, ol, rfl, hcs⟩ := HCL.out (by intro e; rw [e] at hlen; simp at hlen; omega)
  have HCS := Lib.hid hcs
  have HLEN := Lib.hid hlen
  clear hcs hlen HCL
  obtain ⟨⟨hd0, hd1, hd2⟩, _⟩ := mbox_cells HZ2.out
  go_wp2_with fail
  refine (lives_c pw ws.length cw bl ol cl ls f a k _ (by rw [HLEN.out]; omega) hcap (by omega) (by rw [HLEN.out]; omega) (fun i h => below_cell hB2 (HCS.out i h))).mono ?_
  rintro e w3 ⟨rfl, hb3⟩
  have HZ3 := Lib.hid (HZ2.out.below hb3)
  have HR3 := Lib.hid (HR2.out.below hb3)
  have hB3 := below_then hB2 hB2.size hb3
  have hsz3 := Nat.le_trans hsz2 hb3.size
  clear hb3 hB2 hsz2 HR2 HZ2 hd0 hd1 hd2
  obtain ⟨q, hq⟩ : ∃ q, q = cnt a (a + k) 0 ls := ⟨_, rfl⟩
  rw [← hq] at hc ⊢
  clear hq
  subst hc
  obtain ⟨⟨hd0, hd1, hd2⟩, _⟩ := mbox_cells HZ3.out
  go_wp2_with fail
  refine (turn_c _ ws ls f a k true 0 _ (HM.out.below hB3) hn1 hn2 HLEN.out (by omega) (by omega)).mono ?_
  rintro e w4 ⟨⟨_, rfl, vw2, vl2, rfl, how, hol⟩, hb4⟩
  obtain ⟨gw, cw2, rfl, hgw, _⟩ := own_form how (by rw [fill_length]; omega)
  obtain ⟨gl, cl2, rfl, hgl, _⟩ := own_form hol (by rw [fill_length, HLEN.out]; omega)
  obtain ⟨⟨hr0, hr1, hr2⟩, hs0, hs1, hs2⟩ := mbox_cells (HR3.out.below hb4)
  have hB4 := below_then hB3 hB3.size hb4
  have hkr : Keeps (· = z + 1) w4 (((w4.setCell ⟨z + 1, 0, none⟩ (.slice (some ⟨gw, 0, none⟩) (fill ws a 0 k).length cw2)).setCell ⟨z + 1, 1, none⟩ (.slice (some ⟨gl, 0, none⟩) (fill ls a true k).length cl2)).setCell ⟨z + 1, 2, none⟩ (.bool f)) :=
    ((Keeps.setCell w4 (S := (· = z + 1)) (p := ⟨z + 1, 0, none⟩) rfl _).trans (Keeps.setCell _ (S := (· = z + 1)) (p := ⟨z + 1, 1, none⟩) rfl _)).trans (Keeps.setCell _ (S := (· = z + 1)) (p := ⟨z + 1, 2, none⟩) rfl _)
  have ho1 := (hkr.row how (by intro g hg; simp [Value.ownBlock] at hg; omega)).mono (base' := W.heap.size) hB3.size
  have ho2 := (hkr.row hol (by intro g hg; simp [Value.ownBlock] at hg; omega)).mono (base' := W.heap.size) hB3.size
  have hBe := hB4.trans (hkr.below hB4.size (by intro q hq; omega))
  clear hkr how hol hb4 hd0 hd1 hd2
  go_wp2
  exact bodyPost_ret (v := .tuple #[.agg #[.slice (some ⟨gw, 0, none⟩) (fill ws a 0 k).length cw2, .slice (some ⟨gl, 0, none⟩) (fill ls a true k).length cl2, .bool f], .int .i64 0]) (by simp [results, Try.results60, go_sem, hr0, hr1, hr2]) rfl ⟨⟨_, rfl, _, _, rfl, ho1, ho2⟩, hBe⟩

end Go.Proofs.Ytaljpggajpoalaa
/-
  small, the chapter's memory: eight words, of which three are live; and whether two memories are the same that read so, and whether one says nothing.
  Conditions: as each has them.
-/
namespace Go.Proofs.Ytaljpggajpoalaa
open Go.RowKit Go.Shelf

/-- The chapter's memory. -/
def smallW : List Int := [0, 0, 0, 0, 0, 0, 0, 0]
def smallL : List Bool := [false, false, true, true, true, false, false, false]
def SmallOk (B : Nat) (e : Ending) (w' : World) : Prop :=
  ∃ gw cw gl cl, e = .returned (.tuple #[.agg #[.slice (some ⟨gw, 0, none⟩) 8 cw, .slice (some ⟨gl, 0, none⟩) 8 cl, .bool false], .bool true]) ∧
  w'.ownsRow B 27 1 (.slice (some ⟨gw, 0, none⟩) 8 cw) 8 (smallW.map (Value.int .u64)) ∧ w'.ownsRow B 4 1 (.slice (some ⟨gl, 0, none⟩) 8 cl) 8 (smallL.map Value.bool)

end Go.Proofs.Ytaljpggajpoalaa
/-
  Variables that hold memories and answers, as the statements of layer 2 lay them; and the contracts of own, Step and Same in that form.
  Conditions: as each has them.
-/
namespace Go.Proofs.Ytaljpggajpoalaa
open Go.RowKit Go.Shelf

/-- Block z is a variable that holds a memory that reads so. -/
def MVar (w : World) (z : Nat) (x y : Value) (ws : List Int) (ls : List Bool) (f : Bool) : Prop := MBox w z x y f ∧ NumsAt w .u64 x ws ∧ BoolsAt w y ls
theorem MVar.below {w w' : World} {z : Nat} {x y : Value} {ws : List Int} {ls : List Bool} {f : Bool} (h : MVar w z x y ws ls f) (hb : Below w.heap.size w w') : MVar w' z x y ws ls f :=
  ⟨h.1.below hb, nums_below h.2.1 hb, bools_below h.2.2 hb⟩
theorem MVar.mem {w : World} {z : Nat} {x y : Value} {ws : List Int} {ls : List Bool} {f : Bool} (h : MVar w z x y ws ls f) : MemAt w (.agg #[x, y, .bool f]) ws ls f := ⟨_, _, rfl, h.2.1, h.2.2⟩
theorem MVar.cells {w : World} {z : Nat} {x y : Value} {ws : List Int} {ls : List Bool} {f : Bool} (h : MVar w z x y ws ls f) : w.cell? ⟨z, 0, none⟩ = some x ∧ w.cell? ⟨z, 1, none⟩ = some y ∧ w.cell? ⟨z, 2, none⟩ = some (.bool f) := (mbox_cells h.1).1
theorem GBox.cells {w : World} {z : Nat} {g : Int} {d : Bool} (h : GBox w z g d) : w.cell? ⟨z, 0, none⟩ = some (.int .u64 g) ∧ w.cell? ⟨z, 1, none⟩ = some (.bool d) := (gbox_cells h).1

/-- What a call leaves that answers a memory: it reads so, and so do all memories that did. -/
def ReadsMem (ws : List Int) (ls : List Bool) (f : Bool) (e : Ending) (w' : World) : Prop := ∃ p0 n0 c0 p1 n1 c1, e = .returned (.agg #[.slice p0 n0 c0, .slice p1 n1 c1, .bool f]) ∧ NumsAt w' .u64 (.slice p0 n0 c0) ws ∧ BoolsAt w' (.slice p1 n1 c1) ls
theorem GivesMem.reads {B : Nat} {ws : List Int} {ls : List Bool} {f : Bool} {e : Ending} {w' : World} (h : GivesMem B ws ls f e w') : ReadsMem ws ls f e w' := by
  obtain ⟨v, rfl, vw, vl, rfl, h0, h1⟩ := h
  have a0 := nums_of_owns rfl h0
  have a1 := bools_of_owns rfl h1
  obtain ⟨p0, c0, rfl, _⟩ := id a0
  obtain ⟨p1, c1, rfl, _⟩ := id a1
  exact ⟨_, _, _, _, _, _, rfl, a0, a1⟩
/-- What a call leaves that answers a memory, what an access came to, and an error. -/
def ReadsStep (ls : List Bool) (r : List Int × Bool × (Int × Bool)) (e : Ending) (w' : World) : Prop := ∃ p0 n0 c0 p1 n1 c1, e = .returned (.tuple #[.agg #[.slice p0 n0 c0, .slice p1 n1 c1, .bool r.2.1], .agg #[.int .u64 r.2.2.1, .bool r.2.2.2], .int .i64 0]) ∧ NumsAt w' .u64 (.slice p0 n0 c0) r.1 ∧ BoolsAt w' (.slice p1 n1 c1) ls
theorem StepOk.reads {B : Nat} {ls : List Bool} {r : List Int × Bool × (Int × Bool)} {e : Ending} {w' : World} (h : StepOk B ls r e w') : ReadsStep ls r e w' := by
  obtain ⟨gw, cw, gl, cl, rfl, h0, h1⟩ := h
  exact ⟨_, _, _, _, _, _, rfl, nums_of_owns rfl h0, bools_of_owns rfl h1⟩

/-- A variable for a memory is made, and given one. -/
def putM (w : World) (x y : Value) (f : Bool) : World := w.alloc (.cells #[x, y, .bool f] 44)
theorem putM_box (w : World) (x y : Value) (f : Bool) : MBox (putM w x y f) w.heap.size x y f := MBox.new w x y f
theorem putM_below (w : World) (x y : Value) (f : Bool) : Below w.heap.size w (putM w x y f) := (Below.refl _ _).alloc (Nat.le_refl _) _
theorem putM_var {w : World} {x y : Value} {ws : List Int} {ls : List Bool} (f : Bool) (h0 : NumsAt w .u64 x ws) (h1 : BoolsAt w y ls) : MVar (putM w x y f) w.heap.size x y ws ls f :=
  ⟨putM_box _ _ _ _, nums_below h0 (putM_below _ _ _ _), bools_below h1 (putM_below _ _ _ _)⟩

/-- Variables for a memory and an answer are made, and given them. -/
def putMG (w : World) (x y : Value) (f : Bool) (g : Int) (d : Bool) : World := (w.alloc (.cells #[x, y, .bool f] 44)).alloc (.cells #[.int .u64 g, .bool d] 120)
theorem putMG_below (w : World) (x y : Value) (f : Bool) (g : Int) (d : Bool) : Below w.heap.size w (putMG w x y f g d) := ((Below.refl _ _).alloc (Nat.le_refl _) _).alloc (by simp) _
theorem putMG_box (w : World) (x y : Value) (f : Bool) (g : Int) (d : Bool) : MBox (putMG w x y f g d) w.heap.size x y f ∧ GBox (putMG w x y f g d) (w.heap.size + 1) g d := by
  have h1 : GBox (putMG w x y f g d) (w.alloc (.cells #[x, y, .bool f] 44)).heap.size g d := World.alloc_heap_new _ _
  rw [World.size_alloc] at h1
  exact ⟨(MBox.new w x y f).alloc _, h1⟩
theorem putMG_var {w : World} {x y : Value} {ws : List Int} {ls : List Bool} (f : Bool) (g : Int) (d : Bool) (h0 : NumsAt w .u64 x ws) (h1 : BoolsAt w y ls) : MVar (putMG w x y f g d) w.heap.size x y ws ls f ∧ GBox (putMG w x y f g d) (w.heap.size + 1) g d :=
  ⟨⟨(putMG_box _ _ _ _ _ _).1, nums_below h0 (putMG_below _ _ _ _ _ _), bools_below h1 (putMG_below _ _ _ _ _ _)⟩, (putMG_box _ _ _ _ _ _).2⟩
/-- What Step leaves, put into variables. -/
theorem step_put {ls : List Bool} {r : List Int × Bool × (Int × Bool)} {us : List Int} {f : Bool} {g : Int} {d : Bool} {e : Ending} {w' : World} (h : ReadsStep ls r e w') (hr : r = (us, f, g, d)) :
    ∃ p0 n0 c0 p1 n1 c1, e = .returned (.tuple #[.agg #[.slice p0 n0 c0, .slice p1 n1 c1, .bool f], .agg #[.int .u64 g, .bool d], .int .i64 0]) ∧
    ∃ w3, w3 = putMG w' (.slice p0 n0 c0) (.slice p1 n1 c1) f g d ∧ MVar w3 w'.heap.size (.slice p0 n0 c0) (.slice p1 n1 c1) us ls f ∧ GBox w3 (w'.heap.size + 1) g d ∧ Below w'.heap.size w' w3 := by
  subst hr
  obtain ⟨p0, n0, c0, p1, n1, c1, rfl, h0, h1⟩ := h
  exact ⟨p0, n0, c0, p1, n1, c1, rfl, _, rfl, (putMG_var f g d h0 h1).1, (putMG_var f g d h0 h1).2, putMG_below _ _ _ _ _ _⟩

theorem liveAt_lt {ws : List Int} {ls : List Bool} {a : Int} (h : liveAt ws ls a = true) : a.toNat < ws.length ∧ 0 ≤ a ∧ ls.getD a.toNat false = true := by
  simp only [liveAt, Bool.and_eq_true] at h
  have := thereB_iff.1 h.1
  exact ⟨by omega, by omega, h.2⟩
theorem liveAt_set (ws : List Int) (ls : List Bool) (a n : Int) (i : Nat) : liveAt (ws.set i n) ls a = liveAt ws ls a := by simp [liveAt]
theorem rightB_set {ws : List Int} {ls : List Bool} (h : rightB ws ls = true) {a : Int} (hl : liveAt ws ls a = true) (n : Int) : rightB (ws.set a.toNat n) ls = true := by
  obtain ⟨h1, h2, h3, h4⟩ := rightB_iff.1 h
  obtain ⟨hlt, ha, hd⟩ := liveAt_lt hl
  refine rightB_iff.2 ⟨by simpa using h1, by simpa using h2, by simpa using h3, fun i hi hi' => ?_⟩
  rw [List.getElem_set]
  split
  · rename_i e
    subst e
    rw [List.getD_eq_getElem?_getD, List.getElem?_eq_getElem hi'] at hd
    have : ls[a.toNat] = true := by simpa using hd
    rw [this]; rfl
  · exact h4 i (by simpa using hi) hi'
theorem getD_set {ws : List Int} {ls : List Bool} {a : Int} (hl : liveAt ws ls a = true) (n : Int) : (ws.set a.toNat n).getD a.toNat 0 = n := by
  have := (liveAt_lt hl).1
  simp [List.getD_eq_getElem?_getD, this]
theorem accM_load {ws : List Int} {ls : List Bool} {a : Int} (hl : liveAt ws ls a = true) (f : Bool) (o n : Int) : accM ws ls f 1 a o n = (ws, f, ws.getD a.toNat 0, true) := by simp [accM, hl]
theorem accM_out {ws : List Int} {ls : List Bool} {a : Int} (hl : liveAt ws ls a = false) (f : Bool) (k o n : Int) : accM ws ls f k a o n = (ws, true, 0, false) := by simp [accM, hl]
theorem accM_yes {ws : List Int} {ls : List Bool} {a : Int} (hl : liveAt ws ls a = true) (f : Bool) (o n : Int) (h : ws.getD a.toNat 0 = o) : accM ws ls f 3 a o n = (ws.set a.toNat n, f, ws.getD a.toNat 0, true) := by simp [accM, hl, -List.getD_eq_getElem?_getD, h]
theorem accM_no {ws : List Int} {ls : List Bool} {a : Int} (hl : liveAt ws ls a = true) (f : Bool) (o n : Int) (h : ws.getD a.toNat 0 ≠ o) : accM ws ls f 3 a o n = (ws, f, ws.getD a.toNat 0, false) := by simp [accM, hl, -List.getD_eq_getElem?_getD, h]
theorem accM_store {ws : List Int} {ls : List Bool} {a : Int} (hl : liveAt ws ls a = true) (f : Bool) (o n : Int) : accM ws ls f 2 a o n = (ws.set a.toNat n, f, ws.getD a.toNat 0, true) := by simp [accM, hl]

/-- Block z is a variable that holds three words. -/
def ABox (w : World) (z : Nat) (x y t : Int) : Prop := w.heap[z]? = some (.cells #[.int .u64 x, .int .u64 y, .int .u64 t] 76 (0, 0))
theorem ABox.below {w w' : World} {z : Nat} {x y t : Int} (h : ABox w z x y t) (hk : Below w.heap.size w w') : ABox w' z x y t := (hk.block z (Array.getElem?_eq_some_iff.1 h).1).trans h
theorem ABox.cells {w : World} {z : Nat} {x y t : Int} (h : ABox w z x y t) : w.cell? ⟨z, 0, none⟩ = some (.int .u64 x) ∧ w.cell? ⟨z, 1, none⟩ = some (.int .u64 y) ∧ w.cell? ⟨z, 2, none⟩ = some (.int .u64 t) := by
  have h' : w.heap[z]? = _ := h
  simp [World.cell?, h']
theorem ArgR.below {w w' : World} {v : Value} {xs : List Value} (h : ArgR w v xs) (hb : Below w.heap.size w w') : ArgR w' v xs := by
  obtain ⟨p, n, c, rfl, hn, h⟩ := h
  refine ⟨p, n, c, rfl, hn, ?_⟩
  rcases h with h | ⟨a, rfl, hc, hcs⟩
  · exact .inl h
  · exact .inr ⟨a, rfl, hc, fun j u hj => below_cell hb (hcs j u hj)⟩
theorem ArgR.from {B : Nat} {w w' : World} {v : Value} {xs : List Value} (h : ArgR w v xs) (hb : Below B w w') (hB : B = w.heap.size) : ArgR w' v xs := by
  subst hB; exact h.below hb

end Go.Proofs.Ytaljpggajpoalaa
/-
  Variables that hold memories of their own, and accesses; what is written into other variables leaves them alone.
  Conditions: as each has them.
-/
namespace Go.Proofs.Ytaljpggajpoalaa
open Go.RowKit Go.Shelf

theorem Keeps.row' {S : Nat → Prop} {a b : World} (h : Keeps S a b) {B : Nat} {E : TypeId} {size : Nat} {v : Value} {n : Nat} {xs : List Value} (hr : a.ownsRow B E size v n xs) (hS : ∀ q, S q → q < B) : b.ownsRow B E size v n xs :=
  h.row hr fun g hg hs => by have h1 := (hr.lt g hg).1; have h2 := hS g hs; omega

/-- Block z is a variable that holds a memory of its own, newer than block B. -/
def OVar (w : World) (B z : Nat) (x y : Value) (ws : List Int) (ls : List Bool) (f : Bool) : Prop := B ≤ z ∧ MBox w z x y f ∧ w.ownsRow B 27 1 x ws.length (ws.map (Value.int .u64)) ∧ w.ownsRow B 4 1 y ls.length (ls.map Value.bool)
theorem OVar.below {w w' : World} {B z : Nat} {x y : Value} {ws : List Int} {ls : List Bool} {f : Bool} (h : OVar w B z x y ws ls f) (hb : Below w.heap.size w w') : OVar w' B z x y ws ls f :=
  ⟨h.1, h.2.1.below hb, owns_below h.2.2.1 hb, owns_below h.2.2.2 hb⟩
theorem OVar.keeps {w w' : World} {B z : Nat} {x y : Value} {ws : List Int} {ls : List Bool} {f : Bool} (h : OVar w B z x y ws ls f) {S : Nat → Prop} (hk : Keeps S w w') (hS : ∀ q, S q → q < B) : OVar w' B z x y ws ls f :=
  ⟨h.1, h.2.1.keeps hk (fun hs => by have := hS _ hs; have := h.1; omega), hk.row' h.2.2.1 hS, hk.row' h.2.2.2 hS⟩
theorem OVar.var {w : World} {B z : Nat} {x y : Value} {ws : List Int} {ls : List Bool} {f : Bool} (h : OVar w B z x y ws ls f) : MVar w z x y ws ls f := ⟨h.2.1, nums_of_owns rfl h.2.2.1, bools_of_owns rfl h.2.2.2⟩
theorem OVar.mem {w : World} {B z : Nat} {x y : Value} {ws : List Int} {ls : List Bool} {f : Bool} (h : OVar w B z x y ws ls f) : MemAt w (.agg #[x, y, .bool f]) ws ls f := h.var.mem
theorem OVar.cells {w : World} {B z : Nat} {x y : Value} {ws : List Int} {ls : List Bool} {f : Bool} (h : OVar w B z x y ws ls f) : w.cell? ⟨z, 0, none⟩ = some x ∧ w.cell? ⟨z, 1, none⟩ = some y ∧ w.cell? ⟨z, 2, none⟩ = some (.bool f) := h.var.cells
theorem owns_slice {w : World} {B : Nat} {E : TypeId} {s n : Nat} {v : Value} {xs : List Value} (h : w.ownsRow B E s v n xs) : ∃ p c, v = .slice p n c := by
  rcases h.2 with ⟨rfl, rfl⟩ | ⟨g, cap, cur, rfl, _⟩
  · exact ⟨_, _, rfl⟩
  · exact ⟨_, _, rfl⟩
theorem own_put {B : Nat} {ws : List Int} {ls : List Bool} {f : Bool} {e : Ending} {w' : World} (h : GivesMem B ws ls f e w') (hB : B ≤ w'.heap.size) :
    ∃ p0 c0 p1 c1, e = .returned (.agg #[.slice p0 ws.length c0, .slice p1 ls.length c1, .bool f]) ∧
    ∃ w3, w3 = putM w' (.slice p0 ws.length c0) (.slice p1 ls.length c1) f ∧ OVar w3 B w'.heap.size (.slice p0 ws.length c0) (.slice p1 ls.length c1) ws ls f ∧ Below w'.heap.size w' w3 := by
  obtain ⟨v, rfl, vw, vl, rfl, h0, h1⟩ := h
  obtain ⟨p0, c0, rfl⟩ := owns_slice h0
  obtain ⟨p1, c1, rfl⟩ := owns_slice h1
  exact ⟨_, _, _, _, rfl, _, rfl, ⟨hB, putM_box _ _ _ _, owns_below h0 (putM_below _ _ _ _), owns_below h1 (putM_below _ _ _ _)⟩, putM_below _ _ _ _⟩
theorem step_putO {B : Nat} {ls : List Bool} {r : List Int × Bool × (Int × Bool)} {us : List Int} {f : Bool} {g : Int} {d : Bool} {e : Ending} {w' : World} (h : StepOk B ls r e w') (hB : B ≤ w'.heap.size) (hr : r = (us, f, g, d)) :
    ∃ p0 c0 p1 c1, e = .returned (.tuple #[.agg #[.slice p0 us.length c0, .slice p1 ls.length c1, .bool f], .agg #[.int .u64 g, .bool d], .int .i64 0]) ∧
    ∃ w3, w3 = putMG w' (.slice p0 us.length c0) (.slice p1 ls.length c1) f g d ∧ OVar w3 B w'.heap.size (.slice p0 us.length c0) (.slice p1 ls.length c1) us ls f ∧ GBox w3 (w'.heap.size + 1) g d ∧ Below w'.heap.size w' w3 := by
  subst hr
  obtain ⟨gw, cw, gl, cl, rfl, h0, h1⟩ := h
  exact ⟨_, _, _, _, rfl, _, rfl, ⟨hB, (putMG_box _ _ _ _ _ _).1, owns_below h0 (putMG_below _ _ _ _ _ _), owns_below h1 (putMG_below _ _ _ _ _ _)⟩, (putMG_box _ _ _ _ _ _).2, putMG_below _ _ _ _ _ _⟩

/-- Block z is a variable that holds an access. -/
def AcBox (w : World) (z : Nat) (k a o n : Int) : Prop := w.heap[z]? = some (.cells #[.int .i64 k, .int .i64 a, .int .u64 o, .int .u64 n] 118 (0, 0))
theorem AcBox.lt {w : World} {z : Nat} {k a o n : Int} (h : AcBox w z k a o n) : z < w.heap.size := (Array.getElem?_eq_some_iff.1 h).1
theorem AcBox.below {w w' : World} {z : Nat} {k a o n : Int} (h : AcBox w z k a o n) (hk : Below w.heap.size w w') : AcBox w' z k a o n := (hk.block z h.lt).trans h
theorem AcBox.keeps {S : Nat → Prop} {w w' : World} {z : Nat} {k a o n : Int} (h : AcBox w z k a o n) (hk : Keeps S w w') (hz : ¬ S z) : AcBox w' z k a o n := (hk.block z h.lt hz).trans h
theorem AcBox.cells {w : World} {z : Nat} {k a o n : Int} (h : AcBox w z k a o n) : w.cell? ⟨z, 0, none⟩ = some (.int .i64 k) ∧ w.cell? ⟨z, 1, none⟩ = some (.int .i64 a) ∧ w.cell? ⟨z, 2, none⟩ = some (.int .u64 o) ∧ w.cell? ⟨z, 3, none⟩ = some (.int .u64 n) := by
  have h' : w.heap[z]? = _ := h
  simp [World.cell?, h']
theorem AcBox.free {w : World} {z : Nat} {k a o n : Int} (h : AcBox w z k a o n) : w.frozen? ⟨z, 0, none⟩ = false ∧ w.frozen? ⟨z, 1, none⟩ = false := by
  have h' : w.heap[z]? = _ := h
  simp [World.frozen?, h']
theorem AcBox.setKind {w : World} {z : Nat} {k a o n : Int} (h : AcBox w z k a o n) (k' : Int) : AcBox (w.setCell ⟨z, 0, none⟩ (.int .i64 k')) z k' a o n := by
  have h1 := heap_setCell_same w z 0 _ _ (.int .i64 k') h
  unfold AcBox
  rw [h1]; rfl
theorem AcBox.setAt {w : World} {z : Nat} {k a o n : Int} (h : AcBox w z k a o n) (a' : Int) : AcBox (w.setCell ⟨z, 1, none⟩ (.int .i64 a')) z k a' o n := by
  have h1 := heap_setCell_same w z 1 _ _ (.int .i64 a') h
  unfold AcBox
  rw [h1]; rfl

theorem MVar.memF {w : World} {z : Nat} {x y : Value} {ws : List Int} {ls : List Bool} {f g : Bool} (h : MVar w z x y ws ls f) : MemAt w (.agg #[x, y, .bool g]) ws ls g := ⟨_, _, rfl, h.2.1, h.2.2⟩
theorem kind_in (k : Int) : 1 ≤ wrap64 (1 + wrap64 ((IntKind.u64.wrap k).tmod 3)) ∧ wrap64 (1 + wrap64 ((IntKind.u64.wrap k).tmod 3)) ≤ 3 := by
  have h0 : 0 ≤ IntKind.u64.wrap k := by simp [IntKind.wrap, IntKind.signed, IntKind.bits]; omega
  rw [Int.tmod_eq_emod_of_nonneg h0]
  unfold wrap64
  omega

/-- What an access of another word leaves: the word is as it was, and a fault stays one. -/
theorem acc_other {ws : List Int} {ls : List Bool} {a b : Int} (hr : rightB ws ls = true) (hl : liveAt ws ls a = true) (hne : b ≠ a) (f : Bool) (k o n : Int) :
    ∃ u f' g d, accM ws ls f k b o n = (u, f', g, d) ∧ u.length = ws.length ∧ rightB u ls = true ∧ liveAt u ls a = true ∧ u.getD a.toNat 0 = ws.getD a.toNat 0 ∧ (f = true → f' = true) := by
  unfold accM
  cases hb : liveAt ws ls b with
  | false => simp only [Bool.false_eq_true, if_false]; exact ⟨_, _, _, _, rfl, rfl, hr, hl, rfl, fun _ => rfl⟩
  | true =>
    simp only [if_true]
    have hn : b.toNat ≠ a.toNat := by have h1 := (liveAt_lt hb).2.1; have h2 := (liveAt_lt hl).2.1; omega
    split
    · exact ⟨_, _, _, _, rfl, rfl, hr, hl, rfl, id⟩
    · split
      · refine ⟨_, _, _, _, rfl, by simp, rightB_set hr hb n, by rw [liveAt_set]; exact hl, ?_, id⟩
        simp [hn]
      · exact ⟨_, _, _, _, rfl, rfl, hr, hl, rfl, id⟩

theorem nums_cells {w : World} {k : IntKind} {q : Option Addr} {n d : Nat} {ns : List Int} (h : NumsAt w k (.slice q n d) ns) (hn : 0 < ns.length) : ∃ b off, q = some ⟨b, off, none⟩ ∧ ∀ i (hi : i < ns.length), w.cell? ⟨b, off + i, none⟩ = some (.int k ns[i]) := by
  obtain ⟨p, c, e, hc⟩ := h
  injection e with e1 _ _
  subst e1
  exact hc (List.length_pos_iff.1 hn)
theorem get_set_ne {us u2 : List Int} {a : Nat} {n : Int} (h : u2 = us.set a n) {i : Nat} (hne : a ≠ i) (h1 : i < u2.length) (h2 : i < us.length) : u2[i] = us[i] := by
  subst h
  rw [List.getElem_set_ne hne]

end Go.Proofs.Ytaljpggajpoalaa
/-
  own, of package seq: words in memory of their own.
  Conditions: fewer than 2 to the power 40 of them.
-/
namespace Go.Proofs.Ytaljpggajpoalaa
open Go.RowKit Go.Shelf
attribute [local go_sem] Oper.semAt_some

theorem eword_info : (Try.prog.info? 27).map (fun i => (i.zero, i.size, i.bytes)) = some (some (.int .u64 0), 1, 8) := by kernel_rfl
theorem run_makeW (n : Nat) (hn : n ≤ 1099511627776) (w : World) : (Instr.makeSlice 24 (.int .i64 (n : Int)) (.int .i64 (n : Int))).run Try.prog w = .ok (.slice (some ⟨w.heap.size, 0, none⟩) n n) (w.alloc (.cells (Array.replicate n (Value.int .u64 0)) 27)) := by
  obtain ⟨i0, hi, hz0, hz1, hz2⟩ := info_parts eword_info
  have := run_make (P := Try.prog) w 24 27 i0 (.int .u64 0) Try.underlying24 hi hz0 .i64 .i64 (n : Int) (n : Int) (by omega) (by omega) (by rw [hz2]; omega) (by omega)
  rw [this, hz1]
  have e : madeCells (Value.int .u64 0).cells ((n : Int).toNat * 1) = Array.replicate n (Value.int .u64 0) := by
    apply Array.toList_inj.1
    rw [Nat.mul_one, Int.toNat_natCast, Array.toList_replicate]
    exact toList_madeCells_one _ n
  rw [e]
  simp
set_option maxRecDepth 100000 in
set_option maxHeartbeats 4000000 in
theorem eown (v : Value) (vs : List Int) (W : World) (hv : NumsAt W .u64 v vs) (hn : vs.length ≤ 1099511627776) :
    Calls Try.prog 39 #[v] W fun e w' => (∃ q c, e = .returned (.slice q vs.length c) ∧ w'.ownsRow W.heap.size 27 1 (.slice q vs.length c) vs.length (vs.map (Value.int .u64))) ∧ Below W.heap.size W w' := by
  obtain ⟨p, cap, rfl, hc⟩ := hv
  obtain ⟨n, hn0⟩ : ∃ n, n = vs.length := ⟨_, rfl⟩
  rw [← hn0] at hn ⊢
  have hmk := run_makeW n hn
  obtain ⟨w1, hw1⟩ : ∃ w : World, w = W.alloc (.cells (Array.replicate n (Value.int .u64 0)) 27) := ⟨_, rfl⟩
  obtain ⟨g, hg⟩ : ∃ g, g = W.heap.size := ⟨_, rfl⟩
  have hb1 : Below g W w1 := by rw [hw1, hg]; exact (Below.refl _ _).alloc (Nat.le_refl _) _
  have hg1 : w1.heap[g]? = some (.cells (List.replicate n (Value.int .u64 0)).toArray 27 (0, 0)) := by rw [hw1, hg, List.toArray_replicate]; exact World.alloc_heap_new _ _
  have HSR := Lib.hid (show 0 < (vs.map (Value.int .u64)).length → (some (⟨g, 0, none⟩ : Addr)) = some ⟨g, 0, none⟩ ∧ ∃ ad, p = some ad ∧ ∀ j u, (vs.map (Value.int .u64))[j]? = some u → w1.cell? (ad.add j) = some u from fun hpos => by
    refine ⟨rfl, ?_⟩
    obtain ⟨b, off, rfl, hcs⟩ := hc (by rintro rfl; simp at hpos)
    refine ⟨_, rfl, fun j u hj => ?_⟩
    obtain ⟨hj1, rfl⟩ := List.getElem?_eq_some_iff.1 hj
    rw [List.length_map] at hj1
    rw [addr_add_off, List.getElem_map]
    exact below_cell (by rw [← hg]; exact hb1) (hcs j hj1))
  have HLN := Lib.hid (show (vs.map (Value.int .u64)).length = Nat.min n n by rw [List.length_map, ← hn0]; exact (Nat.min_self n).symm)
  have HFT := Lib.hid (show 0 + (vs.map (Value.int .u64)).length ≤ (List.replicate n (Value.int .u64 0)).length by rw [List.length_map, List.length_replicate, ← hn0]; omega)
  have HOC := Lib.hid (show ∀ u ∈ vs.map (Value.int .u64), u.oneCell' = true from fun u hu => by obtain ⟨x, _, rfl⟩ := List.mem_map.1 hu; rfl)
  have HG1 := Lib.hid hg1
  have HB1 := Lib.hid hb1
  have HW1 := Lib.hid (And.intro hw1 hg)
  have HN := Lib.hid hn0
  clear hb1 hg1 hw1 hg hc hn0
  go_enter Try.func39, Try.ntmps39
  go_upto_region 2 with fail
  rw [← HW1.out.1, ← HW1.out.2]
  clear hmk
  go_wp2_with (with_reducible refine wpList_copy_splice (o := ⟨some 9, _, _, _, _, _⟩) rfl (.tmp 7) (.tmp 8) 24 24 rfl 27 Try.underlying24 (by kernel_rfl) (some ⟨g, 0, none⟩) p n n n cap rfl rfl g 0 (List.replicate n (Value.int .u64 0)) 27 HG1.out (vs.map (Value.int .u64)) HLN.out HSR.out HFT.out HOC.out g W HB1.out (Nat.le_refl _) ?_; intro w2 HG2 hB2)
  have hsp : splice (List.replicate n (Value.int .u64 0)) 0 (vs.map (Value.int .u64)) = vs.map (Value.int .u64) := by
    unfold splice
    rw [List.take_zero, List.nil_append, List.drop_eq_nil_of_le (by rw [List.length_replicate, List.length_map, ← HN.out]; omega), List.append_nil]
  rw [hsp] at HG2
  have HE := Lib.hid (show w2.ownsRow g 27 1 (.slice (some ⟨g, 0, none⟩) n n) n (vs.map (Value.int .u64)) from ⟨by rw [List.length_map, ← HN.out]; omega, .inr ⟨g, n, _, rfl, Nat.le_refl _, HG2.out, Nat.le_refl _, by unfold maxLen; omega, by rw [List.size_toArray, List.length_map, ← HN.out]; omega, by rw [List.toList_toArray]; exact List.take_of_length_le (by rw [List.length_map, ← HN.out]; omega)⟩⟩)
  have HB := Lib.hid hB2
  clear HG2 hB2 hsp HG1 HB1
  go_wp2
  go_ret
  exact ⟨⟨_, _, rfl, by rw [← HW1.out.2]; exact HE.out⟩, by rw [← HW1.out.2]; exact HB.out⟩

end Go.Proofs.Ytaljpggajpoalaa
/-
  A region that draws its order, loads cells, and at its end writes over them: what holds throughout (T), and what holds till the first of its last operations (S).
  Conditions: each of the last operations waits for each load of a cell that they write over.
-/
namespace Go.Proofs.Ytaljpggajpoalaa
open Go

section
variable {P : Program} {ops : Array Oper} {Q : Exit → Act → World → Prop} {md : Region.Mode} {T S : World → Prop} {late : Nat → Bool}

/-- Behind operation i, which was carried out in the world w. -/
def Kept (T S : World → Prop) (late : Nat → Bool) (i : Nat) (w w' : World) : Prop := T w' ∧ (late i = false → S w → S w')
/-- Whatever is picked from here on; behind each operation its word is kept. -/
def wpTwo (P : Program) (md : Region.Mode) (ops : Array Oper) (Q : Exit → Act → World → Prop) (T S : World → Prop) (late : Nat → Bool) : Nat → Array Bool → Act → World → Prop
  | 0, did, a, w => Region.ready md ops did = [] ∧ Q .normal a w
  | n + 1, did, a, w => (Region.ready md ops did = [] → Q .normal a w) ∧
      ∀ i ∈ Region.ready md ops did, wpOp P ops Q i (fun a' w' => Kept T S late i w w' ∧ wpTwo P md ops Q T S late n (did.setIfInBounds i true) a' w') a w
theorem wpTwo_any : ∀ (n : Nat) (did : Array Bool) (a : Act) (w : World), wpTwo P md ops Q T S late n did a w → wpAny P md ops Q n did a w
  | 0, _, _, _, h => h
  | n + 1, _, _, _, h => ⟨h.1, fun i hi => wpOp_mono (fun _ _ hx => wpTwo_any n _ _ _ hx.2) (h.2 i hi)⟩
theorem wpTwo_begin {id : Nat} {a : Act} {w : World} (hm : P.follows .mixedOrders = true) (h : wpTwo P .any ops Q T S late ops.size (Array.replicate ops.size false) a w.drew) : (Code.region id ops true).wp P Q a w :=
  wp_region_any hm (wpTwo_any _ _ _ _ h)
theorem wpTwo_end {did : Array Bool} {a : Act} {w : World} (hr : Region.ready md ops did = []) (h : Q .normal a w) : ∀ n, wpTwo P md ops Q T S late n did a w
  | 0 => ⟨hr, h⟩
  | _ + 1 => ⟨fun _ => h, fun i hi => by rw [hr] at hi; cases hi⟩

/-- An operation that is ready, and yields v in each world that meets R, may be the next: if R is kept by each one that does not wait for it. -/
theorem wpTwo_next {R : World → Prop} {i : Nat} {oi : Oper} {v : Value} (hi : ops[i]? = some oi) (hs : Region.noSelect ops = true)
    (hQ : ∀ c a w, Q (.panic c) (a.put oi.dst v) w → Q (.panic c) a w) (hT : ∀ w, R w → T w)
    (hR : ∀ j oj, ops[j]? = some oj → (∀ e ∈ oj.after, Region.binds md e = true → e.on ≠ i) → ∀ w w', R w → Kept T S late j w w' → R w') (n : Nat) :
    ∀ (did : Array Bool) (a : Act) (w : World), (∀ j oj, ops[j]? = some oj → j ≠ i → did.getD j true = false → (∀ e ∈ oj.after, Region.binds md e = true → e.on ≠ i) → oi.apart ops oj = true) →
      i ∈ Region.ready md ops did → YieldsIf P ops R oi v a → R w → wpTwo P md ops Q T S late n (did.setIfInBounds i true) (a.put oi.dst v) w → wpTwo P md ops Q T S late (n + 1) did a w := by
  have hsel := Region.noSelect_spec hs
  -- the operation itself, where it is picked
  have self : ∀ (n : Nat) (did : Array Bool) (a : Act) (w : World), YieldsIf P ops R oi v a → R w → wpTwo P md ops Q T S late n (did.setIfInBounds i true) (a.put oi.dst v) w →
      wpOp P ops Q i (fun a' w' => Kept T S late i w w' ∧ wpTwo P md ops Q T S late n (did.setIfInBounds i true) a' w') a w :=
    fun _ _ _ w hy hw h => hy.wpOp hi hw ⟨⟨hT w hw, fun _ => id⟩, h⟩
  induction n with
  | zero =>
    intro did a w _ hr hy hw h
    refine ⟨fun e => (List.ne_nil_of_mem hr e).elim, fun j hj => ?_⟩
    by_cases e : j = i
    · subst e; exact self _ _ _ _ hy hw h
    · have := ready_mono hj e
      rw [h.1] at this
      cases this
  | succ n ih =>
    intro did a w hfree hr hy hw h
    refine ⟨fun e => (List.ne_nil_of_mem hr e).elim, fun j hj => ?_⟩
    by_cases e : j = i
    · subst e; exact self _ _ _ _ hy hw h
    · obtain ⟨hun, oj, hoj, hall⟩ := mem_ready.1 hj
      have hiun := (mem_ready.1 hr).1
      have hno : ∀ x ∈ oj.after, Region.binds md x = true → x.on ≠ i := fun x hx hb hxi => by
        have h1 := hall x hx hb
        rw [hxi, getD_both hiun] at h1
        cases h1
      refine wpOp_mono (fun a' w' hx => ⟨hx.2.1, ih (did.setIfInBounds j true) a' w' (fun k ok hk hki hkun hkno => hfree k ok hk hki (by
        by_cases hjk : j = k
        · subst hjk; exact hun
        · rwa [getD_set_ne true hjk] at hkun) hkno) (ready_mono hr (Ne.symm e)) hx.1 (hR j oj hoj hno w w' hw hx.2.1) ?_⟩) (wpOp_putIf hoj (hfree j oj hoj e hun hno) (fun cs b => hsel i oi cs b hi) (fun cs b => hsel j oj cs b hoj) hQ hy (h.2 j (ready_mono hj e)))
      rw [Array.setIfInBounds_comm _ _ e]
      exact hx.2.2

/-- Taken by what holds throughout. -/
theorem wpTwo_takeT {i : Nat} {oi : Oper} {v : Value} {n : Nat} {did : Array Bool} {a : Act} {w : World} (hi : ops[i]? = some oi) (hs : Region.noSelect ops = true) (hf : Region.free md ops did i = true)
    (hr : (Region.ready md ops did).contains i = true) (hQ : ∀ c a w, Q (.panic c) (a.put oi.dst v) w → Q (.panic c) a w)
    (hy : Region.wanted oi (yielded ops a.tmps) = true ∧ ∀ w, T w → (execOp a.eval oi).run P w = .ok (.value v) w) (hw : T w)
    (h : wpTwo P md ops Q T S late n (did.setIfInBounds i true) (a.put oi.dst v) w) : wpTwo P md ops Q T S late (n + 1) did a w :=
  wpTwo_next (R := T) hi hs hQ (fun _ h => h) (fun _ _ _ _ _ _ _ hk => hk.1) n did a w (Region.free_spec hi hf) (by simpa using hr) (.inl hy) hw h
/-- Taken by what holds till the last ones begin: they wait for it. -/
theorem wpTwo_takeS {i : Nat} {oi : Oper} {v : Value} {n : Nat} {did : Array Bool} {a : Act} {w : World} (hl : ∀ j, late j = true → Region.waitsFor md ops j i = true) (hi : ops[i]? = some oi) (hs : Region.noSelect ops = true) (hf : Region.free md ops did i = true)
    (hr : (Region.ready md ops did).contains i = true) (hQ : ∀ c a w, Q (.panic c) (a.put oi.dst v) w → Q (.panic c) a w)
    (hy : Region.wanted oi (yielded ops a.tmps) = true ∧ ∀ w, T w ∧ S w → (execOp a.eval oi).run P w = .ok (.value v) w) (hw : T w ∧ S w)
    (h : wpTwo P md ops Q T S late n (did.setIfInBounds i true) (a.put oi.dst v) w) : wpTwo P md ops Q T S late (n + 1) did a w :=
  wpTwo_next (R := fun w => T w ∧ S w) hi hs hQ (fun _ h => h.1) (fun j oj hoj hno w w' hR hk => ⟨hk.1, hk.2 (by
    cases hlj : late j with
    | false => rfl
    | true =>
      obtain ⟨o', ho', e, he, hb, hei⟩ := Region.waitsFor_spec (hl j hlj)
      rw [hoj] at ho'
      cases ho'
      exact (hno e he hb hei).elim) hR.2⟩) n did a w (Region.free_spec hi hf) (by simpa using hr) (.inl hy) hw h

theorem waits_all {l : List Nat} {i : Nat} (h : (l.all fun j => Region.waitsFor md ops j i) = true) : ∀ j, (l.contains j) = true → Region.waitsFor md ops j i = true := fun j hj =>
  List.all_eq_true.1 h j (by simpa using hj)
/-- Each of the operations rs comes up next. -/
def AllTwo (P : Program) (md : Region.Mode) (ops : Array Oper) (Q : Exit → Act → World → Prop) (T S : World → Prop) (late : Nat → Bool) (n : Nat) (did : Array Bool) (a : Act) (w : World) (rs : List Nat) : Prop :=
  ∀ i ∈ rs, wpOp P ops Q i (fun a' w' => Kept T S late i w w' ∧ wpTwo P md ops Q T S late n (did.setIfInBounds i true) a' w') a w
theorem wpTwo_ready {rs : List Nat} {n : Nat} {did : Array Bool} {a : Act} {w : World} (hr : Region.ready md ops did = rs) (hne : rs ≠ []) (h : AllTwo P md ops Q T S late n did a w rs) : wpTwo P md ops Q T S late (n + 1) did a w :=
  ⟨fun e => (hne (hr ▸ e)).elim, hr ▸ h⟩
theorem AllTwo.nil {n : Nat} {did : Array Bool} {a : Act} {w : World} : AllTwo P md ops Q T S late n did a w [] := fun _ h => by cases h
theorem AllTwo.cons {n : Nat} {did : Array Bool} {a : Act} {w : World} {i : Nat} {o : Oper} {rs : List Nat} (ho : ops[i]? = some o)
    (h : ∀ K : Act → World → Prop, Shut (∀ a' w', Kept T S late i w w' → wpTwo P md ops Q T S late n (did.setIfInBounds i true) a' w' → K a' w') → if Region.wanted o (yielded ops a.tmps) = true then Oper.wp P o a w K Q else K (a.put o.dst undef) w)
    (hs : AllTwo P md ops Q T S late n did a w rs) : AllTwo P md ops Q T S late n did a w (i :: rs) := fun j hj => by
  rcases List.mem_cons.1 hj with rfl | hj
  · exact wpOp_step ho fun K hK => h K fun a' w' h1 h2 => hK a' w' ⟨h1, h2⟩
  · exact hs j hj
end

end Go.Proofs.Ytaljpggajpoalaa
namespace Go.Proofs.Ytaljpggajpoalaa
open Go.RowKit Go.Shelf
attribute [local go_sem] Oper.semAt_some

/-- Block q is a variable that holds a pointer to block z. -/
def XBox (W : World) (q z : Nat) : Prop := W.heap[q]? = some (.cells #[.pointer (some ⟨z, 0, none⟩)] 90 (0, 0))
theorem XBox.lt {W : World} {q z : Nat} (h : XBox W q z) : q < W.heap.size := (Array.getElem?_eq_some_iff.1 h).1
theorem XBox.cell {W : World} {q z : Nat} (h : XBox W q z) : W.cell? ⟨q, 0, none⟩ = some (.pointer (some ⟨z, 0, none⟩)) := by
  have h' : W.heap[q]? = _ := h
  simp [World.cell?, h']
/-- A memory in block z, whose rows are the blocks gw and gl, and which block q points to. -/
structure AccF (B q z gw gl cw cl : Nat) (us : List Int) (ms : List Bool) (u : Bool) (W : World) : Prop where
  x : XBox W q z
  box : MBox W z (.slice (some ⟨gw, 0, none⟩) us.length cw) (.slice (some ⟨gl, 0, none⟩) ms.length cl) u
  words : W.ownsRow B 27 1 (.slice (some ⟨gw, 0, none⟩) us.length cw) us.length (us.map (Value.int .u64))
  lives : W.ownsRow B 4 1 (.slice (some ⟨gl, 0, none⟩) ms.length cl) ms.length (ms.map Value.bool)
theorem AccF.keeps {B q z gw gl cw cl : Nat} {us : List Int} {ms : List Bool} {u : Bool} {S : Nat → Prop} {W W' : World} (h : AccF B q z gw gl cw cl us ms u W) (hk : Keeps S W W') (hq : ¬ S q) (hz : ¬ S z) (hw : ¬ S gw) (hl : ¬ S gl) : AccF B q z gw gl cw cl us ms u W' :=
  ⟨(hk.block q h.x.lt hq).trans h.x, h.box.keeps hk hz, hk.row h.words (by intro g hg; simp [Value.ownBlock] at hg; exact hg ▸ hw), hk.row h.lives (by intro g hg; simp [Value.ownBlock] at hg; exact hg ▸ hl)⟩
theorem AccF.below {B q z gw gl cw cl : Nat} {us : List Int} {ms : List Bool} {u : Bool} {W W' : World} (h : AccF B q z gw gl cw cl us ms u W) (hb : Below W.heap.size W W') : AccF B q z gw gl cw cl us ms u W' :=
  h.keeps (Keeps.of_below (S := fun _ => False) hb) (fun h => h) (fun h => h) (fun h => h) (fun h => h)
theorem row_lt {W : World} {B g c n : Nat} {E : TypeId} {xs : List Value} {m : Nat} (h : W.ownsRow B E 1 (.slice (some ⟨g, 0, none⟩) m c) n xs) : g < W.heap.size ∧ B ≤ g := by
  have := h.lt g rfl
  exact ⟨this.2, this.1⟩
/-- The blocks differ. -/
theorem AccF.ne {B q z gw gl cw cl : Nat} {us : List Int} {ms : List Bool} {u : Bool} {W : World} (h : AccF B q z gw gl cw cl us ms u W) : q ≠ z ∧ q ≠ gw ∧ q ≠ gl ∧ z ≠ gw ∧ z ≠ gl ∧ gw ≠ gl := by
  have hq : W.heap[q]? = _ := h.x
  have hz : W.heap[z]? = _ := h.box
  obtain ⟨c1, f1, h1⟩ := Lib.ownsRow_kind h.words gw rfl
  obtain ⟨c2, f2, h2⟩ := Lib.ownsRow_kind h.lives gl rfl
  refine ⟨?_, ?_, ?_, ?_, ?_, ?_⟩ <;> rintro rfl <;> simp_all

/-- What an access leaves: the answer, and the memory. -/
def AccDone (B q z gw gl cw cl : Nat) (ms : List Bool) (r : List Int × Bool × (Int × Bool)) (W : World) (e : Ending) (w' : World) : Prop :=
  e = .returned (.agg #[.int .u64 r.2.2.1, .bool r.2.2.2]) ∧ AccF B q z gw gl cw cl r.1 ms r.2.1 w' ∧ Keeps (fun k => k = z ∨ k = gw) W w'

/-- An access of a memory, as one of a memory of that word alone. -/
theorem acc_one (us : List Int) (ms : List Bool) (f : Bool) (k a o n : Int) (j : Nat) (hj : j < us.length) (hjm : j < ms.length) (hja : (j : Int) ≤ a) (h : (j : Int) = a ∨ ((us.length : Int) ≤ a)) :
    accM us ms f k a o n = (us.set j ((accM [us[j]] [ms[j]] f k (a - j) o n).1.getD 0 0), (accM [us[j]] [ms[j]] f k (a - j) o n).2.1, (accM [us[j]] [ms[j]] f k (a - j) o n).2.2) := by
  rcases h with rfl | h
  · have e1 : liveAt us ms (j : Int) = ms[j] := by
      unfold liveAt
      rw [thereB_iff.2 (by omega)]
      simp [List.getD, hjm]
    have e2 : liveAt [us[j]] [ms[j]] ((j : Int) - j) = ms[j] := by
      rw [Int.sub_self]
      unfold liveAt
      rw [thereB_iff.2 (by simp)]
      simp
    unfold accM
    rw [e1, e2]
    split
    · simp only [Int.sub_self, Int.toNat_natCast, Int.toNat_zero]
      have e3 : us.getD j 0 = us[j] := by simp [List.getD, hj]
      rw [e3]
      simp only [List.getD_cons_zero]
      split
      · simp
      · split <;> simp
    · simp
  · have hn : 1 ≤ a - (j : Int) := by omega
    have e1 : liveAt us ms a = false := by
      unfold liveAt
      rw [show thereB us.length a 1 = false by rw [Bool.eq_false_iff]; intro e; have := thereB_iff.1 e; omega]
      rfl
    have e2 : liveAt [us[j]] [ms[j]] (a - j) = false := by
      unfold liveAt
      rw [show thereB [us[j]].length (a - j) 1 = false by rw [Bool.eq_false_iff]; intro e; have := thereB_iff.1 e; simp at this; omega]
      rfl
    unfold accM
    rw [e1, e2]
    simp
theorem right_one {us : List Int} {ms : List Bool} (h : rightB us ms = true) (j : Nat) (hj : j < us.length) (hjm : j < ms.length) : rightB [us[j]] [ms[j]] = true := by
  have h4 := (rightB_iff.1 h).2.2.2 j hj hjm
  refine rightB_iff.2 ⟨by simp, by simp, by simp, fun i hi hi' => ?_⟩
  obtain rfl : i = 0 := by simp at hi; omega
  exact h4

theorem AccF.store {B q z gw gl cw cl : Nat} {us : List Int} {ms : List Bool} {u : Bool} {X : World} (h : AccF B q z gw gl cw cl us ms u X) (j : Nat) (x : Int) (f : Bool) :
    AccF B q z gw gl cw cl (us.set j x) ms f ((X.setCell ⟨gw, j, none⟩ (.int .u64 x)).setCell ⟨z, 2, none⟩ (.bool f)) ∧ Keeps (fun k => k = z ∨ k = gw) X ((X.setCell ⟨gw, j, none⟩ (.int .u64 x)).setCell ⟨z, 2, none⟩ (.bool f)) := by
  obtain ⟨hnq, hnw, hnl, hzw, hzl, hwl⟩ := h.ne
  have k1 : Keeps (fun k => k = gw) X (X.setCell ⟨gw, j, none⟩ (.int .u64 x)) := Keeps.setCell X (S := (· = gw)) (p := ⟨gw, j, none⟩) rfl _
  have k2 : Keeps (fun k => k = z) (X.setCell ⟨gw, j, none⟩ (.int .u64 x)) ((X.setCell ⟨gw, j, none⟩ (.int .u64 x)).setCell ⟨z, 2, none⟩ (.bool f)) := Keeps.setCell _ (S := (· = z)) (p := ⟨z, 2, none⟩) rfl _
  have hr := (h.words.stored j (.int .u64 x)).1
  rw [← List.map_set] at hr
  have hb : MBox (X.setCell ⟨gw, j, none⟩ (.int .u64 x)) z (.slice (some ⟨gw, 0, none⟩) us.length cw) (.slice (some ⟨gl, 0, none⟩) ms.length cl) u := h.box.keeps k1 hzw
  have hb' : (X.setCell ⟨gw, j, none⟩ (.int .u64 x)).heap[z]? = _ := hb
  refine ⟨⟨(k2.block q (Nat.lt_of_lt_of_le h.x.lt k1.size) hnq).trans ((k1.block q h.x.lt hnw).trans h.x), ?_, ?_, ?_⟩, (k1.sub fun k _ e => Or.inr e).trans (k2.sub fun k _ e => Or.inl e)⟩
  · show ((X.setCell ⟨gw, j, none⟩ (.int .u64 x)).setCell ⟨z, 2, none⟩ (.bool f)).heap[z]? = _
    rw [List.length_set]
    generalize X.setCell ⟨gw, j, none⟩ (.int .u64 x) = Y at hb' ⊢
    simp [World.setCell, Array.getElem?_modify, hb']
  · rw [List.length_set]
    exact k2.row hr (by intro g hg; simp [Value.ownBlock] at hg; omega)
  · exact k2.row (k1.row h.lives (by intro g hg; simp [Value.ownBlock] at hg; omega)) (by intro g hg; simp [Value.ownBlock] at hg; omega)
theorem Keeps.up {S : Nat → Prop} {W X Y : World} (h : Keeps S W X) (hb : Below W.heap.size X Y) : Keeps S W Y :=
  ⟨hb.os.trans h.os, hb.tape.trans h.tape, hb.output.trans h.output, Nat.le_trans h.size hb.size, fun k hk hs => (hb.block k hk).trans (h.block k hk hs)⟩
theorem nums_one {w : World} {g j c : Nat} {y : Int} (h : w.cell? ⟨g, j, none⟩ = some (.int .u64 y)) : NumsAt w .u64 (.slice (some ⟨g, j, none⟩) 1 c) [y] := by
  refine ⟨_, _, rfl, fun _ => ⟨g, j, rfl, fun i hi => ?_⟩⟩
  obtain rfl : i = 0 := by simp at hi; omega
  exact h
theorem bools_one {w : World} {g j c : Nat} {y : Bool} (h : w.cell? ⟨g, j, none⟩ = some (.bool y)) : BoolsAt w (.slice (some ⟨g, j, none⟩) 1 c) [y] := by
  refine ⟨_, _, rfl, fun _ => ⟨g, j, rfl, fun i hi => ?_⟩⟩
  obtain rfl : i = 0 := by simp at hi; omega
  exact h
theorem one_len (r : List Int) (h : r.length = 1) : ∃ x, r = [x] := by
  cases r with
  | nil => simp at h
  | cons x t => cases t with
    | nil => exact ⟨x, rfl⟩
    | cons y t => simp at h

set_option maxRecDepth 100000 in
set_option maxHeartbeats 4000000 in
theorem acc_c (B q z gw gl cw cl : Nat) (us : List Int) (ms : List Bool) (u : Bool) (k a o n : Int) (W : World) (hF : AccF B q z gw gl cw cl us ms u W) (hr : rightB us ms = true) (hk : kindB k = true) (ha : 0 ≤ a) (hm : a ≤ 9223372036854775807) :
    Calls Try.prog 63 #[.agg #[.int .i64 k, .int .i64 a, .int .u64 o, .int .u64 n], .pointer (some ⟨q, 0, none⟩)] W fun e w' => AccDone B q z gw gl cw cl ms (accM us ms u k a o n) W e w' := by
  obtain ⟨hn1, hn2, hlen, -⟩ := rightB_iff.1 hr
  obtain ⟨hnq, hnw, hnl, hzw, hzl, hwl⟩ := hF.ne
  obtain ⟨j, hjd⟩ : ∃ j, j = min a.toNat (us.length - 1) := ⟨_, rfl⟩
  have hju : j < us.length := by omega
  have hjm : j < ms.length := by omega
  have hja : (j : Int) ≤ a := by omega
  have hjo : (j : Int) = a ∨ (us.length : Int) ≤ a := by omega
  have HACC := Lib.hid (acc_one us ms u k a o n j hju hjm hja hjo)
  have HR1 := Lib.hid (right_one hr j hju hjm)
  obtain ⟨y, hy⟩ : ∃ y, y = us[j] := ⟨_, rfl⟩
  obtain ⟨d, hd⟩ : ∃ d, d = ms[j] := ⟨_, rfl⟩
  have HY := Lib.hid (show us[j]? = some y ∧ ms[j]? = some d from ⟨by rw [hy]; exact List.getElem?_eq_getElem hju, by rw [hd]; exact List.getElem?_eq_getElem hjm⟩)
  rw [← hy, ← hd] at HACC HR1
  obtain ⟨⟨r1, f', h', d'⟩, hrr⟩ : ∃ r, r = accM [y] [d] u k (a - j) o n := ⟨_, rfl⟩
  have hrl : r1.length = 1 := by have := accM_length [y] [d] u k (a - j) o n; rw [← hrr] at this; exact this
  obtain ⟨x', rfl⟩ := one_len r1 hrl
  rw [← hrr] at HACC
  simp only [List.getD_cons_zero] at HACC
  have HRR := Lib.hid hrr
  clear hrr hrl
  have hcw := own_cap hF.words
  have hcl := own_cap hF.lives
  obtain ⟨N, hN⟩ : ∃ N, N = us.length := ⟨_, rfl⟩
  have HF0 := Lib.hid (show AccF B q z gw gl cw cl us ms u ((W.alloc (.cells #[.int .i64 k, .int .i64 a, .int .u64 o, .int .u64 n] 118)).alloc (.cells #[.int .u64 0, .bool false] 120)) from hF.below (below2 _ _ _))
  obtain ⟨w0, hw0⟩ : ∃ X : World, X = (W.alloc (.cells #[.int .i64 k, .int .i64 a, .int .u64 o, .int .u64 n] 118)).alloc (.cells #[.int .u64 0, .bool false] 120) := ⟨_, rfl⟩
  rw [← hw0] at HF0
  have HB0 := Lib.hid (show Below W.heap.size W w0 by rw [hw0]; exact below2 _ _ _)
  have hp1 : w0.cell? ⟨W.heap.size, 1, none⟩ = some (.int .i64 a) := by rw [hw0]; simp
  have hf1 : w0.frozen? ⟨W.heap.size, 1, none⟩ = false := by rw [hw0]; simp
  have hx := HF0.out.x.cell
  obtain ⟨⟨hd0, hd1, hd2⟩, -⟩ := mbox_cells HF0.out.box
  rw [← hN] at hd0 hcw
  rw [hlen, ← hN] at hd1 hcl
  have hjn : j < N := by omega
  have hjo' : (j : Int) = a ∨ (N : Int) ≤ a := by omega
  have hjmin : min a ((N : Int) - 1) = (j : Int) := by omega
  have hn1' : 1 ≤ N := by omega
  have hn2' : N ≤ 4096 := by omega
  have HW0 := Lib.hid hw0
  have HN := Lib.hid (And.intro hN hlen)
  have HLT := Lib.hid (show q < W.heap.size ∧ z < W.heap.size ∧ gw < W.heap.size ∧ gl < W.heap.size from ⟨hF.x.lt, hF.box.lt, (row_lt hF.words).1, (row_lt hF.lives).1⟩)
  have HNW := Lib.hid (show ¬ q = W.heap.size ∧ ¬ z = W.heap.size ∧ ¬ gw = W.heap.size ∧ ¬ gl = W.heap.size from ⟨Nat.ne_of_lt hF.x.lt, Nat.ne_of_lt hF.box.lt, Nat.ne_of_lt (row_lt hF.words).1, Nat.ne_of_lt (row_lt hF.lives).1⟩)
  clear hF hjd hju hjm hjo hy hd hN hlen hn1 hn2 hr hw0
  rw [HACC.out]
  go_enter Try.func63, Try.ntmps63
  go_upto_region 1 with fail
  rw [← HW0.out]
  go_cut [4] (fun s4 wc => s4 = .int .i64 (j : Int) ∧ wc = w0.drew)
  case first =>
    rcases (show a < (N : Int) - 1 ∨ a = (N : Int) - 1 ∨ (N : Int) - 1 < a by omega) with h | h | h
    · obtain rfl : a = (j : Int) := by omega
      clear hjmin hjo'
      go_region
      all_goals (go_wp2_with fail; go_meet; exact ⟨rfl, rfl⟩)
    · obtain rfl : N = j + 1 := by omega
      obtain rfl : a = (j : Int) := by omega
      clear hjmin hjo' hja hjn hn1' h
      go_region
      all_goals (go_wp2_with fail; go_meet; exact ⟨rfl, rfl⟩)
    · obtain rfl : N = j + 1 := by omega
      clear hjmin hjo' hja hjn hn1'
      go_region
      all_goals (go_wp2_with fail; go_meet; exact ⟨rfl, rfl⟩)
  case rest => as_aux_lemma =>
    obtain ⟨rfl, rfl⟩ := hcut
    clear hjmin hjo'
    have hs1 : 0 ≤ a - (j : Int) := by omega
    go_upto_region 3 with fail
    obtain ⟨w2, hw2⟩ : ∃ X : World, X = w0.setCell ⟨W.heap.size, 1, none⟩ (.int .i64 (a - (j : Int))) := ⟨_, rfl⟩
    rw [← hw2]
    have hk2 : Keeps (fun q => q = W.heap.size) w0 w2 := by rw [hw2]; exact Keeps.setCell w0 (S := (· = W.heap.size)) (p := ⟨W.heap.size, 1, none⟩) rfl _
    have hlt0 := HF0.out.x.lt
    have HB2 := Lib.hid (HB0.out.trans (hk2.below HB0.out.size (fun q hq => Nat.le_of_eq hq.symm)))
    have HF2 := Lib.hid (HF0.out.keeps hk2 HNW.out.1 HNW.out.2.1 HNW.out.2.2.1 HNW.out.2.2.2)
    have e0 : w0.heap[W.heap.size]? = some (.cells #[.int .i64 k, .int .i64 a, .int .u64 o, .int .u64 n] 118 (0, 0)) := by rw [HW0.out, Below.heap_alloc _ _ _ (by simp)]; exact World.alloc_heap_new _ _
    have e1 : w0.heap[W.heap.size + 1]? = some (.cells #[.int .u64 0, .bool false] 120 (0, 0)) := by rw [HW0.out]; have e := World.alloc_heap_new (W.alloc (.cells #[.int .i64 k, .int .i64 a, .int .u64 o, .int .u64 n] 118)) (.cells #[.int .u64 0, .bool false] 120); rw [World.size_alloc] at e; exact e
    have hA : w2.heap[W.heap.size]? = some (.cells #[.int .i64 k, .int .i64 (a - (j : Int)), .int .u64 o, .int .u64 n] 118 (0, 0)) := by rw [hw2]; simp [World.setCell, Array.getElem?_modify, e0]
    have hG : w2.heap[W.heap.size + 1]? = some (.cells #[.int .u64 0, .bool false] 120 (0, 0)) := (hk2.block (W.heap.size + 1) (Array.getElem?_eq_some_iff.1 e1).1 (by omega)).trans e1
    have hsz2 : w2.heap.size = W.heap.size + 2 := by rw [hw2, HW0.out]; simp [World.setCell]
    have hx2 := HF2.out.x.cell
    obtain ⟨⟨he0, he1, he2⟩, -⟩ := mbox_cells HF2.out.box
    rw [← HN.out.1] at he0
    rw [HN.out.2, ← HN.out.1] at he1
    have HA := Lib.hid hA
    have HG := Lib.hid hG
    have hx3 : ∀ o, (w2.alloc o).cell? ⟨q, 0, none⟩ = some (.pointer (some ⟨z, 0, none⟩)) := fun o => below_cell (below1 w2 o) hx2
    have he03 : ∀ o, (w2.alloc o).cell? ⟨z, 0, none⟩ = some (.slice (some ⟨gw, 0, none⟩) N cw) := fun o => below_cell (below1 w2 o) he0
    have he13 : ∀ o, (w2.alloc o).cell? ⟨z, 1, none⟩ = some (.slice (some ⟨gl, 0, none⟩) N cl) := fun o => below_cell (below1 w2 o) he1
    have he23 : ∀ o, (w2.alloc o).cell? ⟨z, 2, none⟩ = some (.bool u) := fun o => below_cell (below1 w2 o) he2
    clear e0 e1 hw2 hk2 hx hd0 hd1 hd2 hp1 hf1 hA hG hlt0
    obtain ⟨w3, hw3⟩ : ∃ X : World, X = w2.alloc (.cells #[.slice (some ⟨gw, j, none⟩) 1 (cw - j), .slice (some ⟨gl, j, none⟩) 1 (cl - j), .bool u] 44) := ⟨_, rfl⟩
    go_cut [5] (fun s5 wc => s5 = .pointer (some ⟨W.heap.size + 2, 0, none⟩) ∧ wc = w3.drew.drew)
    case first => as_aux_lemma =>
      go_big_region
      all_goals (go_wp2_with fail; go_meet; exact ⟨rfl, by rw [hw3]⟩)
    case rest => as_aux_lemma =>
    obtain ⟨rfl, rfl⟩ := hcut
    have hb3 : Below w2.heap.size w2 w3 := by rw [hw3]; exact below1 _ _
    have HF3 := Lib.hid (HF2.out.below hb3)
    have HB3 := Lib.hid (below_then HB2.out HB2.out.size hb3)
    have HM3 := Lib.hid (show MBox w3 (W.heap.size + 2) (.slice (some ⟨gw, j, none⟩) 1 (cw - j)) (.slice (some ⟨gl, j, none⟩) 1 (cl - j)) u by rw [hw3, ← hsz2]; exact MBox.new _ _ _ _)
    have HA3 := Lib.hid ((hb3.block W.heap.size (by omega)).trans HA.out)
    have HG3 := Lib.hid ((hb3.block (W.heap.size + 1) (by omega)).trans HG.out)
    have hcy : w3.cell? ⟨gw, j, none⟩ = some (.int .u64 y) := by rw [HF3.out.words.cellAt j (by rw [← HN.out.1]; omega), List.getElem?_map, HY.out.1]; rfl
    have hcd : w3.cell? ⟨gl, j, none⟩ = some (.bool d) := by rw [HF3.out.lives.cellAt j (by rw [HN.out.2, ← HN.out.1]; omega), List.getElem?_map, HY.out.2]; rfl
    have hmem : MemAt w3 (.agg #[.slice (some ⟨gw, j, none⟩) 1 (cw - j), .slice (some ⟨gl, j, none⟩) 1 (cl - j), .bool u]) [y] [d] u :=
      ⟨_, _, rfl, nums_one hcy, bools_one hcd⟩
    have HST := Lib.hid (fun (Z : World) (hb : Below w3.heap.size w3 Z) => step_yes _ k (a - j) o n [y] [d] u Z (hmem.below hb) HR1.out hk)
    rw [← HRR.out] at HST
    obtain ⟨⟨hm0, hm1, hm2⟩, -⟩ := mbox_cells HM3.out
    have hsz3 : w3.heap.size = W.heap.size + 3 := by rw [hw3, World.size_alloc, hsz2]
    have ha0 : w3.cell? ⟨W.heap.size, 0, none⟩ = some (.int .i64 k) := by simp [World.cell?, HA3.out]
    have ha1 : w3.cell? ⟨W.heap.size, 1, none⟩ = some (.int .i64 (a - j)) := by simp [World.cell?, HA3.out]
    have ha2 : w3.cell? ⟨W.heap.size, 2, none⟩ = some (.int .u64 o) := by simp [World.cell?, HA3.out]
    have ha3 : w3.cell? ⟨W.heap.size, 3, none⟩ = some (.int .u64 n) := by simp [World.cell?, HA3.out]
    clear hw3 hb3 HF2 HA HG hcy hcd hmem hx2 he0 he1 he2 hx3 he03 he13 he23 hsz2 HF0
    go_wp2_with fail
    refine (HST.out _ (Below.refl _ _).drew.drew).mono ?_
    rintro e w4 ⟨⟨gw1, cw1, gl1, cl1, rfl, how, hol⟩, hb4⟩
    clear ha0 ha1 ha2 ha3 hm0 hm1 hm2 HST
    replace hb4 : Below w3.heap.size w3 w4 := ((Below.refl w3.heap.size w3).drew.drew).trans hb4
    have hgw1 : w3.heap.size ≤ gw1 := (row_lt how).2
    have hgl1 : w3.heap.size ≤ gl1 := (row_lt hol).2
    have HF4 := Lib.hid (HF3.out.below hb4)
    have HB4 := Lib.hid (below_then HB3.out HB3.out.size hb4)
    have HM4 := Lib.hid (HM3.out.below hb4)
    have HA4 := Lib.hid ((hb4.block W.heap.size (by omega)).trans HA3.out)
    have HG4 := Lib.hid ((hb4.block (W.heap.size + 1) (by omega)).trans HG3.out)
    have hu0 := how.cellAt 0 (by simp)
    simp only [List.map_cons, List.getElem?_cons_zero] at hu0
    obtain ⟨⟨hm0, hm1, hm2⟩, hv0, hv1, hv2⟩ := mbox_cells HM4.out
    have hsz4 := hb4.size
    have hlt4 : W.heap.size + 2 < w4.heap.size := HM4.out.lt
    have hne4 : w4.heap.size ≠ W.heap.size + 2 := by omega
    have hne4' : W.heap.size + 2 ≠ w4.heap.size := by omega
    clear how hol hb4 HF3 HM3 HA3 HG3
    go_upto_region 5 with fail
    obtain ⟨hlq, hlz, hlw, hll⟩ := HLT.out
    obtain ⟨wm, hwm⟩ : ∃ X : World, X = ((w4.setCell ⟨W.heap.size + 2, 0, none⟩ (.slice (some ⟨gw1, 0, none⟩) 1 cw1)).setCell ⟨W.heap.size + 2, 1, none⟩ (.slice (some ⟨gl1, 0, none⟩) 1 cl1)).setCell ⟨W.heap.size + 2, 2, none⟩ (.bool f') := ⟨_, rfl⟩
    obtain ⟨w5, hw5⟩ : ∃ X : World, X = wm.alloc (.cells #[.int .u64 h', .bool d'] 120) := ⟨_, rfl⟩
    rw [← hwm, ← hw5]
    have hkm : Keeps (fun q => q = W.heap.size + 2) w4 wm := by
      rw [hwm]
      exact ((Keeps.setCell w4 (S := (· = W.heap.size + 2)) (p := ⟨W.heap.size + 2, 0, none⟩) rfl _).trans (Keeps.setCell _ (S := (· = W.heap.size + 2)) (p := ⟨W.heap.size + 2, 1, none⟩) rfl _)).trans (Keeps.setCell _ (S := (· = W.heap.size + 2)) (p := ⟨W.heap.size + 2, 2, none⟩) rfl _)
    have hsm : wm.heap.size = w4.heap.size := by rw [hwm]; simp [World.setCell]
    have hb5 : Below wm.heap.size wm w5 := by rw [hw5]; exact below1 _ _
    have HF5 := Lib.hid ((HF4.out.keeps hkm (by omega) (by omega) (by omega) (by omega)).below hb5)
    have HM5 := Lib.hid ((show MBox wm (W.heap.size + 2) (.slice (some ⟨gw1, 0, none⟩) 1 cw1) (.slice (some ⟨gl1, 0, none⟩) 1 cl1) f' by rw [hwm]; exact HM4.out.set _ _ _).below hb5)
    have HG5 := Lib.hid ((hb5.block (W.heap.size + 1) (by omega)).trans ((hkm.block (W.heap.size + 1) (by omega) (by omega)).trans HG4.out))
    obtain ⟨y5, hy5⟩ : ∃ y, y = w4.heap.size := ⟨_, rfl⟩
    have HY5 := Lib.hid (show w5.heap[y5]? = some (.cells #[.int .u64 h', .bool d'] 120 (0, 0)) by rw [hw5, hy5, ← hsm]; exact World.alloc_heap_new _ _)
    have hu5 : w5.cell? ⟨gw1, 0, none⟩ = some (.int .u64 x') := below_cell hb5 (hkm.cell hu0 (by show ¬ gw1 = _; omega))
    have hgw1' : gw1 < w4.heap.size := World.block_lt_of_cell? w4 _ hu0
    have hyN : y5 ≠ gw ∧ y5 ≠ z ∧ W.heap.size + 1 ≠ gw ∧ W.heap.size + 1 ≠ z := by omega
    have HYN := Lib.hid hyN
    have HGW := Lib.hid (show W.heap.size ≤ gw1 by omega)
    have HB5 := Lib.hid (below_then (HB4.out.trans (hkm.below HB4.out.size (fun q hq => by omega))) (by rw [hsm]; exact HB4.out.size) hb5)
    rw [← hy5]
    clear hwm hw5 hkm hsm hb5 hu0 hm0 hm1 hm2 hv0 hv1 hv2 HF4 HM4 HG4 hsz4 hlt4 hne4 hne4' hy5 hsz3 hgw1 hgl1 hgw1' hlq hlz hlw hll hyN
    obtain ⟨⟨hm0, hm1, hm2⟩, -⟩ := mbox_cells HM5.out
    obtain ⟨⟨hd0, hd1, hd2⟩, -, -, he2⟩ := mbox_cells HF5.out.box
    have hx5 := HF5.out.x.cell
    have hcy : w5.cell? ⟨gw, j, none⟩ = some (.int .u64 y) := by rw [HF5.out.words.cellAt j (by rw [← HN.out.1]; omega), List.getElem?_map, HY.out.1]; rfl
    have hfy := HF5.out.words.frozenAt j
    rw [← HN.out.1] at hd0
    clear hd1 hm1
    have HJN := Lib.hid (show (j : Int) < (N : Int) by omega)
    have HNE := Lib.hid (show gw ≠ q ∧ gw ≠ z ∧ gw ≠ W.heap.size + 2 ∧ gw ≠ gw1 ∧ z ≠ q ∧ z ≠ W.heap.size + 2 ∧ z ≠ gw1 from ⟨hnw.symm, hzw.symm, by have := HLT.out; omega, by have := HLT.out; have := HGW.out; omega, hnq.symm, by have := HLT.out; omega, by have := HLT.out; have := HGW.out; omega⟩)
    obtain ⟨X3, hX3⟩ : ∃ X : World, X = ((w5.setCell ⟨gw, j, none⟩ (.int .u64 x')).setCell ⟨z, 2, none⟩ (.bool f')).drew := ⟨_, rfl⟩
    have HS9 := Lib.hid (show X3.cell? ⟨q, 0, none⟩ = some (.pointer (some ⟨z, 0, none⟩)) ∧ X3.cell? ⟨z, 0, none⟩ = some (.slice (some ⟨gw, 0, none⟩) N cw) ∧ X3.cell? ⟨W.heap.size + 2, 0, none⟩ = some (.slice (some ⟨gw1, 0, none⟩) 1 cw1) ∧ X3.cell? ⟨gw1, 0, none⟩ = some (.int .u64 x') ∧ X3.cell? ⟨W.heap.size + 2, 2, none⟩ = some (.bool f') by
      rw [hX3]
      have h := HF5.out.store j x' f'
      have h2 := h.2.drewN 1
      obtain ⟨⟨b0, -, -⟩, -⟩ := mbox_cells h.1.box
      rw [List.length_set, ← HN.out.1] at b0
      exact ⟨h.1.x.cell, b0, h2.cell hm0 (by show ¬ (W.heap.size + 2 = z ∨ W.heap.size + 2 = gw); have := HNE.out; omega), h2.cell hu5 (by show ¬ (gw1 = z ∨ gw1 = gw); have := HNE.out; omega), h2.cell hm2 (by show ¬ (W.heap.size + 2 = z ∨ W.heap.size + 2 = gw); have := HNE.out; omega)⟩)
    go_cut [] (fun wc => wc = X3)
    case first => as_aux_lemma =>
      obtain ⟨g0, g1, g2, g3, g4, g5, g6⟩ := HNE.out
      have hz9 : ((w5.setCell ⟨gw, j, none⟩ (.int .u64 x')).setCell ⟨z, 2, none⟩ (.bool f')).cell? ⟨z, 0, none⟩ = some (.slice (some ⟨gw, 0, none⟩) N cw) := by
        have h := HS9.out.2.1
        rw [hX3] at h
        exact h
      have HX3 := Lib.hid hX3
      clear hX3
      have hjt : ((j : Int)).toNat = j := by omega
      have hj0 : (0 : Int) ≤ (j : Int) := by omega
      have hjN := HJN.out
      clear hnq hnw hnl hzw hzl hwl hjn hn1' hn2' hja ha hm hs1 hcw hcl
      go_region_held3 (fun w' => w'.cell? ⟨q, 0, none⟩ = some (.pointer (some ⟨z, 0, none⟩)) ∧ w'.cell? ⟨z, 0, none⟩ = some (.slice (some ⟨gw, 0, none⟩) N cw) ∧ w'.cell? ⟨W.heap.size + 2, 0, none⟩ = some (.slice (some ⟨gw1, 0, none⟩) 1 cw1) ∧ w'.cell? ⟨gw1, 0, none⟩ = some (.int .u64 x') ∧ w'.cell? ⟨W.heap.size + 2, 2, none⟩ = some (.bool f'))
        (first
          | exact ⟨hx5, hd0, hm0, hu5, hm2⟩
          | go_keep
          | (go_split_ands; exact ⟨by assumption, hz9, by assumption, by assumption, by assumption⟩))
        (fail)
      all_goals (go_wp2_with fail; go_meet; exact HX3.out.symm)
    case rest => as_aux_lemma =>
    rw [hcut]
    clear hcut
    have HS6 := Lib.hid (show AccF B q z gw gl cw cl (us.set j x') ms f' X3 ∧ Keeps (fun k => k = z ∨ k = gw) w5 X3 by
      rw [hX3]
      have h := HF5.out.store j x' f'
      exact ⟨h.1.below ((Below.refl _ _).drew), h.2.drewN 1⟩)
    clear hX3 HS9
    obtain ⟨e1, e2, e3, e4⟩ := HYN.out
    have HG7 := Lib.hid ((HS6.out.2.block (W.heap.size + 1) (Array.getElem?_eq_some_iff.1 HG5.out).1 (by simp [e3, e4])).trans HG5.out)
    have HY7 := Lib.hid ((HS6.out.2.block y5 (Array.getElem?_eq_some_iff.1 HY5.out).1 (by simp [e1, e2])).trans HY5.out)
    have hya : X3.cell? ⟨y5, 0, none⟩ = some (.int .u64 h') := by simp [World.cell?, HY7.out]
    have hyb : X3.cell? ⟨y5, 1, none⟩ = some (.bool d') := by simp [World.cell?, HY7.out]
    have hga : X3.cell? ⟨W.heap.size + 1, 0, none⟩ = some (.int .u64 0) := by simp [World.cell?, HG7.out]
    have hgb : X3.cell? ⟨W.heap.size + 1, 1, none⟩ = some (.bool false) := by simp [World.cell?, HG7.out]
    have hgc : X3.frozen? ⟨W.heap.size + 1, 0, none⟩ = false := by simp [World.frozen?, HG7.out]
    have hgd : X3.frozen? ⟨W.heap.size + 1, 1, none⟩ = false := by simp [World.frozen?, HG7.out]
    clear e1 e2 e3 e4 hx5 hd0 hm0 hu5 hm2 hcy hfy he2
    go_wp2
    have hk4 : Keeps (fun k => k = W.heap.size + 1) X3 ((X3.setCell ⟨W.heap.size + 1, 0, none⟩ (.int .u64 h')).setCell ⟨W.heap.size + 1, 1, none⟩ (.bool d')) := (Keeps.setCell X3 (S := (· = W.heap.size + 1)) (p := ⟨W.heap.size + 1, 0, none⟩) rfl _).trans (Keeps.setCell _ (S := (· = W.heap.size + 1)) (p := ⟨W.heap.size + 1, 1, none⟩) rfl _)
    have HL := HLT.out
    have hbs : W.heap.size ≤ X3.heap.size := Nat.le_trans HB5.out.size HS6.out.2.size
    refine bodyPost_ret (v := .agg #[.int .u64 h', .bool d']) (by simp [results, Try.results63, go_sem, hga, hgb]) rfl ⟨rfl, HS6.out.1.keeps hk4 (by omega) (by omega) (by omega) (by omega), ?_⟩
    have hb1 : Keeps (fun k => k = z ∨ k = gw) W X3 := ⟨HS6.out.2.os.trans HB5.out.os, HS6.out.2.tape.trans HB5.out.tape, HS6.out.2.output.trans HB5.out.output, hbs, fun k hk hs => (HS6.out.2.block k (Nat.lt_of_lt_of_le hk HB5.out.size) hs).trans (HB5.out.block k hk)⟩
    exact hb1.up (hk4.below hbs (fun k hk => by omega))

end Go.Proofs.Ytaljpggajpoalaa
