/-
  Runs of package script: the runs, in new memory; what was in memory stays.
  Conditions: the row of picks reads as a list of at most 2 to the power 32.
-/
import Derived.Test.YtjgdkfgcfningaaDoorSRuns
import Derived.RangeFuncBox
namespace Go.Proofs.YtjgdkfgcfningaaDoor
open Go.RowKit Go.Shelf
attribute [local go_sem] Oper.semAt_some

/-- Runs, oldest first, lie in new memory. -/
def GivesRuns (B : Nat) (l : List Int) (e : Ending) (w' : World) : Prop := ∃ v', e = .returned v' ∧ w'.ownsRow B 40 2 v' (runsR l).length (cellsR (runsR l))

set_option maxRecDepth 100000 in
set_option maxHeartbeats 4000000 in
theorem appendSeq_c (lb b off cap : Nat) (p0 : Option Addr) (l : List Int) (w : World) (hmax : l.length ≤ 4294967296) (hp0 : 0 < l.length → p0 = some ⟨b, off, none⟩) (hbl : b < w.heap.size)
    (hc : w.cell? ⟨lb, 0, none⟩ = some (.slice p0 l.length cap)) (hl : ∀ i (h : i < l.length), w.cell? ⟨b, off + i, none⟩ = some (.int .i64 l[i])) :
    Calls Tryd.prog 49 #[.slice none 0 0, .func (.func 48) #[] #[.pointer (some ⟨lb, 0, none⟩)]] w fun e w' => GivesRuns w.heap.size l e w' ∧ Below w.heap.size w w' := by
  obtain ⟨i0, hi, hz0, hz1, hz2⟩ := info_parts pairI_info
  have hlb := World.block_lt_of_cell? w _ hc
  simp only at hlb
  refine (callsIn_wide (n := 9)).1 ?_
  refine callsIn_of_wp_marks Tryd.func49 rfl trivial ?_ rfl
  simp only [Tryd.ntmps49, List.size_toArray, List.length_cons, List.length_nil, Nat.reduceAdd, Nat.reduceSub, Array.replicate_succ, Array.replicate_zero, List.push_toArray, List.append_toArray, List.nil_append, List.cons_append]
  have HL := Lib.hid hl
  clear hl
  gi_wp2
  have hB1 : Below w.heap.size w (w.alloc (.cells #[.slice none 0 0] 39)) := (Below.refl _ _).alloc (Nat.le_refl _) _
  have HRL := Lib.hid (runs_len l)
  refine wpIn_rangeBound rfl (by omega) (gf := 48) (bd := #[]) (lb := #[.pointer (some ⟨lb, 0, none⟩)]) rfl trivial (enters_of Tryd.func48 (by kernel_rfl) rfl)
    (runs_stops 8 (by omega) (fun q => w.heap.size ≤ q) lb b off cap p0 l _ (by omega) (by omega) (by omega) hp0 (below_cell hB1 hc) (fun i h => below_cell hB1 (HL.out i h))) (fun h k => h.trans k) (fun W l o o' _ => KeepsCells.turn _ W l o o') (Below.refl _ _) (fun _ => rfl)
    (fun pre W => (∃ v, Boxed W w.heap.size 39 v ∧ W.ownsRow (w.heap.size + 1) 40 2 v pre.length (cellsR (pre.map (·.1)).reverse) ∧ True) ∧ Below w.heap.size w W)
    (fun _ _ _ => False)
    ?hI ?hIx ?h0
    (fun s a' W => ∃ blk, a' = { tmps := #[.slice none 0 0, .func (.func 48) #[] #[.pointer (some ⟨lb, 0, none⟩)], .pointer (some ⟨w.heap.size, 0, none⟩), undef, .slice none 0 0, .pointer (some ⟨blk, 0, none⟩), .func (.func 48) #[] #[.pointer (some ⟨lb, 0, none⟩)], runV s, undef, undef, undef, undef, undef], defers := [] } ∧ W.heap[blk]? = some (.cells #[.int .i64 s.1.1, .int .i64 (s.1.2 : Int)] 40 (0, 0)))
    ?hAx ?assign ?body ?done ?stop
  case hI => exact OwnFrom.and (Own.from (holdsRow_own (w.heap.size + 1) w.heap.size 39 40 2 (fun pre : List (RunS l) => pre.length) (fun pre : List (RunS l) => cellsR (pre.map (·.1)).reverse) (fun _ _ => True)) _) (ownFrom_below (Nat.le_refl _) (by simp))
  case hIx => exact fun _ _ _ _ _ hs _ _ => hs
  case h0 => exact ⟨⟨_, Boxed.new _ _ _, World.ownsRow_nil _ _ _ _, trivial⟩, hB1⟩
  case hAx =>
    rintro s a' _ X Y row ⟨blk, hpure, hs⟩ hg hr
    refine ⟨blk, hpure, (hg.block blk (Array.getElem?_eq_some_iff.1 hs).1 fun e => ?_).trans hs⟩
    obtain ⟨_, o, ho, hc⟩ := hr blk e.symm
    rw [hs] at ho
    cases ho
    cases hc
  case assign =>
    rintro lq pre s W K ⟨⟨v, hbv, hrow, _⟩, hB⟩ hK
    gi_wp2
    exact hK _ _ ((KeepsOthers.alloc _ _).from _) (KeepsCells.keeps (Keeps.alloc _ _ _)) ⟨⟨v, hbv.alloc _, hrow.alloc _, trivial⟩, hB.alloc hB.size _⟩ ⟨W.heap.size, rfl, World.alloc_heap_new W _⟩
  case body =>
    rintro lq pre s a' W hl _ ⟨⟨v, hbv, hrow, _⟩, hB⟩ ⟨blk, rfl, hpr⟩ hlen
    have hc0 : W.cell? ⟨blk, 0, none⟩ = some (.int .i64 s.1.1) := by simp [World.cell?, hpr]
    have hc1 : W.cell? ⟨blk, 1, none⟩ = some (.int .i64 (s.1.2 : Int)) := by simp [World.cell?, hpr]
    have hpl : pre.length ≤ 4294967296 := by have := HRL.out; omega
    have hbl1 := hbv.lt
    have hcv := hbv.cell
    have HOWN := Lib.hid (hrow.alloc (.cells #[.int .i64 s.1.1, .int .i64 (s.1.2 : Int)] 40))
    have HNEW := Lib.hid (show ∀ (j : Nat) (u : Value), [Value.int .i64 s.1.1, Value.int .i64 (s.1.2 : Int)][j]? = some u → (W.alloc (.cells #[.int .i64 s.1.1, .int .i64 (s.1.2 : Int)] 40)).cell? ((⟨W.heap.size, 0, none⟩ : Addr).add j) = some u from by
      intro j u hj
      rw [addr_add_off]
      match j, hj with
      | 0, hj => simp at hj; subst hj; simp
      | 1, hj => simp at hj; subst hj; simp
      | j + 2, hj => simp at hj)
    have HBV := Lib.hid hbv
    clear hrow hpr
    gi_wp2_with (gi_at_builtin; refine wpListIn_append_own _ rfl _ _ 39 rfl (w.heap.size + 1) 40 i0 (.agg #[.int .i64 0, .int .i64 0]) 2 16 Tryd.underlying39 hi hz0 hz1 hz2 rfl (by decide) _ _ _ rfl HOWN.out ⟨W.heap.size, 0, none⟩ 1 1 [.int .i64 s.1.1, .int .i64 (s.1.2 : Int)] rfl rfl HNEW.out (by intro u hu; simp at hu; rcases hu with rfl | rfl <;> rfl) (by unfold maxLen; omega) (by omega) (by simp; omega) ?_; intro v' w1 hown' hgrow _; obtain ⟨g', c', rfl⟩ := owns_some hown'; have hb1 : Boxed w1 w.heap.size 39 v := (HBV.out.alloc _).kept hgrow (HBV.out.alloc _ |>.not_row (by decide) HOWN.out); have hcb := hb1.cell; have hfb := hb1.frozen)
    have hkind : ∀ (q : Nat) (o : Obj), v.ownBlock = some q → (W.alloc (.cells #[.int .i64 s.1.1, .int .i64 (s.1.2 : Int)] 40)).heap[q]? = some o → o.isCells = true := by
      intro q o hq ho
      obtain ⟨c, fz, h1⟩ := Lib.ownsRow_kind HOWN.out q hq
      rw [h1] at ho
      cases ho
      rfl
    have hbase : ∀ q, v.ownBlock = some q → w.heap.size + 1 ≤ q := fun q hq => (HOWN.out.lt q hq).1
    have hkg : Keeps (fun q => w.heap.size ≤ q) (W.alloc (.cells #[.int .i64 s.1.1, .int .i64 (s.1.2 : Int)] 40)) w1 :=
      ⟨hgrow.os, hgrow.tape, hgrow.output, hgrow.size, fun q hq hn => hgrow.block q hq fun e => hn (by have := hbase q e.symm; omega)⟩
    have hown2 := ownsRow_setCell_below hown' (a := ⟨w.heap.size, 0, none⟩) (by simp) (.slice (some ⟨g', 0, none⟩) (pre.length + 1) c')
    refine ⟨(((KeepsOthers.alloc W _).trans (KeepsOthers.of_grownBy hgrow hkind)).trans (KeepsOthers.setCell _ _ _)).from _, KeepsCells.keeps (((Keeps.alloc _ W _).trans hkg).trans (Keeps.setCell _ (p := ⟨w.heap.size, 0, none⟩) (Nat.le_refl _) _)), ⟨⟨_, hb1.set _, ?_, trivial⟩, ?_⟩⟩
    · rw [List.length_append, List.length_singleton, List.map_append, List.map_singleton, List.reverse_append, List.reverse_singleton, List.singleton_append, cellsR]
      exact hown2
    · exact (((hB.alloc hB.size _).grown hgrow (by have := hB.size; simp; omega) (fun q e => by have := hbase q e; omega))).setCell (p := ⟨w.heap.size, 0, none⟩) (Nat.le_refl _) _
  case done =>
    rintro D xs W hD hxs ⟨⟨v, hbv, hrow, _⟩, hB⟩ hK
    have hcv := hbv.cell
    have hlx : xs.length = (runsR l).length := by rw [← hxs, List.length_reverse, List.length_map]
    rw [hxs, hlx] at hrow
    have hDW : w.heap.size ≤ D := by simp at hD; omega
    have HROW := Lib.hid hrow
    clear hrow hxs hlx
    gi_wp2
    refine ⟨by simp, .inl ⟨_, _, rfl, run_takeDeferred hK, ?_⟩⟩
    have hd : Below w.heap.size W (W.putObj D (.deferred none)) := belowK_b (w := w) (Nat.le_refl _) W D _ _ hDW hK rfl rfl
    exact ⟨_, results_tmp rfl _ _ _, ⟨v, rfl, ownsRow_putObj (HROW.out.mono (Nat.le_succ _)) (.deferred none) hK rfl⟩, hB.trans hd⟩
  case stop =>
    rintro D c p W _ _ h _
    exact h.elim

set_option maxRecDepth 100000 in
theorem collect_c (lb b off cap : Nat) (p0 : Option Addr) (l : List Int) (w : World) (hmax : l.length ≤ 4294967296) (hp0 : 0 < l.length → p0 = some ⟨b, off, none⟩) (hbl : b < w.heap.size)
    (hc : w.cell? ⟨lb, 0, none⟩ = some (.slice p0 l.length cap)) (hl : ∀ i (h : i < l.length), w.cell? ⟨b, off + i, none⟩ = some (.int .i64 l[i])) :
    Calls Tryd.prog 33 #[.func (.func 48) #[] #[.pointer (some ⟨lb, 0, none⟩)]] w fun e w' => GivesRuns w.heap.size l e w' ∧ Below w.heap.size w w' := by
  have HC := Lib.hid (appendSeq_c lb b off cap p0 l w hmax hp0 hbl hc hl)
  clear hc hl
  go_enter Tryd.func33, Tryd.ntmps33
  go_wp2_with fail
  refine HC.out.mono ?_
  rintro e w1 ⟨⟨v, rfl, ho⟩, hb⟩
  go_wp2
  go_ret
  exact ⟨⟨v, rfl, ho⟩, hb⟩

/-- Where a row of numbers lies, if it is not empty. -/
theorem nums_at {W : World} {p : Option Addr} {n c : Nat} {l : List Int} (h : NumsAt W .i64 (.slice p n c) l) (z : Nat) (hz : z < W.heap.size) : ∃ b off, b < W.heap.size ∧ (0 < l.length → p = some ⟨b, off, none⟩) ∧ ∀ i (h : i < l.length), W.cell? ⟨b, off + i, none⟩ = some (.int .i64 l[i]) := by
  obtain ⟨q, cap, e, hc⟩ := h
  injection e with e1 e2 e3
  subst e1
  by_cases hne : l = []
  · subst hne
    exact ⟨z, 0, hz, (fun h => by cases h), (fun i h => by cases h)⟩
  · obtain ⟨b, off, rfl, hcs⟩ := hc hne
    have h0 := World.block_lt_of_cell? W _ (hcs 0 (List.length_pos_iff.2 hne))
    exact ⟨b, off, by simpa using h0, fun _ => rfl, hcs⟩

set_option maxRecDepth 100000 in
theorem runsF_c (v : Value) (l : List Int) (w : World) (hv : NumsAt w .i64 v l) (hmax : l.length ≤ 4294967296) :
    Calls Tryd.prog 18 #[v] w fun e w' => GivesRuns w.heap.size l e w' ∧ Below w.heap.size w w' := by
  obtain ⟨p, cap, rfl, _⟩ := id hv
  obtain ⟨n, hn⟩ : ∃ n, n = l.length := ⟨_, rfl⟩
  have hB : Below w.heap.size w (w.alloc (.cells #[.slice p l.length cap] 23)) := (Below.refl _ _).alloc (Nat.le_refl _) _
  have hc := (Boxed.new w 23 (.slice p l.length cap)).cell
  obtain ⟨b, off, hb, hp, hcs⟩ := nums_at (nums_below hv hB) w.heap.size (by simp)
  have HC := Lib.hid (collect_c w.heap.size b off cap p l _ hmax hp hb hc hcs)
  clear hcs hp hb hc hv
  rw [← hn]
  rw [← hn] at HC hB
  clear hn
  go_enter Tryd.func18, Tryd.ntmps18
  go_wp2_with fail
  refine (runsIt_c _ ⟨_, _, _, rfl⟩ _).mono ?_
  rintro e w1 ⟨rfl, rfl⟩
  go_wp2_with fail
  refine HC.out.mono ?_
  rintro e w2 ⟨⟨v', rfl, ho⟩, hb⟩
  clear HC
  go_wp2
  go_ret
  exact ⟨⟨v', rfl, ho.mono hB.size⟩, below_then hB hB.size hb⟩

end Go.Proofs.YtjgdkfgcfningaaDoor
