/-
  slices.Collect of the iterator over live rows: the rows, in new memory; what was in memory stays.
  Conditions: the truth values read as this list.
-/
import Derived.Test.YtgpbhdoidhhhhaaMLives
import Derived.Test.YtgpbhdoidhhhhaaMEqual
import Derived.Test.YtgpbhdoidhhhhaaMCheck
import Derived.RangeFuncBox
namespace Go.Proofs.Ytgpbhdoidhhhhaa
open Go.RowKit Go.Shelf
attribute [local go_sem] Oper.semAt_some

/-- The rows as pairs of numbers. -/
def rowsI (l : List (Nat × Nat)) : List (Int × Int) := l.map fun s => ((s.1 : Int), (s.2 : Int))
theorem flatP_snoc (l : List (Int × Int)) (s : Int × Int) : flatP (l ++ [s]) = flatP l ++ [.int .i64 s.1, .int .i64 s.2] := by
  induction l with
  | nil => rfl
  | cons x t ih => simp only [List.cons_append, flatP, ih]
theorem pair_info : (Try.prog.info? 29).map (fun i => (i.zero, i.size, i.bytes)) = some (some (.agg #[.int .i64 0, .int .i64 0]), 2, 16) := by kernel_rfl

set_option maxRecDepth 100000 in
set_option maxHeartbeats 4000000 in
theorem appendSeq_c (lb b off cap : Nat) (ls : List Bool) (w : World) (hmax : ls.length ≤ 4096) (hcap : ls.length ≤ cap) (hne : 0 < ls.length)
    (hc : w.cell? ⟨lb, 0, none⟩ = some (.slice (some ⟨b, off, none⟩) ls.length cap)) (hl : ∀ i (h : i < ls.length), w.cell? ⟨b, off + i, none⟩ = some (.bool ls[i])) :
    Calls Try.prog 52 #[.slice none 0 0, .func (.func 53) #[] #[.pointer (some ⟨lb, 0, none⟩)]] w fun e w' => OwnsNew w.heap.size 29 2 (spansL ls).length (flatP (rowsI (spansL ls))) e w' ∧ Below w.heap.size w w' := by
  obtain ⟨i0, hi, hz0, hz1, hz2⟩ := info_parts pair_info
  have hlb := World.block_lt_of_cell? w _ hc
  have hbl := World.block_lt_of_cell? w _ (hl 0 hne)
  simp only at hlb hbl
  refine (callsIn_wide (n := 9)).1 ?_
  refine callsIn_of_wp_marks Try.func52 rfl trivial ?_ rfl
  simp only [Try.ntmps52, List.size_toArray, List.length_cons, List.length_nil, Nat.reduceAdd, Nat.reduceSub, Array.replicate_succ, Array.replicate_zero, List.push_toArray, List.append_toArray, List.nil_append, List.cons_append]
  have HL := Lib.hid hl
  clear hl
  gi_wp2
  have hB1 : Below w.heap.size w (w.alloc (.cells #[.slice none 0 0] 26)) := (Below.refl _ _).alloc (Nat.le_refl _) _
  refine wpIn_rangeBound rfl (by omega) (gf := 53) (bd := #[]) (lb := #[.pointer (some ⟨lb, 0, none⟩)]) rfl trivial (enters_of Try.func53 (by kernel_rfl) rfl)
    (spans_stops 8 (by omega) (fun q => w.heap.size ≤ q) lb b off cap ls _ (by omega) (by omega) hmax hcap (below_cell hB1 hc) (fun i h => below_cell hB1 (HL.out i h))) (fun h k => h.trans k) (fun W l o o' _ => KeepsCells.turn _ W l o o') (Below.refl _ _) (fun _ => rfl)
    (fun pre W => (∃ v, Boxed W w.heap.size 26 v ∧ W.ownsRow (w.heap.size + 1) 29 2 v pre.length (flatP (rowsI (pre.map (·.1)))) ∧ True) ∧ Below w.heap.size w W)
    (fun _ _ _ => False)
    ?hI ?hIx ?h0
    (fun s a' W => ∃ blk, a' = { tmps := #[.slice none 0 0, .func (.func 53) #[] #[.pointer (some ⟨lb, 0, none⟩)], .pointer (some ⟨w.heap.size, 0, none⟩), undef, .slice none 0 0, .pointer (some ⟨blk, 0, none⟩), .func (.func 53) #[] #[.pointer (some ⟨lb, 0, none⟩)], rowV s, undef, undef, undef, undef, undef], defers := [] } ∧ W.heap[blk]? = some (.cells #[.int .i64 s.1.1, .int .i64 s.1.2] 29 (0, 0)))
    ?hAx ?assign ?body ?done ?stop
  case hI => exact OwnFrom.and (Own.from (holdsRow_own (w.heap.size + 1) w.heap.size 26 29 2 (fun pre : List RowS => pre.length) (fun pre : List RowS => flatP (rowsI (pre.map (·.1)))) (fun _ _ => True)) _) (ownFrom_below (Nat.le_refl _) (by simp))
  case hIx => exact fun _ _ _ _ _ hs _ _ => hs
  case h0 => exact ⟨⟨_, Boxed.new _ _ _, World.ownsRow_nil _ _ _ _, trivial⟩, hB1⟩
  case hAx =>
    rintro s a' _ X Y row ⟨blk, hpure, hs⟩ hg hr
    refine ⟨blk, hpure, (hg.block blk (Array.getElem?_eq_some_iff.1 hs).1 fun e => ?_).trans hs⟩
    obtain ⟨_, o, ho, hc⟩ := hr blk e.symm
    rw [hs] at ho
    cases ho
    cases hc
  case assign =>
    rintro l pre s W K ⟨⟨v, hbv, hrow, _⟩, hB⟩ hK
    gi_wp2
    exact hK _ _ ((KeepsOthers.alloc _ _).from _) (KeepsCells.keeps (Keeps.alloc _ _ _)) ⟨⟨v, hbv.alloc _, hrow.alloc _, trivial⟩, hB.alloc hB.size _⟩ ⟨W.heap.size, rfl, World.alloc_heap_new W _⟩
  case body =>
    rintro l pre s a' W hl _ ⟨⟨v, hbv, hrow, _⟩, hB⟩ ⟨blk, rfl, hpr⟩ hlen
    have hc0 : W.cell? ⟨blk, 0, none⟩ = some (.int .i64 s.1.1) := by simp [World.cell?, hpr]
    have hc1 : W.cell? ⟨blk, 1, none⟩ = some (.int .i64 s.1.2) := by simp [World.cell?, hpr]
    have hpl : pre.length ≤ 4097 := by
      have h2 := spansP_length ls 0 0
      have h3 : pre.length < (spansP 0 0 ls).length := hlen
      omega
    have hbl1 := hbv.lt
    have hcv := hbv.cell
    have HOWN := Lib.hid (hrow.alloc (.cells #[.int .i64 s.1.1, .int .i64 s.1.2] 29))
    have HNEW := Lib.hid (show ∀ (j : Nat) (u : Value), [Value.int .i64 s.1.1, Value.int .i64 s.1.2][j]? = some u → (W.alloc (.cells #[.int .i64 s.1.1, .int .i64 s.1.2] 29)).cell? ((⟨W.heap.size, 0, none⟩ : Addr).add j) = some u from by
      intro j u hj
      rw [addr_add_off]
      match j, hj with
      | 0, hj => simp at hj; subst hj; simp
      | 1, hj => simp at hj; subst hj; simp
      | j + 2, hj => simp at hj)
    have HBV := Lib.hid hbv
    clear hrow hpr
    gi_wp2_with (gi_at_builtin; refine wpListIn_append_own _ rfl _ _ 26 rfl (w.heap.size + 1) 29 i0 (.agg #[.int .i64 0, .int .i64 0]) 2 16 Try.underlying26 hi hz0 hz1 hz2 rfl (by decide) _ _ _ rfl HOWN.out ⟨W.heap.size, 0, none⟩ 1 1 [.int .i64 s.1.1, .int .i64 s.1.2] rfl rfl HNEW.out (by intro u hu; simp at hu; rcases hu with rfl | rfl <;> rfl) (by unfold maxLen; omega) (by omega) (by simp; omega) ?_; intro v' w1 hown' hgrow _; obtain ⟨g', c', rfl⟩ := ownsRow_succ hown'; have hb1 : Boxed w1 w.heap.size 26 v := (HBV.out.alloc _).kept hgrow (HBV.out.alloc _ |>.not_row (by decide) HOWN.out); have hcb := hb1.cell; have hfb := hb1.frozen)
    have hkind : ∀ (q : Nat) (o : Obj), v.ownBlock = some q → (W.alloc (.cells #[.int .i64 s.1.1, .int .i64 s.1.2] 29)).heap[q]? = some o → o.isCells = true := by
      intro q o hq ho
      obtain ⟨c, fz, h1⟩ := Lib.ownsRow_kind HOWN.out q hq
      rw [h1] at ho
      cases ho
      rfl
    have hbase : ∀ q, v.ownBlock = some q → w.heap.size + 1 ≤ q := fun q hq => (HOWN.out.lt q hq).1
    have hkg : Keeps (fun q => w.heap.size ≤ q) (W.alloc (.cells #[.int .i64 s.1.1, .int .i64 s.1.2] 29)) w1 :=
      ⟨hgrow.os, hgrow.tape, hgrow.output, hgrow.size, fun q hq hn => hgrow.block q hq fun e => hn (by have := hbase q e.symm; omega)⟩
    have hown2 := ownsRow_setCell_below hown' (a := ⟨w.heap.size, 0, none⟩) (by simp) (.slice (some ⟨g', 0, none⟩) (pre.length + 1) c')
    refine ⟨(((KeepsOthers.alloc W _).trans (KeepsOthers.of_grownBy hgrow hkind)).trans (KeepsOthers.setCell _ _ _)).from _, KeepsCells.keeps (((Keeps.alloc _ W _).trans hkg).trans (Keeps.setCell _ (p := ⟨w.heap.size, 0, none⟩) (Nat.le_refl _) _)), ⟨⟨_, hb1.set _, ?_, trivial⟩, ?_⟩⟩
    · rw [List.length_append, List.length_singleton, List.map_append, List.map_singleton, rowsI, List.map_append, List.map_singleton, flatP_snoc]
      exact hown2
    · exact (((hB.alloc hB.size _).grown hgrow (by have := hB.size; simp; omega) (fun q e => by have := hbase q e; omega))).setCell (p := ⟨w.heap.size, 0, none⟩) (Nat.le_refl _) _
  case done =>
    rintro D xs W hD hxs ⟨⟨v, hbv, hrow, _⟩, hB⟩ hK
    have hcv := hbv.cell
    have hlx : xs.length = (spansL ls).length := by rw [← hxs, List.length_map]
    rw [hxs, hlx] at hrow
    have hDW : w.heap.size ≤ D := by simp at hD; omega
    have HROW := Lib.hid hrow
    clear hrow hxs hlx
    gi_wp2
    refine ⟨by simp, .inl ⟨_, _, rfl, run_takeDeferred hK, ?_⟩⟩
    have hd : Below w.heap.size W (W.putObj D (.deferred none)) := belowK_b (w := w) (Nat.le_refl _) W D _ _ hDW hK rfl rfl
    exact ⟨_, results_tmp rfl _ _ _, ⟨v, rfl, ownsRow_putObj (HROW.out.mono (Nat.le_succ _)) (.deferred none) hK rfl⟩, hB.trans hd⟩
  case stop =>
    rintro D c p W _ _ h _
    exact h.elim

set_option maxRecDepth 100000 in
theorem collect_c (lb b off cap : Nat) (ls : List Bool) (w : World) (hmax : ls.length ≤ 4096) (hcap : ls.length ≤ cap) (hne : 0 < ls.length)
    (hc : w.cell? ⟨lb, 0, none⟩ = some (.slice (some ⟨b, off, none⟩) ls.length cap)) (hl : ∀ i (h : i < ls.length), w.cell? ⟨b, off + i, none⟩ = some (.bool ls[i])) :
    Calls Try.prog 46 #[.func (.func 53) #[] #[.pointer (some ⟨lb, 0, none⟩)]] w fun e w' => OwnsNew w.heap.size 29 2 (spansL ls).length (flatP (rowsI (spansL ls))) e w' ∧ Below w.heap.size w w' := by
  have HC := Lib.hid (appendSeq_c lb b off cap ls w hmax hcap hne hc hl)
  clear hc hl
  go_enter Try.func46, Try.ntmps46
  go_wp2_with fail
  refine HC.out.mono ?_
  rintro e w1 ⟨⟨v, rfl, ho⟩, hb⟩
  go_wp2
  go_ret
  exact ⟨⟨v, rfl, ho⟩, hb⟩

set_option maxRecDepth 100000 in
set_option maxHeartbeats 2000000 in
theorem spansF_c (v : Value) (ws : List Int) (ls : List Bool) (f : Bool) (W : World) (hv : MemAt W v ws ls f) (hcap0 : ∀ x y p n c, v = .agg #[x, .slice p n c, y] → n ≤ c) (hr : rightB ws ls = true) :
    Calls Try.prog 28 #[v] W fun e w' => OwnsNew W.heap.size 29 2 (spansL ls).length (flatP (rowsI (spansL ls))) e w' ∧ Below W.heap.size W w' := by
  obtain ⟨hn1, hn2, hlen, hmay⟩ := rightB_iff.1 hr
  clear hmay
  have hm := hv
  obtain ⟨vw, vl, rfl, ⟨pw, cw, rfl, hcw⟩, pl, cl, rfl, hcl⟩ := hv
  obtain ⟨bl, ol, rfl, hcs⟩ := hcl (by intro e; rw [e] at hlen; simp at hlen; omega)
  have hcap := hcap0 _ _ _ _ _ rfl
  have HM := Lib.hid hm
  have HCS := Lib.hid hcs
  have HLEN := Lib.hid hlen
  clear hm hcw hcl hcs hcap0 hlen
  have hB : Below W.heap.size W (W.alloc (.cells #[.slice pw ws.length cw, .slice (some ⟨bl, ol, none⟩) ls.length cl, .bool f] 25)) := (Below.refl _ _).alloc (Nat.le_refl _) _
  have HZ := Lib.hid (MBox.new W (.slice pw ws.length cw) (.slice (some ⟨bl, ol, none⟩) ls.length cl) f)
  go_enter Try.func28, Try.ntmps28
  go_wp2_with fail
  refine (check_c _ ws ls f _ (HM.out.below hB) (by omega)).mono ?_
  rintro e w1 ⟨rfl, hb1⟩
  rw [chkM_yes hr]
  obtain ⟨⟨hd0, hd1, hd2⟩, _⟩ := mbox_cells (HZ.out.below hb1)
  have hB1 := below_then hB hB.size hb1
  clear hb1 hB
  go_wp2_with fail
  refine (spans_c _ ⟨_, _, _, rfl⟩ _).mono ?_
  rintro e w2 ⟨rfl, rfl⟩
  have hB2 := hB1.alloc hB1.size (.cells #[.slice (some ⟨bl, ol, none⟩) ls.length cl] 23)
  have hcc := (Boxed.new w1 23 (.slice (some ⟨bl, ol, none⟩) ls.length cl)).cell
  have HCO := Lib.hid (collect_c w1.heap.size bl ol cl ls _ (by rw [HLEN.out]; omega) hcap (by rw [HLEN.out]; omega) hcc (fun i h => below_cell hB2 (HCS.out i h)))
  clear hcc hd0 hd1 hd2
  go_wp2_with fail
  refine HCO.out.mono ?_
  rintro e w3 ⟨⟨v3, rfl, ho⟩, hb3⟩
  have hB3 := below_then hB2 hB2.size hb3
  have ho2 := ho.mono (base' := W.heap.size) hB2.size
  clear ho hb3 HCO
  go_wp2
  go_ret
  exact ⟨⟨v3, rfl, ho2⟩, hB3⟩

end Go.Proofs.Ytgpbhdoidhhhhaa
