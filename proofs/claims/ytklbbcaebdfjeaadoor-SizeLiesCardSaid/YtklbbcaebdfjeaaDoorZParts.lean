/-
  Package size: Parts: the blocks of a class within one that may be, in new memory.
  Conditions: the package's table of sizes is as it was laid; the ranges of Go's types.
-/
import Derived.Test.YtklbbcaebdfjeaaDoorZInside
namespace Go.Proofs.YtklbbcaebdfjeaaDoor
open Go.RowKit Go.Shelf
attribute [local go_sem] Oper.semAt_some

/-- The cells of a row of blocks. -/
def flatB : List (Nat × Nat) → List Value
  | [] => []
  | p :: t => .int .i64 (p.1 : Int) :: .int .i64 (p.2 : Int) :: flatB t
theorem flatB_snoc (l : List (Nat × Nat)) (s : Nat × Nat) : flatB (l ++ [s]) = flatB l ++ [.int .i64 (s.1 : Int), .int .i64 (s.2 : Int)] := by
  induction l with
  | nil => rfl
  | cons x t ih => simp only [List.cons_append, flatB, ih]
theorem blk_info : (Tryd.prog.info? 33).map (fun i => (i.zero, i.size, i.bytes)) = some (some (.agg #[.int .i64 0, .int .i64 0]), 2, 16) := by kernel_rfl

set_option maxRecDepth 100000 in
set_option maxHeartbeats 4000000 in
theorem appendSeq_c (b d a k j : Nat) (hk : k < 4) (hj : j ≤ k) (ha : a + szN k ≤ 4096) (w : World) (hT : Tab w) (hbx : BBox w b a k) (hdx : Boxed w d 3 (.int .i64 (j : Int))) :
    Calls Tryd.prog 45 #[.slice none 0 0, .func (.func 46) #[] #[.pointer (some ⟨b, 0, none⟩), .pointer (some ⟨d, 0, none⟩)]] w fun e w' => OwnsNew w.heap.size 33 2 (inN k j) (flatB (inL a j (inN k j))) e w' ∧ Below w.heap.size w w' := by
  obtain ⟨i0, hi, hz0, hz1, hz2⟩ := info_parts blk_info
  have hlb := hbx.lt
  have hld := hdx.lt
  have hl0 := hT.lt
  obtain ⟨hm1, hm2, hm3⟩ := inN_mul hk hj
  refine (callsIn_wide (n := 9)).1 ?_
  refine callsIn_of_wp_marks Tryd.func45 rfl trivial ?_ rfl
  simp only [Tryd.ntmps45, List.size_toArray, List.length_cons, List.length_nil, Nat.reduceAdd, Nat.reduceSub, Array.replicate_succ, Array.replicate_zero, List.push_toArray, List.append_toArray, List.nil_append, List.cons_append]
  gi_wp2
  have hB1 : Below w.heap.size w (w.alloc (.cells #[.slice none 0 0] 30)) := (Below.refl _ _).alloc (Nat.le_refl _) _
  refine wpIn_rangeBound rfl (by omega) (gf := 46) (bd := #[]) (lb := #[.pointer (some ⟨b, 0, none⟩), .pointer (some ⟨d, 0, none⟩)]) rfl trivial (enters_of Tryd.func46 (by kernel_rfl) rfl)
    (inside_stops 8 (by omega) w.heap.size b d a k j hk hj ha _ hlb hld hB1.size hl0 (hT.below hB1) (hbx.below hB1) (boxed_below hdx hB1)) (fun h k => h.trans k) (belowK_b (by simp)) (Below.refl _ _) (fun _ => rfl)
    (fun pre W => (∃ v, Boxed W w.heap.size 30 v ∧ W.ownsRow (w.heap.size + 1) 33 2 v pre.length (flatB (pre.map (·.1))) ∧ True) ∧ Below w.heap.size w W)
    (fun _ _ _ => False)
    ?hI ?hIx ?h0
    (fun s a' W => ∃ blk, a' = { tmps := #[.slice none 0 0, .func (.func 46) #[] #[.pointer (some ⟨b, 0, none⟩), .pointer (some ⟨d, 0, none⟩)], .pointer (some ⟨w.heap.size, 0, none⟩), undef, .slice none 0 0, .pointer (some ⟨blk, 0, none⟩), .func (.func 46) #[] #[.pointer (some ⟨b, 0, none⟩), .pointer (some ⟨d, 0, none⟩)], blkE s, undef, undef, undef, undef, undef], defers := [] } ∧ BBox W blk s.1.1 s.1.2)
    ?hAx ?assign ?body ?done ?stop
  case hI => exact OwnFrom.and (Own.from (holdsRow_own (w.heap.size + 1) w.heap.size 30 33 2 (fun pre : List Blk => pre.length) (fun pre : List Blk => flatB (pre.map (·.1))) (fun _ _ => True)) _) (ownFrom_below (Nat.le_refl _) (by simp))
  case hIx => exact fun _ _ _ _ _ hs _ _ => hs
  case h0 => exact ⟨⟨_, Boxed.new _ _ _, World.ownsRow_nil _ _ _ _, trivial⟩, hB1⟩
  case hAx =>
    rintro s a' u X Y row ⟨blk, hpure, hs⟩ hg hr
    exact ⟨blk, hpure, (bbox_own blk (fun _ : Unit => (s.1.1 : Int)) (fun _ => (s.1.2 : Int))).from _ () X Y row hs hg hr⟩
  case assign =>
    rintro l pre s W K ⟨⟨v, hbv, hrow, _⟩, hB⟩ hK
    gi_wp2
    exact hK _ _ ((KeepsOthers.alloc _ _).from _) ((Below.refl _ _).alloc hB.size _) ⟨⟨v, hbv.alloc _, hrow.alloc _, trivial⟩, hB.alloc hB.size _⟩ ⟨W.heap.size, rfl, World.alloc_heap_new W _⟩
  case body =>
    rintro l pre s a' W hl _ ⟨⟨v, hbv, hrow, _⟩, hB⟩ ⟨blk, rfl, hpr⟩ hlen
    obtain ⟨hc0, hc1⟩ := hpr.cells
    have hpl : pre.length ≤ 8 := by omega
    have hbl1 := hbv.lt
    have hcv := hbv.cell
    have HOWN := Lib.hid (hrow.alloc (.cells #[.int .i64 s.1.1, .int .i64 s.1.2] 33))
    have HNEW := Lib.hid (show ∀ (j : Nat) (u : Value), [Value.int .i64 s.1.1, Value.int .i64 s.1.2][j]? = some u → (W.alloc (.cells #[.int .i64 s.1.1, .int .i64 s.1.2] 33)).cell? ((⟨W.heap.size, 0, none⟩ : Addr).add j) = some u from by
      intro j u hj
      rw [addr_add_off]
      match j, hj with
      | 0, hj => simp at hj; subst hj; simp
      | 1, hj => simp at hj; subst hj; simp
      | j + 2, hj => simp at hj)
    have HBV := Lib.hid hbv
    clear hrow hpr
    gi_wp2_with (gi_at_builtin; refine wpListIn_append_own _ rfl _ _ 30 rfl (w.heap.size + 1) 33 i0 (.agg #[.int .i64 0, .int .i64 0]) 2 16 Tryd.underlying30 hi hz0 hz1 hz2 rfl (by decide) _ _ _ rfl HOWN.out ⟨W.heap.size, 0, none⟩ 1 1 [.int .i64 s.1.1, .int .i64 s.1.2] rfl rfl HNEW.out (by intro u hu; simp at hu; rcases hu with rfl | rfl <;> rfl) (by unfold maxLen; omega) (by omega) (by simp; omega) ?_; intro v' w1 hown' hgrow _; obtain ⟨g', c', rfl⟩ := ownsRow_succ hown'; have hb1 : Boxed w1 w.heap.size 30 v := (HBV.out.alloc _).kept hgrow (HBV.out.alloc _ |>.not_row (by decide) HOWN.out); have hcb := hb1.cell; have hfb := hb1.frozen)
    have hkind : ∀ (q : Nat) (o : Obj), v.ownBlock = some q → (W.alloc (.cells #[.int .i64 s.1.1, .int .i64 s.1.2] 33)).heap[q]? = some o → o.isCells = true := by
      intro q o hq ho
      obtain ⟨c, fz, h1⟩ := Lib.ownsRow_kind HOWN.out q hq
      rw [h1] at ho
      cases ho
      rfl
    have hbase : ∀ q, v.ownBlock = some q → w.heap.size + 1 ≤ q := fun q hq => (HOWN.out.lt q hq).1
    have HKB := Lib.hid (((((Below.refl w.heap.size W).alloc hB.size _).grown hgrow (by have := hB.size; simp; omega) (fun q e => by have := hbase q e; omega))).setCell (p := ⟨w.heap.size, 0, none⟩) (Nat.le_refl _) (.slice (some ⟨g', 0, none⟩) (pre.length + 1) c'))
    have hown2 := ownsRow_setCell_below hown' (a := ⟨w.heap.size, 0, none⟩) (by simp) (.slice (some ⟨g', 0, none⟩) (pre.length + 1) c')
    refine ⟨(((KeepsOthers.alloc W _).trans (KeepsOthers.of_grownBy hgrow hkind)).trans (KeepsOthers.setCell _ _ _)).from _, HKB.out, ⟨⟨_, hb1.set _, ?_, trivial⟩, ?_⟩⟩
    · rw [List.length_append, List.length_singleton, List.map_append, List.map_singleton, flatB_snoc]
      exact hown2
    · exact (((hB.alloc hB.size _).grown hgrow (by have := hB.size; simp; omega) (fun q e => by have := hbase q e; omega))).setCell (p := ⟨w.heap.size, 0, none⟩) (Nat.le_refl _) _
  case done =>
    rintro D xs W hD hxs ⟨⟨v, hbv, hrow, _⟩, hB⟩ hK
    have hcv := hbv.cell
    have hlx : xs.length = inN k j := by rw [← inL_length a j (inN k j), ← hxs, List.length_map]
    rw [hxs, hlx] at hrow
    have hDW : w.heap.size ≤ D := by simp at hD; omega
    have HROW := Lib.hid hrow
    clear hrow hxs hlx
    gi_wp2
    refine ⟨by simp, .inl ⟨_, _, rfl, run_takeDeferred hK, ?_⟩⟩
    have hd : Below w.heap.size W (W.putObj D (.deferred none)) := belowK_b (w := w) (Nat.le_refl _) W D _ _ hDW hK rfl rfl
    exact ⟨_, results_tmp rfl _ _ _, ⟨v, rfl, ownsRow_putObj (HROW.out.mono (Nat.le_succ _)) (.deferred none) hK rfl⟩, hB.trans hd⟩
  case stop =>
    rintro D c p W _ _ h _
    exact h.elim

set_option maxRecDepth 100000 in
theorem collect_c (b d a k j : Nat) (hk : k < 4) (hj : j ≤ k) (ha : a + szN k ≤ 4096) (w : World) (hT : Tab w) (hbx : BBox w b a k) (hdx : Boxed w d 3 (.int .i64 (j : Int))) :
    Calls Tryd.prog 39 #[.func (.func 46) #[] #[.pointer (some ⟨b, 0, none⟩), .pointer (some ⟨d, 0, none⟩)]] w fun e w' => OwnsNew w.heap.size 33 2 (inN k j) (flatB (inL a j (inN k j))) e w' ∧ Below w.heap.size w w' := by
  have HC := Lib.hid (appendSeq_c b d a k j hk hj ha w hT hbx hdx)
  clear hT hbx hdx
  go_enter Tryd.func39, Tryd.ntmps39
  go_wp2_with fail
  refine HC.out.mono ?_
  rintro e w1 ⟨⟨v, rfl, ho⟩, hb⟩
  go_wp2
  go_ret
  exact ⟨⟨v, rfl, ho⟩, hb⟩

end Go.Proofs.YtklbbcaebdfjeaaDoor
