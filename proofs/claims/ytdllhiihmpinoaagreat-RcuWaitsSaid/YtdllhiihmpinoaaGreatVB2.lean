/-
  Package grace: Check, Over, Same, New; must.
  Conditions: the ranges of Go's types.
-/
import Derived.Test.YtdllhiihmpinoaaGreatVB1
import Derived.Laws.EntriesVeiled
import Derived.Laws.CopyOwn
import Derived.BigRegion
import Derived.Deep.Cut
import Derived.Deep.DeepCutAuto
import Derived.Deep.CutBlock
import Derived.WalkSpells
import Derived.RegionTactic
import Derived.Deep.MidRow
import Derived.Lib.Hide
import Derived.WalkLawsBesides
/-
  Package reader: the oldest section.
  Conditions: as many of the one row as of the other.
-/
namespace Go.Proofs.YtdllhiihmpinoaaGreat
set_option maxRecDepth 100000
open Go.RowKit Go.Shelf Go.Maps
attribute [local go_sem] Oper.semAt_some

def aheadB (a s : Int) : Bool := decide (a = 0) || decide (s < a)
def oldM (l : List (Int × Int)) : Int := l.foldl (fun a s => if aheadB a s.2 = true then s.2 else a) 0
theorem oldM_snoc (l : List (Int × Int)) (s : Int × Int) : oldM (l ++ [s]) = if aheadB (oldM l) s.2 = true then s.2 else oldM l := by unfold oldM; rw [List.foldl_append]; rfl

set_option maxHeartbeats 4000000 in
theorem ahead_c (s a : Int) (lb : Nat) (W : World) (hc : W.cell? ⟨lb, 0, none⟩ = some (.int .i64 a)) : Calls Tryz.prog 88 #[.int .i64 s, .pointer (some ⟨lb, 0, none⟩)] W fun e w' => e = .returned (.bool (aheadB a s)) ∧ w' = W := by
  unfold aheadB
  by_cases h : a = 0
  · have hq : (a == 0) = true := by rw [h]; rfl
    rw [decide_eq_true h, Bool.true_or]
    clear h
    go_enter Tryz.func88, Tryz.ntmps88
    go_wp2
    go_ret
    exact ⟨rfl, rfl⟩
  · have hq : (a == 0) = false := by rw [beq_eq_false_iff_ne]; exact h
    rw [decide_eq_false h, Bool.false_or]
    clear h
    go_enter Tryz.func88, Tryz.ntmps88
    go_wp2
    go_ret
    exact ⟨rfl, rfl⟩

def wO (W : World) (now : Int) (u v : Value) : World := ((W.alloc (.cells #[.int .i64 now, u, v] 24)).alloc (.cells #[.int .i64 0] 3)).alloc (.cells #[.func (.func 88) #[] #[.pointer (some ⟨W.heap.size + 1, 0, none⟩)]] 129)
theorem wO_facts (W : World) (now : Int) (u v : Value) : RBox (wO W now u v) W.heap.size now u v ∧ Boxed (wO W now u v) (W.heap.size + 1) 3 (.int .i64 0) ∧ Boxed (wO W now u v) (W.heap.size + 1 + 1) 129 (.func (.func 88) #[] #[.pointer (some ⟨W.heap.size + 1, 0, none⟩)]) ∧ Below W.heap.size W (wO W now u v) ∧ (wO W now u v).heap.size = W.heap.size + 3 := by
  refine ⟨(((RBox.new W now u v).below (below1 _ _)).below (below1 _ _)), ?_, ?_, below3 _ _ _ _, by unfold wO; simp⟩
  · have := (Boxed.new (W.alloc (.cells #[.int .i64 now, u, v] 24)) 3 (.int .i64 0)).alloc (.cells #[.func (.func 88) #[] #[.pointer (some ⟨W.heap.size + 1, 0, none⟩)]] 129)
    simpa [wO] using this
  · have := Boxed.new ((W.alloc (.cells #[.int .i64 now, u, v] 24)).alloc (.cells #[.int .i64 0] 3)) 129 (.func (.func 88) #[] #[.pointer (some ⟨W.heap.size + 1, 0, none⟩)])
    simpa [wO] using this
/-- Between two rounds. -/
def OI (W : World) (pre : List (Int × Int × Int)) (W' : World) : Prop :=
  Boxed W' (W.heap.size + 1) 3 (.int .i64 (oldM (pre.map (·.2)))) ∧ Boxed W' (W.heap.size + 1 + 1) 129 (.func (.func 88) #[] #[.pointer (some ⟨W.heap.size + 1, 0, none⟩)]) ∧ Below W.heap.size W W'
theorem oi_own (W : World) (z : Nat) (hz : W.heap.size + 4 ≤ z) : OwnFrom z (OI W) := by
  rintro s X Y row ⟨h1, h2, h3⟩ hg hr
  have hr' := fun r e => (hr r e).2
  exact ⟨heap_own h1 hg hr', heap_own h2 hg hr', h3.grown hg h3.size (fun k e => by have := (hr k e).1; omega)⟩

set_option maxHeartbeats 8000000 in
theorem oldest_c (now : Int) (u v : Value) (ns os : List Int) (W : World) (h2 : os.length = ns.length) (h8 : ns.length ≤ 8) (hnn : NumsAt W .i64 u ns) (hoo : NumsAt W .i64 v os) :
    Calls Tryz.prog 60 #[.agg #[.int .i64 now, u, v]] W fun e w' => e = .returned (.int .i64 (oldM (secs (ns.zip os)))) ∧ Below W.heap.size W w' := by
  obtain ⟨p, c, rfl, hp⟩ := hnn
  obtain ⟨q, d, rfl, hq⟩ := hoo
  rw [h2]
  have hn : RowOut (fun _ => False) W p ns := fun hne => by obtain ⟨b, off, e, hc⟩ := hp hne; exact ⟨b, off, e, fun h => h, hc⟩
  have ho : RowOut (fun _ => False) W q os := fun hne => by obtain ⟨b, off, e, hc⟩ := hq hne; exact ⟨b, off, e, fun h => h, hc⟩
  clear hp hq
  have HF := Lib.hid (wO_facts W now (.slice p ns.length c) (.slice q ns.length d))
  obtain ⟨w0, hw0⟩ : ∃ X, X = wO W now (.slice p ns.length c) (.slice q ns.length d) := ⟨_, rfl⟩
  rw [← hw0] at HF
  unfold wO at hw0
  have hl : ∀ {p : Option Addr} {fs : List Int}, RowOut (fun _ => False) W p fs → RowOut (fun k => k = W.heap.size + 1) w0 p fs := fun {p fs} hl hne => by
    obtain ⟨bb, off, e, -, hcs⟩ := hl hne
    obtain ⟨i0, hi0⟩ : ∃ i : Nat, i < fs.length := ⟨0, by cases fs with | nil => exact absurd rfl hne | cons _ _ => simp⟩
    have hlt := World.block_lt_of_cell? W _ (hcs i0 hi0)
    exact ⟨bb, off, e, (by simp only at hlt; omega), fun i hi => below_cell HF.out.2.2.2.1 (hcs i hi)⟩
  have HL := Lib.hid (And.intro (hl hn) (hl ho))
  have HLEN := Lib.hid h2
  obtain ⟨c0, c1, c2⟩ := HF.out.1.cells
  clear h2 hn ho hl
  refine (callsIn_wide (n := 9)).1 ?_
  refine callsIn_of_wp_marks Tryz.func60 rfl trivial ?_ rfl
  simp only [Tryz.ntmps60, List.size_toArray, List.length_cons, List.length_nil, Nat.reduceAdd, Nat.reduceSub, Array.replicate_succ, Array.replicate_zero, List.push_toArray, List.append_toArray, List.nil_append, List.cons_append]
  gi_wp2_with fail
  rw [← hw0]
  clear hw0
  refine ⟨trivial, (callsIn_wide.2 (sections_c now _ _ w0)).mono ?_⟩
  rintro e w2 ⟨rfl, hw2⟩
  have hb12 : Below w0.heap.size w0 w2 := by rw [hw2]; exact below1 _ _
  have HPB := Lib.hid (show RBox w2 w0.heap.size now (.slice p ns.length c) (.slice q ns.length d) by rw [hw2]; exact RBox.new _ _ _ _)
  have HI0 := Lib.hid (show OI W [] w2 from ⟨(hb12.block _ HF.out.2.1.lt).trans HF.out.2.1, (hb12.block _ HF.out.2.2.1.lt).trans HF.out.2.2.1, below_then HF.out.2.2.2.1 HF.out.2.2.2.1.size hb12⟩)
  have HL2 := Lib.hid (And.intro (HL.out.1.below hb12) (HL.out.2.below hb12))
  have hz0 : w0.heap.size = W.heap.size + 3 := HF.out.2.2.2.2
  have hz2 : w2.heap.size = W.heap.size + 4 := by rw [hw2, World.size_alloc, hz0]
  have HZ0 := Lib.hid (And.intro hz0 hz2)
  clear hw2 hb12 c0 c1 c2 HL hz0 hz2
  gi_wp2
  have hOI := oi_own W w2.heap.size (by have := HZ0.out; omega)
  refine wpIn_rangeDeep rfl (by omega) (gf := 128) (lb := #[.pointer (some ⟨w0.heap.size, 0, none⟩)]) rfl trivial (enters_of Tryz.func128 (by kernel_rfl) rfl)
    (sections_stops 8 (by omega) (fun k => k = W.heap.size + 1) w0.heap.size now p q c d ns os w2 (by have := HZ0.out; omega) HLEN.out (by omega) HPB.out HL2.out.1 HL2.out.2) (fun h k => h.trans k) (fun W l o o' _ => KeepsCells.turn _ W l o o') (Below.refl _ _) (fun _ => rfl)
    (OI W) (fun _ _ _ => False) hOI (fun _ => ownFrom_pure _ _) HI0.out
    (fun x a' X => ∃ k, a' = { tmps := #[.agg #[.int .i64 now, .slice p ns.length c, .slice q ns.length d], .pointer (some ⟨W.heap.size, 0, none⟩), .int .i64 0, .pointer (some ⟨W.heap.size + 1, 0, none⟩), .pointer (some ⟨W.heap.size + 1 + 1, 0, none⟩), undef, .pointer (some ⟨k, 0, none⟩), .func (.func 88) #[] #[.pointer (some ⟨W.heap.size + 1, 0, none⟩)], .agg #[.int .i64 now, .slice p ns.length c, .slice q ns.length d], .func (.func 128) #[] #[.pointer (some ⟨w0.heap.size, 0, none⟩)], .int .i64 x.1, .agg #[.int .i64 x.2.1, .int .i64 x.2.2], undef, undef, undef, undef, undef, undef, undef], defers := [] } ∧ X.heap[k]? = some (.cells #[.int .i64 x.2.1, .int .i64 x.2.2] 135 (0, 0)))
    ?hAx ?assign ?body ?done ?stop
  case hAx =>
    rintro x a' s X Y row ⟨k, ha, hc⟩ hg hr
    exact ⟨k, ha, heap_own hc hg (fun r e => (hr r e).2)⟩
  case assign =>
    rintro l' pre x X K hi hK
    have hi2 := hOI.alloc (.cells #[.int .i64 x.2.1, .int .i64 x.2.2] 135) hi
    clear hi
    gi_wp2
    exact hK _ _ (KeepsFrom.of_grownBy (World.grownBy_alloc _ _ none) (fun j e => by cases e)) (fun b o v _ h => below_cell (below1 _ _) h) hi2 ⟨_, rfl, World.alloc_heap_new _ _⟩
  case body =>
    rintro l' pre x a' X hl' _ hI ⟨k, rfl, hck⟩ hlen -
    obtain ⟨hi1, hi2, hi3⟩ := hI
    obtain ⟨xc, xn, xo⟩ := x
    simp only at hck
    have hk1 : X.cell? ⟨k, 1, none⟩ = some (.int .i64 xo) := by simp [World.cell?, hck]
    have e1 := hi1.cell
    have f1 := hi1.frozen
    have e2 := hi2.cell
    have HSN := Lib.hid (show oldM ((pre ++ [(xc, xn, xo)]).map (·.2)) = if aheadB (oldM (pre.map (·.2))) xo = true then xo else oldM (pre.map (·.2)) by rw [List.map_append, List.map_singleton, oldM_snoc])
    have HI := Lib.hid (And.intro hi1 (And.intro hi2 hi3))
    obtain ⟨m, hm⟩ : ∃ m, m = oldM (pre.map (·.2)) := ⟨_, rfl⟩
    rw [← hm] at e1 HSN HI
    have HC := Lib.hid (ahead_c xo m (W.heap.size + 1) X e1)
    clear hi1 hi2 hi3 hck hlen hOI HI0 HPB HL2 hm
    cases hh : aheadB m xo with
    | false =>
      rw [hh] at HC HSN
      clear hh
      gi_wp2_with fail
      refine ⟨trivial, ((callsIn_wide.2 HC.out).inRound l').mono ?_⟩
      rintro e X2 ⟨rfl, rfl⟩
      gi_wp2
      refine ⟨KeepsFrom.refl _ _, KeepsCells.refl _ _, ?_, HI.out.2.1, HI.out.2.2⟩
      rw [HSN.out]; exact HI.out.1
    | true =>
      rw [hh] at HC HSN
      clear hh
      gi_wp2_with fail
      refine ⟨trivial, ((callsIn_wide.2 HC.out).inRound l').mono ?_⟩
      rintro e X2 ⟨rfl, hX2⟩
      subst hX2
      gi_wp2
      refine ⟨(KeepsOthers.setCell _ _ _).from _, KeepsCells.keeps (Keeps.setCell _ (S := (· = W.heap.size + 1)) (p := ⟨W.heap.size + 1, 0, none⟩) rfl _), ?_, ?_, HI.out.2.2.setCell (p := ⟨W.heap.size + 1, 0, none⟩) (by show W.heap.size ≤ W.heap.size + 1; omega) _⟩
      · rw [HSN.out]; exact HI.out.1.set _
      · exact ((Keeps.setCell _ (S := (· = W.heap.size + 1)) (p := ⟨W.heap.size + 1, 0, none⟩) rfl (.int .i64 xo)).block _ HI.out.2.1.lt (by omega)).trans HI.out.2.1
  case done =>
    rintro D xs X hD ⟨hxs, -⟩ ⟨h1, h2, h3⟩ hK
    rw [hxs] at h1
    have e4 := h1.cell
    have HB := Lib.hid h3
    have HW := Lib.hid (And.intro hD hK)
    have HSZ := Lib.hid (show W.heap.size ≤ w2.heap.size by have := HZ0.out; omega)
    clear h1 h2 h3 hxs hOI HI0 HPB HL2 hD hK
    gi_wp2
    refine leaves_marks (B := W.heap.size) [D] _ ((Marks.nil _ _).cons (Nat.le_trans HSZ.out HW.out.1) (by simp) HW.out.2) fun X' hX' => ⟨_, results_tmp rfl _ _ _, ?_, HB.out.trans hX'⟩
    rfl
  case stop =>
    rintro D cc pre X hD - hF hK
    exact hF.elim

end Go.Proofs.YtdllhiihmpinoaaGreat
/-
  Package reader: rows in memory of their own; what a turn holds, and the steps that it makes.
  Conditions: the ranges of Go's types.
-/
namespace Go.Proofs.YtdllhiihmpinoaaGreat
open Go.RowKit Go.Shelf
attribute [local go_sem] Oper.semAt_some

/-- A block that holds these numbers. -/
def IBlock (W : World) (g : Nat) (ns : List Int) : Prop := W.heap[g]? = some (.cells (ns.map (Value.int .i64)).toArray 3 (0, 0))
theorem IBlock.lt {W : World} {g : Nat} {ns : List Int} (h : IBlock W g ns) : g < W.heap.size := (Array.getElem?_eq_some_iff.1 h).1
theorem IBlock.below {W W' : World} {g : Nat} {ns : List Int} (h : IBlock W g ns) (hb : Below W.heap.size W W') : IBlock W' g ns := (hb.block g h.lt).trans h
theorem IBlock.keeps {S : Nat → Prop} {W W' : World} {g : Nat} {ns : List Int} (h : IBlock W g ns) (hk : Keeps S W W') (hS : ¬ S g) : IBlock W' g ns := (hk.block g h.lt hS).trans h
theorem IBlock.cell {W : World} {g : Nat} {ns : List Int} (h : IBlock W g ns) (i : Nat) (hi : i < ns.length) : W.cell? ⟨g, i, none⟩ = some (.int .i64 ns[i]) := block_cell h i hi
theorem IBlock.free {W : World} {g : Nat} {ns : List Int} (h : IBlock W g ns) (i : Nat) : W.frozen? ⟨g, i, none⟩ = false := block_free h i
theorem IBlock.nums {W : World} {g : Nat} {ns : List Int} (h : IBlock W g ns) : NumsAt W .i64 (.slice (some ⟨g, 0, none⟩) ns.length ns.length) ns := by
  have := nums_block (c := ns.length) h (Nat.le_refl _)
  rwa [List.take_length] at this
theorem IBlock.owns {W : World} {B g : Nat} {ns : List Int} (h : IBlock W g ns) (hB : B ≤ g) (hl : ns.length ≤ 1099511627776) : W.ownsRow B 3 1 (.slice (some ⟨g, 0, none⟩) ns.length ns.length) ns.length (ns.map (Value.int .i64)) :=
  ⟨by rw [List.length_map]; omega, .inr ⟨g, ns.length, _, rfl, hB, h, Nat.le_refl _, by unfold maxLen; omega, by rw [List.size_toArray, List.length_map]; omega, by rw [List.toList_toArray]; exact List.take_of_length_le (by rw [List.length_map]; omega)⟩⟩

theorem run_makeI (n : Nat) (hn : n ≤ 1099511627776) (w : World) : (Instr.makeSlice 22 (.int .i64 (n : Int)) (.int .i64 (n : Int))).run Tryz.prog w = .ok (.slice (some ⟨w.heap.size, 0, none⟩) n n) (w.alloc (.cells (Array.replicate n (Value.int .i64 0)) 3)) := by
  obtain ⟨i0, hi, hz0, hz1, hz2⟩ := info_parts cloneI_info
  have := run_make (P := Tryz.prog) w 22 3 i0 (.int .i64 0) Tryz.underlying22 hi hz0 .i64 .i64 (n : Int) (n : Int) (by omega) (by omega) (by rw [hz2]; omega) (by omega)
  rw [this, hz1]
  have e : madeCells (Value.int .i64 0).cells ((n : Int).toNat * 1) = Array.replicate n (Value.int .i64 0) := by
    apply Array.toList_inj.1
    rw [Nat.mul_one, Int.toNat_natCast, Array.toList_replicate]
    exact toList_madeCells_one _ n
  rw [e]
  simp
set_option maxRecDepth 100000 in
set_option maxHeartbeats 4000000 in
theorem own_c (v : Value) (vs : List Int) (W : World) (hv : NumsAt W .i64 v vs) (hn : vs.length ≤ 1099511627776) :
    Calls Tryz.prog 152 #[v] W fun e w' => (e = .returned (.slice (some ⟨W.heap.size, 0, none⟩) vs.length vs.length) ∧ IBlock w' W.heap.size vs) ∧ Below W.heap.size W w' := by
  obtain ⟨p, cap, rfl, hc⟩ := hv
  obtain ⟨n, hn0⟩ : ∃ n, n = vs.length := ⟨_, rfl⟩
  rw [← hn0] at hn ⊢
  have hmk := run_makeI n hn
  obtain ⟨w1, hw1⟩ : ∃ w : World, w = W.alloc (.cells (Array.replicate n (Value.int .i64 0)) 3) := ⟨_, rfl⟩
  obtain ⟨g, hg⟩ : ∃ g, g = W.heap.size := ⟨_, rfl⟩
  have hb1 : Below g W w1 := by rw [hw1, hg]; exact (Below.refl _ _).alloc (Nat.le_refl _) _
  have hg1 : w1.heap[g]? = some (.cells (List.replicate n (Value.int .i64 0)).toArray 3 (0, 0)) := by rw [hw1, hg, List.toArray_replicate]; exact World.alloc_heap_new _ _
  have HSR := Lib.hid (show 0 < (vs.map (Value.int .i64)).length → (some (⟨g, 0, none⟩ : Addr)) = some ⟨g, 0, none⟩ ∧ ∃ ad, p = some ad ∧ ∀ j u, (vs.map (Value.int .i64))[j]? = some u → w1.cell? (ad.add j) = some u from fun hpos => by
    refine ⟨rfl, ?_⟩
    obtain ⟨b, off, rfl, hcs⟩ := hc (by rintro rfl; simp at hpos)
    refine ⟨_, rfl, fun j u hj => ?_⟩
    obtain ⟨hj1, rfl⟩ := List.getElem?_eq_some_iff.1 hj
    rw [List.length_map] at hj1
    rw [addr_add_off, List.getElem_map]
    exact below_cell (by rw [← hg]; exact hb1) (hcs j hj1))
  have HLN := Lib.hid (show (vs.map (Value.int .i64)).length = Nat.min n n by rw [List.length_map, ← hn0]; exact (Nat.min_self n).symm)
  have HFT := Lib.hid (show 0 + (vs.map (Value.int .i64)).length ≤ (List.replicate n (Value.int .i64 0)).length by rw [List.length_map, List.length_replicate, ← hn0]; omega)
  have HOC := Lib.hid (show ∀ u ∈ vs.map (Value.int .i64), u.oneCell' = true from fun u hu => by obtain ⟨x, _, rfl⟩ := List.mem_map.1 hu; rfl)
  have HG1 := Lib.hid hg1
  have HB1 := Lib.hid hb1
  have HW1 := Lib.hid (And.intro hw1 hg)
  have HN := Lib.hid hn0
  clear hb1 hg1 hw1 hg hc hn0
  go_enter Tryz.func152, Tryz.ntmps152
  go_upto_region 2 with fail
  rw [← HW1.out.1, ← HW1.out.2]
  clear hmk
  go_wp2_with (with_reducible refine wpList_copy_splice (o := ⟨some 9, _, _, _, _, _⟩) rfl (.tmp 7) (.tmp 8) 22 22 rfl 3 Tryz.underlying22 (by kernel_rfl) (some ⟨g, 0, none⟩) p n n n cap rfl rfl g 0 (List.replicate n (Value.int .i64 0)) 3 HG1.out (vs.map (Value.int .i64)) HLN.out HSR.out HFT.out HOC.out g W HB1.out (Nat.le_refl _) ?_; intro w2 HG2 hB2)
  have hsp : splice (List.replicate n (Value.int .i64 0)) 0 (vs.map (Value.int .i64)) = vs.map (Value.int .i64) := by
    unfold splice
    rw [List.take_zero, List.nil_append, List.drop_eq_nil_of_le (by rw [List.length_replicate, List.length_map, ← HN.out]; omega), List.append_nil]
  rw [hsp] at HG2
  have HE := Lib.hid (show IBlock w2 g vs from HG2.out)
  have HB := Lib.hid hB2
  clear HG2 hB2 hsp HG1 HB1
  go_wp2
  go_ret
  exact ⟨⟨by rw [← HW1.out.2]; rfl, by rw [← HW1.out.2]; exact HE.out⟩, by rw [← HW1.out.2]; exact HB.out⟩

end Go.Proofs.YtdllhiihmpinoaaGreat
/-
  Package reader: the steps that a turn makes.
  Conditions: the ranges of Go's types.
-/
namespace Go.Proofs.YtdllhiihmpinoaaGreat
set_option maxRecDepth 100000
open Go.RowKit Go.Shelf
attribute [local go_sem] Oper.semAt_some

/-- The error of a step; 0: none. -/
def stepE (s : RdS) (c : Int) (en : Bool) : Int :=
  if hasB s.ns.length c = false then 2 else if s.now = 2147483647 ∨ (en = true ∧ s.ns.getD c.toNat 0 = 8) then 6 else if en = false ∧ s.ns.getD c.toNat 0 = 0 then 4 else 0
/-- Readers behind a step. -/
def stepS (s : RdS) (c : Int) (en : Bool) : RdS :=
  if en = true then ⟨s.now + 1, s.ns.set c.toNat (s.ns.getD c.toNat 0 + 1), if s.ns.getD c.toNat 0 = 0 then s.os.set c.toNat (s.now + 1) else s.os⟩
  else ⟨s.now + 1, s.ns.set c.toNat (s.ns.getD c.toNat 0 - 1), if s.ns.getD c.toNat 0 = 1 then s.os.set c.toNat 0 else s.os⟩

/-- Readers that make steps, in memory. -/
structure TurnAt (W : World) (z g h : Nat) (s : RdS) : Prop where
  box : W.heap[z]? = some (.cells #[.int .i64 s.now, .slice (some ⟨g, 0, none⟩) s.ns.length s.ns.length, .slice (some ⟨h, 0, none⟩) s.os.length s.os.length] 204 (0, 0))
  nest : IBlock W g s.ns
  opened : IBlock W h s.os
  apart : g ≠ h
theorem TurnAt.below {W W' : World} {z g h : Nat} {s : RdS} (k : TurnAt W z g h s) (hb : Below W.heap.size W W') : TurnAt W' z g h s :=
  ⟨(hb.block z (Array.getElem?_eq_some_iff.1 k.box).1).trans k.box, k.nest.below hb, k.opened.below hb, k.apart⟩
theorem TurnAt.zg {W : World} {z g h : Nat} {s : RdS} (k : TurnAt W z g h s) : z ≠ g := fun e => by
  have h1 := k.box; have h2 := k.nest; unfold IBlock at h2; rw [e, h2] at h1; injection h1 with h1; injection h1 with _ h1 _; revert h1; decide
theorem TurnAt.zh {W : World} {z g h : Nat} {s : RdS} (k : TurnAt W z g h s) : z ≠ h := fun e => by
  have h1 := k.box; have h2 := k.opened; unfold IBlock at h2; rw [e, h2] at h1; injection h1 with h1; injection h1 with _ h1 _; revert h1; decide
theorem TurnAt.cells {W : World} {z g h : Nat} {s : RdS} (k : TurnAt W z g h s) : W.cell? ⟨z, 0, none⟩ = some (.int .i64 s.now) ∧ W.cell? ⟨z, 1, none⟩ = some (.slice (some ⟨g, 0, none⟩) s.ns.length s.ns.length) ∧ W.cell? ⟨z, 2, none⟩ = some (.slice (some ⟨h, 0, none⟩) s.os.length s.os.length) := by
  have h' := k.box
  simp [World.cell?, h']
theorem TurnAt.mark {W : World} {z g h : Nat} {s : RdS} (k : TurnAt W z g h s) (i : Nat) : W.frozen? ⟨z, i, none⟩ = false := by
  have h' := k.box
  simp [World.frozen?, h']

theorem TurnAt.setNow {W : World} {z g h : Nat} {s : RdS} (k : TurnAt W z g h s) (x : Int) : TurnAt (W.setCell ⟨z, 0, none⟩ (.int .i64 x)) z g h ⟨x, s.ns, s.os⟩ := by
  have hk : Keeps (fun b => b = z) W (W.setCell ⟨z, 0, none⟩ (.int .i64 x)) := Keeps.setCell W (S := (· = z)) (p := ⟨z, 0, none⟩) rfl _
  refine ⟨?_, k.nest.keeps hk (fun e => k.zg e.symm), k.opened.keeps hk (fun e => k.zh e.symm), k.apart⟩
  rw [heap_setCell_same W z 0 _ _ _ k.box]
  rfl
theorem TurnAt.setNest {W : World} {z g h : Nat} {s : RdS} (k : TurnAt W z g h s) (i : Nat) (x : Int) : TurnAt (W.setCell ⟨g, i, none⟩ (.int .i64 x)) z g h ⟨s.now, s.ns.set i x, s.os⟩ := by
  have hk : Keeps (fun b => b = g) W (W.setCell ⟨g, i, none⟩ (.int .i64 x)) := Keeps.setCell W (S := (· = g)) (p := ⟨g, i, none⟩) rfl _
  refine ⟨?_, block_set k.nest i x, k.opened.keeps hk (fun e => k.apart e.symm), k.apart⟩
  simp only [List.length_set]
  exact (hk.block z (Array.getElem?_eq_some_iff.1 k.box).1 k.zg).trans k.box
theorem TurnAt.setOpened {W : World} {z g h : Nat} {s : RdS} (k : TurnAt W z g h s) (i : Nat) (x : Int) : TurnAt (W.setCell ⟨h, i, none⟩ (.int .i64 x)) z g h ⟨s.now, s.ns, s.os.set i x⟩ := by
  have hk : Keeps (fun b => b = h) W (W.setCell ⟨h, i, none⟩ (.int .i64 x)) := Keeps.setCell W (S := (· = h)) (p := ⟨h, i, none⟩) rfl _
  refine ⟨?_, k.nest.keeps hk k.apart, block_set k.opened i x, k.apart⟩
  simp only [List.length_set]
  exact (hk.block z (Array.getElem?_eq_some_iff.1 k.box).1 k.zh).trans k.box
theorem TurnAt.drewN {W : World} {z g h : Nat} {s : RdS} (k : TurnAt W z g h s) (n : Nat) : TurnAt (W.drewN n) z g h s := ⟨k.box, k.nest, k.opened, k.apart⟩
theorem TurnAt.alike {W W' : World} {z g h : Nat} {s : RdS} (k : TurnAt W z g h s) (hw : W'.heap = W.heap) : TurnAt W' z g h s := ⟨by rw [hw]; exact k.box, by unfold IBlock; rw [hw]; exact k.nest, by unfold IBlock; rw [hw]; exact k.opened, k.apart⟩

set_option maxHeartbeats 4000000 in
theorem enter_c (z g h : Nat) (s : RdS) (c : Int) (W : World) (k : TurnAt W z g h s) (hl : s.os.length = s.ns.length) (h8 : s.ns.length ≤ 8) (hnow : 0 ≤ s.now ∧ s.now ≤ 2147483647) (hr : ∀ x ∈ s.ns, 0 ≤ x ∧ x ≤ 8) :
    Calls Tryz.prog 154 #[.pointer (some ⟨z, 0, none⟩), .int .i64 c] W fun e w' => e = .returned (.int .i64 (stepE s c true)) ∧ Keeps (fun b => b = z ∨ b = g ∨ b = h) W w' ∧ (stepE s c true = 0 → TurnAt w' z g h (stepS s c true)) := by
  obtain ⟨now, ns, os⟩ := s
  simp only at hl h8 hnow hr
  have HC := Lib.hid (fun (Z : World) => has_c now c (some ⟨g, 0, none⟩) ns.length ns.length (.slice (some ⟨h, 0, none⟩) os.length os.length) Z)
  have HLL := Lib.hid hl
  clear hl
  obtain ⟨d0, d1, d2⟩ := k.cells
  simp only at d0 d1 d2
  by_cases hh : hasB ns.length c = true
  · have HK := Lib.hid k
    obtain ⟨i, rfl⟩ : ∃ i : Nat, c = (i : Int) := by unfold hasB at hh; simp only [Bool.and_eq_true, decide_eq_true_eq] at hh; exact Int.eq_ofNat_of_zero_le hh.1
    have hi : i < ns.length := by unfold hasB at hh; simp only [Bool.and_eq_true, decide_eq_true_eq] at hh; omega
    rw [hh] at HC
    have HH := Lib.hid hh
    have hx := k.nest.cell i hi
    simp only at hx
    obtain ⟨n, hn⟩ : ∃ n, n = ns[i] := ⟨_, rfl⟩
    have HD := Lib.hid (show ns.getD i 0 = n by rw [List.getD_eq_getElem?_getD, List.getElem?_eq_getElem hi, hn]; rfl)
    have hnr := hr n (by rw [hn]; exact List.getElem_mem hi)
    rw [← hn] at hx
    have hi0 : (0 : Int) ≤ (i : Int) := by omega
    have hil : (i : Int) < (ns.length : Int) := by omega
    clear hh k hr hn
    by_cases c1 : now = 2147483647
    · have hE : stepE ⟨now, ns, os⟩ (i : Int) true = 6 := by unfold stepE; simp only; rw [HH.out, if_neg (by simp), if_pos (.inl c1)]
      rw [hE]
      have hq : (now == 2147483647) = true := by rw [c1]; rfl
      clear hE c1
      go_enter Tryz.func154, Tryz.ntmps154
      go_wp2_with fail
      (with_reducible refine (HC.out W).mono ?_)
      rintro e w1 ⟨rfl, hb1⟩
      have HB := Lib.hid (Keeps.of_below (S := fun b => b = z ∨ b = g ∨ b = h) hb1)
      obtain ⟨e0, e1, e2⟩ := (HK.out.below hb1).cells
      clear hb1
      go_wp2
      go_ret
      exact ⟨rfl, HB.out, fun h => by cases h⟩
    · have hq : (now == 2147483647) = false := by rw [beq_eq_false_iff_ne]; exact c1
      by_cases c2 : n = 8
      · have hE : stepE ⟨now, ns, os⟩ (i : Int) true = 6 := by unfold stepE; simp only; rw [HH.out, if_neg (by simp), if_pos (.inr ⟨trivial, by rw [Int.toNat_natCast, HD.out, c2]⟩)]
        rw [hE]
        have hq2 : (n == 8) = true := by rw [c2]; rfl
        clear hE c1 c2
        go_enter Tryz.func154, Tryz.ntmps154
        go_wp2_with fail
        (with_reducible refine (HC.out W).mono ?_)
        rintro e w1 ⟨rfl, hb1⟩
        have HB := Lib.hid (Keeps.of_below (S := fun b => b = z ∨ b = g ∨ b = h) hb1)
        obtain ⟨e0, e1, e2⟩ := (HK.out.below hb1).cells
        have hx1 := below_cell hb1 hx
        clear hb1
        go_wp2
        go_ret
        exact ⟨rfl, HB.out, fun h => by cases h⟩
      · have hE : stepE ⟨now, ns, os⟩ (i : Int) true = 0 := by
          unfold stepE; simp only; rw [HH.out, if_neg (by simp), if_neg (by rintro (h | ⟨_, h⟩); exact c1 h; rw [Int.toNat_natCast, HD.out] at h; exact c2 h), if_neg (by simp)]
        rw [hE]
        have hq2 : (n == 8) = false := by rw [beq_eq_false_iff_ne]; exact c2
        have hnow1 : now < 2147483647 := by omega
        clear hE c1 c2
        go_enter Tryz.func154, Tryz.ntmps154
        go_wp2_with fail
        (with_reducible refine (HC.out W).mono ?_)
        rintro e w1 ⟨rfl, hb1⟩
        have HB := Lib.hid (Keeps.of_below (S := fun b => b = z ∨ b = g ∨ b = h) hb1)
        have k1 := HK.out.below hb1
        obtain ⟨e0, e1, e2⟩ := k1.cells
        have f0 := k1.mark 0
        have hx1 := below_cell hb1 hx
        have K2 := Lib.hid (k1.setNow (now + 1))
        obtain ⟨w2, hw2⟩ : ∃ X : World, X = w1.setCell ⟨z, 0, none⟩ (.int .i64 (now + 1)) := ⟨_, rfl⟩
        have HB2 := Lib.hid (show Keeps (fun b => b = z ∨ b = g ∨ b = h) W w2 by rw [hw2]; exact HB.out.trans (Keeps.setCell w1 (p := ⟨z, 0, none⟩) (.inl rfl) _))
        rw [← hw2] at K2
        have HW2 := Lib.hid hw2
        have hiO : i < os.length := by rw [HLL.out]; exact hi
        clear hb1 hw2 k1 HB
        go_upto_region 6 with fail
        rw [← HW2.out]
        clear e0 e1 e2 f0 hx1 HW2 hx d0 d1 d2
        obtain ⟨e0, e1, e2⟩ := K2.out.cells
        have hx2 := K2.out.nest.cell i hi
        simp only at e0 e1 e2 hx2
        rw [show ns[i] = n by have := HD.out; rwa [List.getD_eq_getElem?_getD, List.getElem?_eq_getElem hi] at this] at hx2
        by_cases c3 : n = 0
        · have hq3 : (n == 0) = true := by rw [c3]; rfl
          subst c3
          have hy2 := K2.out.opened.cell i hiO
          have f2 := K2.out.opened.free i
          simp only at hy2
          have hiL : (i : Int) < (os.length : Int) := by omega
          have HST := Lib.hid (show stepS ⟨now, ns, os⟩ (i : Int) true = ⟨now + 1, ns.set i (0 + 1), os.set i (now + 1)⟩ by unfold stepS; simp only [if_true, Int.toNat_natCast]; rw [HD.out, if_pos rfl])
          have K3 := Lib.hid (show TurnAt (w2.setCell ⟨h, i, none⟩ (.int .i64 (now + 1))).drew z g h ⟨now + 1, ns, os.set i (now + 1)⟩ from (K2.out.setOpened i (now + 1)).alike rfl)
          have HB3 := Lib.hid (show Keeps (fun b => b = z ∨ b = g ∨ b = h) W (w2.setCell ⟨h, i, none⟩ (.int .i64 (now + 1))).drew from (HB2.out.trans (Keeps.setCell w2 (S := fun b => b = z ∨ b = g ∨ b = h) (p := ⟨h, i, none⟩) (.inr (.inr rfl)) (.int .i64 (now + 1)))).drewN 1)
          obtain ⟨w3, hw3⟩ : ∃ X : World, X = (w2.setCell ⟨h, i, none⟩ (.int .i64 (now + 1))).drew := ⟨_, rfl⟩
          rw [← hw3] at K3 HB3
          have HW3 := Lib.hid hw3
          clear hw3 K2 HB2
          go_wp2
          go_region
          rw [← HW3.out]
          clear e0 e1 e2 hx2 hy2 f2 HW3
          obtain ⟨e0, e1, e2⟩ := K3.out.cells
          have hx2 := K3.out.nest.cell i hi
          simp only at e0 e1 e2 hx2
          rw [show ns[i] = 0 by have := HD.out; rwa [List.getD_eq_getElem?_getD, List.getElem?_eq_getElem hi] at this] at hx2
          have f2 := K3.out.nest.free i
          have K4 := Lib.hid (K3.out.setNest i (0 + 1))
          have HB4 := Lib.hid (HB3.out.trans (Keeps.setCell w3 (S := fun b => b = z ∨ b = g ∨ b = h) (p := ⟨g, i, none⟩) (.inr (.inl rfl)) (.int .i64 (0 + 1))))
          clear K3 HB3
          go_wp2
          go_ret
          exact ⟨rfl, HB4.out, by rw [HST.out]; exact K4.out⟩
        · have hq3 : (n == 0) = false := by rw [beq_eq_false_iff_ne]; exact c3
          have K3 := Lib.hid (K2.out.setNest i (n + 1))
          have HB3 := Lib.hid (HB2.out.trans (Keeps.setCell w2 (S := fun b => b = z ∨ b = g ∨ b = h) (p := ⟨g, i, none⟩) (.inr (.inl rfl)) (.int .i64 (n + 1))))
          have f2 := K2.out.nest.free i
          have HST := Lib.hid (show stepS ⟨now, ns, os⟩ (i : Int) true = ⟨now + 1, ns.set i (n + 1), os⟩ by unfold stepS; simp only [if_true, Int.toNat_natCast]; rw [HD.out, if_neg c3])
          clear c3 K2 HB2
          go_wp2
          go_ret
          exact ⟨rfl, HB3.out, by rw [HST.out]; exact K3.out⟩
  · have hh' : hasB ns.length c = false := by cases h : hasB ns.length c <;> simp_all
    have hE : stepE ⟨now, ns, os⟩ c true = 2 := by unfold stepE; rw [if_pos hh']
    rw [hE]
    rw [hh'] at HC
    clear hh hh' hE k
    go_enter Tryz.func154, Tryz.ntmps154
    go_wp2_with fail
    (with_reducible refine (HC.out W).mono ?_)
    rintro e w1 ⟨rfl, hb1⟩
    have HB := Lib.hid (Keeps.of_below (S := fun b => b = z ∨ b = g ∨ b = h) hb1)
    clear hb1
    go_wp2
    go_ret
    exact ⟨rfl, HB.out, fun h => by cases h⟩

end Go.Proofs.YtdllhiihmpinoaaGreat
/-
  Package reader: the step by which a CPU leaves a section.
  Conditions: the ranges of Go's types.
-/
namespace Go.Proofs.YtdllhiihmpinoaaGreat
set_option maxRecDepth 100000
open Go.RowKit Go.Shelf
attribute [local go_sem] Oper.semAt_some

set_option maxHeartbeats 4000000 in
theorem leave_c (z g h : Nat) (s : RdS) (c : Int) (W : World) (k : TurnAt W z g h s) (hl : s.os.length = s.ns.length) (h8 : s.ns.length ≤ 8) (hnow : 0 ≤ s.now ∧ s.now ≤ 2147483647) (hr : ∀ x ∈ s.ns, 0 ≤ x ∧ x ≤ 8) :
    Calls Tryz.prog 153 #[.pointer (some ⟨z, 0, none⟩), .int .i64 c] W fun e w' => e = .returned (.int .i64 (stepE s c false)) ∧ Keeps (fun b => b = z ∨ b = g ∨ b = h) W w' ∧ (stepE s c false = 0 → TurnAt w' z g h (stepS s c false)) := by
  obtain ⟨now, ns, os⟩ := s
  simp only at hl h8 hnow hr
  have HC := Lib.hid (fun (Z : World) => has_c now c (some ⟨g, 0, none⟩) ns.length ns.length (.slice (some ⟨h, 0, none⟩) os.length os.length) Z)
  have HLL := Lib.hid hl
  clear hl
  obtain ⟨d0, d1, d2⟩ := k.cells
  simp only at d0 d1 d2
  by_cases hh : hasB ns.length c = true
  · have HK := Lib.hid k
    obtain ⟨i, rfl⟩ : ∃ i : Nat, c = (i : Int) := by unfold hasB at hh; simp only [Bool.and_eq_true, decide_eq_true_eq] at hh; exact Int.eq_ofNat_of_zero_le hh.1
    have hi : i < ns.length := by unfold hasB at hh; simp only [Bool.and_eq_true, decide_eq_true_eq] at hh; omega
    rw [hh] at HC
    have HH := Lib.hid hh
    have hx := k.nest.cell i hi
    simp only at hx
    obtain ⟨n, hn⟩ : ∃ n, n = ns[i] := ⟨_, rfl⟩
    have HD := Lib.hid (show ns.getD i 0 = n by rw [List.getD_eq_getElem?_getD, List.getElem?_eq_getElem hi, hn]; rfl)
    have hnr := hr n (by rw [hn]; exact List.getElem_mem hi)
    rw [← hn] at hx
    have hi0 : (0 : Int) ≤ (i : Int) := by omega
    have hil : (i : Int) < (ns.length : Int) := by omega
    clear hh k hr hn
    by_cases c1 : now = 2147483647
    · have hE : stepE ⟨now, ns, os⟩ (i : Int) false = 6 := by unfold stepE; simp only; rw [HH.out, if_neg (by simp), if_pos (.inl c1)]
      rw [hE]
      have hq : (now == 2147483647) = true := by rw [c1]; rfl
      clear hE c1
      go_enter Tryz.func153, Tryz.ntmps153
      go_wp2_with fail
      (with_reducible refine (HC.out W).mono ?_)
      rintro e w1 ⟨rfl, hb1⟩
      have HB := Lib.hid (Keeps.of_below (S := fun b => b = z ∨ b = g ∨ b = h) hb1)
      obtain ⟨e0, e1, e2⟩ := (HK.out.below hb1).cells
      clear hb1
      go_wp2
      go_ret
      exact ⟨rfl, HB.out, fun h => by cases h⟩
    · have hq : (now == 2147483647) = false := by rw [beq_eq_false_iff_ne]; exact c1
      by_cases c2 : n = 0
      · have hE : stepE ⟨now, ns, os⟩ (i : Int) false = 4 := by unfold stepE; simp only; rw [HH.out, if_neg (by simp), if_neg (by rintro (h | ⟨h, _⟩); exact c1 h; cases h), if_pos ⟨trivial, by rw [Int.toNat_natCast, HD.out, c2]⟩]
        rw [hE]
        have hq2 : (n == 0) = true := by rw [c2]; rfl
        clear hE c1 c2
        go_enter Tryz.func153, Tryz.ntmps153
        go_wp2_with fail
        (with_reducible refine (HC.out W).mono ?_)
        rintro e w1 ⟨rfl, hb1⟩
        have HB := Lib.hid (Keeps.of_below (S := fun b => b = z ∨ b = g ∨ b = h) hb1)
        obtain ⟨e0, e1, e2⟩ := (HK.out.below hb1).cells
        have hx1 := below_cell hb1 hx
        clear hb1
        go_wp2
        go_ret
        exact ⟨rfl, HB.out, fun h => by cases h⟩
      · have hE : stepE ⟨now, ns, os⟩ (i : Int) false = 0 := by
          unfold stepE; simp only; rw [HH.out, if_neg (by simp), if_neg (by rintro (h | ⟨h, _⟩); exact c1 h; cases h), if_neg (by rintro ⟨_, h⟩; rw [Int.toNat_natCast, HD.out] at h; exact c2 h)]
        rw [hE]
        have hq2 : (n == 0) = false := by rw [beq_eq_false_iff_ne]; exact c2
        have hnow1 : now < 2147483647 := by omega
        have hn1 : 1 ≤ n := by omega
        clear hE c1 c2
        go_enter Tryz.func153, Tryz.ntmps153
        go_wp2_with fail
        (with_reducible refine (HC.out W).mono ?_)
        rintro e w1 ⟨rfl, hb1⟩
        have HB := Lib.hid (Keeps.of_below (S := fun b => b = z ∨ b = g ∨ b = h) hb1)
        have k1 := HK.out.below hb1
        obtain ⟨e0, e1, e2⟩ := k1.cells
        have f0 := k1.mark 0
        have hx1 := below_cell hb1 hx
        have K2 := Lib.hid (k1.setNow (now + 1))
        obtain ⟨w2, hw2⟩ : ∃ X : World, X = w1.setCell ⟨z, 0, none⟩ (.int .i64 (now + 1)) := ⟨_, rfl⟩
        have HB2 := Lib.hid (show Keeps (fun b => b = z ∨ b = g ∨ b = h) W w2 by rw [hw2]; exact HB.out.trans (Keeps.setCell w1 (p := ⟨z, 0, none⟩) (.inl rfl) _))
        rw [← hw2] at K2
        have HW2 := Lib.hid hw2
        have hiO : i < os.length := by rw [HLL.out]; exact hi
        clear hb1 hw2 k1 HB
        go_upto_region 8 with fail
        rw [← HW2.out]
        clear e0 e1 e2 f0 hx1 HW2 hx d0 d1 d2
        obtain ⟨e0, e1, e2⟩ := K2.out.cells
        have hx2 := K2.out.nest.cell i hi
        simp only at e0 e1 e2 hx2
        rw [show ns[i] = n by have := HD.out; rwa [List.getD_eq_getElem?_getD, List.getElem?_eq_getElem hi] at this] at hx2
        have f2 := K2.out.nest.free i
        have K3 := Lib.hid (K2.out.setNest i (n - 1))
        have HB3 := Lib.hid (HB2.out.trans (Keeps.setCell w2 (S := fun b => b = z ∨ b = g ∨ b = h) (p := ⟨g, i, none⟩) (.inr (.inl rfl)) (.int .i64 (n - 1))))
        obtain ⟨w3, hw3⟩ : ∃ X : World, X = w2.setCell ⟨g, i, none⟩ (.int .i64 (n - 1)) := ⟨_, rfl⟩
        rw [← hw3] at K3 HB3
        have HW3 := Lib.hid hw3
        clear hw3 K2 HB2
        go_upto_region 9 with fail
        rw [← HW3.out]
        clear e0 e1 e2 hx2 f2 HW3
        obtain ⟨e0, e1, e2⟩ := K3.out.cells
        have hx2 := K3.out.nest.cell i (by simp only [List.length_set]; exact hi)
        simp only [List.getElem_set_self, List.length_set] at e0 e1 e2 hx2
        by_cases c3 : n = 1
        · subst c3
          have hy2 := K3.out.opened.free i
          have hy3 := K3.out.opened.cell i hiO
          have hiL : (i : Int) < (os.length : Int) := by omega
          have HST := Lib.hid (show stepS ⟨now, ns, os⟩ (i : Int) false = ⟨now + 1, ns.set i (1 - 1), os.set i 0⟩ by unfold stepS; simp only [if_false, Bool.false_eq_true, Int.toNat_natCast]; rw [HD.out, if_pos rfl])
          have K4 := Lib.hid (K3.out.setOpened i 0)
          have HB4 := Lib.hid (HB3.out.trans (Keeps.setCell w3 (S := fun b => b = z ∨ b = g ∨ b = h) (p := ⟨h, i, none⟩) (.inr (.inr rfl)) (.int .i64 0)))
          clear K3 HB3
          go_wp2
          go_ret
          exact ⟨rfl, HB4.out, by rw [HST.out]; exact K4.out⟩
        · have hq3 : (n - 1 == 0) = false := by rw [beq_eq_false_iff_ne]; omega
          have HST := Lib.hid (show stepS ⟨now, ns, os⟩ (i : Int) false = ⟨now + 1, ns.set i (n - 1), os⟩ by unfold stepS; simp only [if_false, Bool.false_eq_true, Int.toNat_natCast]; rw [HD.out, if_neg c3])
          clear c3
          go_wp2
          go_ret
          exact ⟨rfl, HB3.out, by rw [HST.out]; exact K3.out⟩
  · have hh' : hasB ns.length c = false := by cases h : hasB ns.length c <;> simp_all
    have hE : stepE ⟨now, ns, os⟩ c false = 2 := by unfold stepE; rw [if_pos hh']
    rw [hE]
    rw [hh'] at HC
    clear hh hh' hE k
    go_enter Tryz.func153, Tryz.ntmps153
    go_wp2_with fail
    (with_reducible refine (HC.out W).mono ?_)
    rintro e w1 ⟨rfl, hb1⟩
    have HB := Lib.hid (Keeps.of_below (S := fun b => b = z ∨ b = g ∨ b = h) hb1)
    clear hb1
    go_wp2
    go_ret
    exact ⟨rfl, HB.out, fun h => by cases h⟩

end Go.Proofs.YtdllhiihmpinoaaGreat
/-
  Package reader: rows of readings, and what readers come to behind them.
  Conditions: none.
-/
namespace Go.Proofs.YtdllhiihmpinoaaGreat
open Go.RowKit Go.Shelf
attribute [local go_sem] Oper.semAt_some

def runS (s : RdS) (l : List (Int × Bool)) : RdS := l.foldl (fun s x => stepS s x.1 x.2) s
/-- No step of the row has an error. -/
def okTo : RdS → List (Int × Bool) → Prop
  | _, [] => True
  | s, x :: l => stepE s x.1 x.2 = 0 ∧ okTo (stepS s x.1 x.2) l
theorem runS_snoc (s : RdS) (l : List (Int × Bool)) (x : Int × Bool) : runS s (l ++ [x]) = stepS (runS s l) x.1 x.2 := by unfold runS; rw [List.foldl_append]; rfl
theorem okTo_snoc : ∀ (l : List (Int × Bool)) (s : RdS) (x : Int × Bool), okTo s (l ++ [x]) ↔ okTo s l ∧ stepE (runS s l) x.1 x.2 = 0
  | [], s, x => by simp [okTo, runS]
  | y :: l, s, x => by
    simp only [List.cons_append, okTo]
    rw [okTo_snoc l]
    simp only [runS, List.foldl_cons, and_assoc]

/-- A slice that reads as these readings. -/
def RgsAt (W : World) (v : Value) (ls : List (Int × Bool)) : Prop := ∃ p cap, v = .slice p ls.length cap ∧
  (ls ≠ [] → ∃ b off, p = some ⟨b, off, none⟩ ∧ ∀ i (h : i < ls.length), W.cell? ⟨b, off + i * 2, none⟩ = some (.int .i64 ls[i].1) ∧ W.cell? ⟨b, off + i * 2 + 1, none⟩ = some (.bool ls[i].2))
theorem RgsAt.below {W W' : World} {v : Value} {ls : List (Int × Bool)} (h : RgsAt W v ls) (hb : Below W.heap.size W W') : RgsAt W' v ls := by
  obtain ⟨p, cap, e, hc⟩ := h
  refine ⟨p, cap, e, fun hne => ?_⟩
  obtain ⟨b, off, e2, hcs⟩ := hc hne
  exact ⟨b, off, e2, fun i hi => ⟨below_cell hb (hcs i hi).1, below_cell hb (hcs i hi).2⟩⟩
theorem RgsAt.lt {W : World} {p : Option Addr} {n cap : Nat} {ls : List (Int × Bool)} (h : RgsAt W (.slice p n cap) ls) : ∀ a, p = some a → ls ≠ [] → a.block < W.heap.size := fun a ha hne => by
  obtain ⟨q, c, e, hc⟩ := h
  injection e with e1 e2 e3
  subst e1
  obtain ⟨b, off, e2, hcs⟩ := hc hne
  rw [ha] at e2; injection e2 with e2; subst e2
  obtain ⟨i, hi⟩ : ∃ i : Nat, i < ls.length := ⟨0, by cases ls with | nil => exact absurd rfl hne | cons _ _ => simp⟩
  have h9 := World.block_lt_of_cell? W _ (hcs i hi).1
  exact h9
theorem RgsAt.keeps {S : Nat → Prop} {W W' : World} {v : Value} {ls : List (Int × Bool)} (h : RgsAt W v ls) (hk : Keeps S W W') (B : Nat) (hS : ∀ k, S k → B ≤ k) (hB : ∀ a n c, v = .slice (some a) n c → ls ≠ [] → a.block < B) : RgsAt W' v ls := by
  obtain ⟨p, cap, rfl, hc⟩ := h
  refine ⟨p, cap, rfl, fun hne => ?_⟩
  obtain ⟨b, off, rfl, hcs⟩ := hc hne
  have hb := hB _ _ _ rfl hne
  have hn : ¬ S b := fun h => by have := hS b h; simp only at hb; omega
  exact ⟨b, off, rfl, fun i hi => ⟨hk.cell (hcs i hi).1 hn, hk.cell (hcs i hi).2 hn⟩⟩

theorem run_fmap {α β : Type} {P : Program} (f : α → β) (s : Sem α) (w : World) : Sem.run P (f <$> s) w = (Sem.run P s w).andThen fun a w' => .ok (f a) w' := by
  show Sem.run P (s >>= fun a => pure (f a)) w = _
  rw [Sem.run_bind]
  rfl
def zeroR : Value := .agg #[.int .i64 0, .slice none 0 0, .slice none 0 0]
theorem results_ctt {fn : Func} {a b c : Tmp} {t : TypeId} (h : fn.results = #[.cell a t, .tmp b, .tmp c]) (tmps : Array Value) (P : Program) (w : World) {p : Addr} {x y z : Value} (ha : tmps.getD a undef = .pointer (some p)) (hb : tmps.getD b undef = y) (hc : tmps.getD c undef = z)
    (hx : (loadVar t p).run P w = .ok x w) : (results fn tmps).run P w = .ok (.tuple #[x, y, z]) w := by
  unfold results
  rw [h]
  simp only [Array.mapM_eq_foldlM, List.foldlM_toArray, List.foldlM_cons, List.foldlM_nil, ha, hb, hc, asAddr, run_fmap, Sem.run_bind, Sem.run_pure, Result.andThen_ok, hx]
  rfl
theorem results_ct {fn : Func} {a b : Tmp} {t : TypeId} (h : fn.results = #[.cell a t, .tmp b]) (tmps : Array Value) (P : Program) (w : World) {p : Addr} {x y : Value} (ha : tmps.getD a undef = .pointer (some p)) (hb : tmps.getD b undef = y)
    (hx : (loadVar t p).run P w = .ok x w) : (results fn tmps).run P w = .ok (.tuple #[x, y]) w := by
  unfold results
  rw [h]
  simp only [Array.mapM_eq_foldlM, List.foldlM_toArray, List.foldlM_cons, List.foldlM_nil, ha, hb, asAddr, run_fmap, Sem.run_bind, Sem.run_pure, Result.andThen_ok, hx]
  rfl
theorem readers_info : (Tryz.prog.info? 24).map (·.size) = some 3 := by kernel_rfl
theorem readers_load {W : World} {z : Nat} {b : Int} {u v : Value} (h : RBox W z b u v) : (loadVar 24 ⟨z, 0, none⟩).run Tryz.prog W = .ok (.agg #[.int .i64 b, u, v]) W := by
  obtain ⟨h0, h1, h2⟩ := h.cells
  refine run_loadVar_mid W z 0 24 [.int .i64 b, u, v] _ (fun j u hj => ?_) Tryz.underlying24 rfl readers_info
  rw [Nat.zero_add]
  match j, hj with
  | 0, hj => cases hj; exact h0
  | 1, hj => cases hj; exact h1
  | 2, hj => cases hj; exact h2
  | (k + 3), hj => simp at hj
theorem RBox.result3 {fn : Func} {W : World} {z : Nat} {b : Int} {u v x y : Value} (h : RBox W z b u v) (hf : fn.results = #[.cell 4 24, .tmp 5, .tmp 6]) (tmps : Array Value) (h2 : tmps.getD 4 undef = .pointer (some ⟨z, 0, none⟩)) (h3 : tmps.getD 5 undef = x) (h4 : tmps.getD 6 undef = y) :
    (results fn tmps).run Tryz.prog W = .ok (.tuple #[.agg #[.int .i64 b, u, v], x, y]) W := results_ctt hf tmps _ _ h2 h3 h4 (readers_load h)
theorem RBox.result2 {fn : Func} {W : World} {z : Nat} {b : Int} {u v x : Value} (h : RBox W z b u v) (hf : fn.results = #[.cell 4 24, .tmp 5]) (tmps : Array Value) (h2 : tmps.getD 4 undef = .pointer (some ⟨z, 0, none⟩)) (h3 : tmps.getD 5 undef = x) :
    (results fn tmps).run Tryz.prog W = .ok (.tuple #[.agg #[.int .i64 b, u, v], x]) W := results_ct hf tmps _ _ h2 h3 (readers_load h)
theorem RBox.result1 {fn : Func} {W : World} {z : Nat} {a : Tmp} {b : Int} {u v : Value} (h : RBox W z b u v) (hf : fn.results = #[.cell a 24]) (tmps : Array Value) (h2 : tmps.getD a undef = .pointer (some ⟨z, 0, none⟩)) :
    (results fn tmps).run Tryz.prog W = .ok (.agg #[.int .i64 b, u, v]) W := by
  unfold results
  rw [hf]
  simp only [Array.mapM_eq_foldlM, List.foldlM_toArray, List.foldlM_cons, List.foldlM_nil, h2, asAddr, run_fmap, Sem.run_bind, Sem.run_pure, Result.andThen_ok, readers_load h]
  rfl
theorem build_turn (x y z : Value) (w : World) : (Instr.build 204 #[(0, .agg #[x, y, z])]).run Tryz.prog w = .ok (.agg #[x, y, z]) w := by
  kernel_rfl

/-- The two boxes with which Run begins. -/
def wR (W : World) (now : Int) (u v : Value) : World := (W.alloc (.cells #[.int .i64 now, u, v] 24)).alloc (.cells #[.int .i64 0, .slice none 0 0, .slice none 0 0] 24)
theorem wR_facts (W : World) (now : Int) (u v : Value) : RBox (wR W now u v) W.heap.size now u v ∧ RBox (wR W now u v) (W.heap.size + 1) 0 (.slice none 0 0) (.slice none 0 0) ∧ Below W.heap.size W (wR W now u v) ∧ (wR W now u v).heap.size = W.heap.size + 2 := by
  refine ⟨(RBox.new W now u v).below (below1 _ _), ?_, below2 _ _ _, by unfold wR; simp⟩
  have := RBox.new (W.alloc (.cells #[.int .i64 now, u, v] 24)) 0 (.slice none 0 0) (.slice none 0 0)
  rwa [World.size_alloc] at this

end Go.Proofs.YtdllhiihmpinoaaGreat
/-
  Package grace: graces, their boxes, and rows of truth values; which CPUs there are; who is needed.
  Conditions: none.
-/
namespace Go.Proofs.YtdllhiihmpinoaaGreat
set_option maxRecDepth 100000
open Go.RowKit Go.Shelf
attribute [local go_sem] Oper.semAt_some

/-- A grace. -/
structure GrS where
  done : Int
  asked : Int
  on : Bool
  nd : List Bool

/-- A slice of truth values. -/
def BoolsAt (W : World) (v : Value) (bs : List Bool) : Prop := ∃ p cap, v = .slice p bs.length cap ∧ (bs ≠ [] → ∃ b off, p = some ⟨b, off, none⟩ ∧ ∀ i (h : i < bs.length), W.cell? ⟨b, off + i, none⟩ = some (.bool bs[i]))
theorem bools_below {W W' : World} {v : Value} {bs : List Bool} (h : BoolsAt W v bs) (hb : Below W.heap.size W W') : BoolsAt W' v bs := by
  obtain ⟨p, cap, rfl, hc⟩ := h
  refine ⟨p, cap, rfl, fun hne => ?_⟩
  obtain ⟨b, off, rfl, hcs⟩ := hc hne
  exact ⟨b, off, rfl, fun i hi => below_cell hb (hcs i hi)⟩
theorem bools_of_owns {B : Nat} {E : TypeId} {W : World} {v : Value} {bs : List Bool} {n : Nat} (hl : bs.length = n) (h : W.ownsRow B E 1 v n (bs.map Value.bool)) : BoolsAt W v bs := by
  subst hl
  rcases h.2 with ⟨rfl, h0⟩ | ⟨g, cap, cur, rfl, _⟩
  · obtain rfl : bs = [] := List.eq_nil_of_length_eq_zero h0
    exact ⟨none, 0, rfl, fun h => absurd rfl h⟩
  · refine ⟨_, _, rfl, fun _ => ⟨g, 0, rfl, fun i hi => ?_⟩⟩
    have h1 := h.cellAt i (by omega)
    rw [List.getElem?_eq_getElem (by simpa using hi)] at h1
    simpa using h1
/-- A block that holds these truth values. -/
def BBlock (W : World) (g : Nat) (bs : List Bool) : Prop := W.heap[g]? = some (.cells (bs.map Value.bool).toArray 4 (0, 0))
theorem BBlock.lt {W : World} {g : Nat} {bs : List Bool} (h : BBlock W g bs) : g < W.heap.size := (Array.getElem?_eq_some_iff.1 h).1
theorem BBlock.below {W W' : World} {g : Nat} {bs : List Bool} (h : BBlock W g bs) (hb : Below W.heap.size W W') : BBlock W' g bs := (hb.block g h.lt).trans h
theorem BBlock.keeps {S : Nat → Prop} {W W' : World} {g : Nat} {bs : List Bool} (h : BBlock W g bs) (hk : Keeps S W W') (hS : ¬ S g) : BBlock W' g bs := (hk.block g h.lt hS).trans h
theorem BBlock.cell {W : World} {g : Nat} {bs : List Bool} (h : BBlock W g bs) (i : Nat) (hi : i < bs.length) : W.cell? ⟨g, i, none⟩ = some (.bool bs[i]) := by
  have h' : W.heap[g]? = _ := h
  simp [World.cell?, h', hi]
theorem BBlock.free {W : World} {g : Nat} {bs : List Bool} (h : BBlock W g bs) (i : Nat) : W.frozen? ⟨g, i, none⟩ = false := by
  have h' : W.heap[g]? = _ := h
  simp [World.frozen?, h']
theorem BBlock.set {W : World} {g : Nat} {bs : List Bool} (h : BBlock W g bs) (i : Nat) (x : Bool) : BBlock (W.setCell ⟨g, i, none⟩ (.bool x)) g (bs.set i x) := by
  unfold BBlock
  rw [heap_setCell_same W g i _ _ (.bool x) h]
  simp [List.map_set]
theorem BBlock.bools {W : World} {g : Nat} {bs : List Bool} (h : BBlock W g bs) : BoolsAt W (.slice (some ⟨g, 0, none⟩) bs.length bs.length) bs :=
  ⟨_, _, rfl, fun _ => ⟨g, 0, rfl, fun i hi => by rw [Nat.zero_add]; exact h.cell i hi⟩⟩
theorem BBlock.owns {W : World} {B g : Nat} {bs : List Bool} (h : BBlock W g bs) (hB : B ≤ g) (hl : bs.length ≤ 1099511627776) : W.ownsRow B 4 1 (.slice (some ⟨g, 0, none⟩) bs.length bs.length) bs.length (bs.map Value.bool) :=
  ⟨by rw [List.length_map]; omega, .inr ⟨g, bs.length, _, rfl, hB, h, Nat.le_refl _, by unfold maxLen; omega, by rw [List.size_toArray, List.length_map]; omega, by rw [List.toList_toArray]; exact List.take_of_length_le (by rw [List.length_map]; omega)⟩⟩

/-- A row of truth values lies there, outside of S. -/
def BoolOut (S : Nat → Prop) (W : World) (p : Option Addr) (bs : List Bool) : Prop := bs ≠ [] → ∃ b off, p = some ⟨b, off, none⟩ ∧ ¬ S b ∧ ∀ i (h : i < bs.length), W.cell? ⟨b, off + i, none⟩ = some (.bool bs[i])
theorem BoolOut.keeps {S : Nat → Prop} {W W' : World} {p : Option Addr} {bs : List Bool} (h : BoolOut S W p bs) (hk : KeepsCells S W W') : BoolOut S W' p bs := fun hne => by
  obtain ⟨b, off, e, hS, hc⟩ := h hne
  exact ⟨b, off, e, hS, fun i hi => hk _ _ _ hS (hc i hi)⟩
theorem BoolOut.below {S : Nat → Prop} {W W' : World} {p : Option Addr} {bs : List Bool} (h : BoolOut S W p bs) (hb : Below W.heap.size W W') : BoolOut S W' p bs := fun hne => by
  obtain ⟨b, off, e, hS, hc⟩ := h hne
  exact ⟨b, off, e, hS, fun i hi => below_cell hb (hc i hi)⟩

/-- What box a grace lies in. -/
def GBox (W : World) (z : Nat) (d a : Int) (on : Bool) (v : Value) : Prop := W.heap[z]? = some (.cells #[.int .i64 d, .int .i64 a, .bool on, v] 27 (0, 0))
theorem GBox.cells {W : World} {z : Nat} {d a : Int} {on : Bool} {v : Value} (h : GBox W z d a on v) : W.cell? ⟨z, 0, none⟩ = some (.int .i64 d) ∧ W.cell? ⟨z, 1, none⟩ = some (.int .i64 a) ∧ W.cell? ⟨z, 2, none⟩ = some (.bool on) ∧ W.cell? ⟨z, 3, none⟩ = some v := by
  have h' : W.heap[z]? = _ := h
  simp [World.cell?, h']
theorem GBox.marks {W : World} {z : Nat} {d a : Int} {on : Bool} {v : Value} (h : GBox W z d a on v) (i : Nat) : W.frozen? ⟨z, i, none⟩ = false := by
  have h' : W.heap[z]? = _ := h
  simp [World.frozen?, h']
theorem GBox.lt {W : World} {z : Nat} {d a : Int} {on : Bool} {v : Value} (h : GBox W z d a on v) : z < W.heap.size := (Array.getElem?_eq_some_iff.1 h).1
theorem GBox.below {W W' : World} {z : Nat} {d a : Int} {on : Bool} {v : Value} (h : GBox W z d a on v) (hb : Below W.heap.size W W') : GBox W' z d a on v := (hb.block z h.lt).trans h
theorem GBox.keeps {S : Nat → Prop} {W W' : World} {z : Nat} {d a : Int} {on : Bool} {v : Value} (h : GBox W z d a on v) (hk : Keeps S W W') (hz : ¬ S z) : GBox W' z d a on v := (hk.block z h.lt hz).trans h
theorem GBox.new (W : World) (d a : Int) (on : Bool) (v : Value) : GBox (W.alloc (.cells #[.int .i64 d, .int .i64 a, .bool on, v] 27)) W.heap.size d a on v := World.alloc_heap_new W _
theorem GBox.put {W : World} {z : Nat} {d0 a0 : Int} {on0 : Bool} {v0 : Value} (h : GBox W z d0 a0 on0 v0) (d a : Int) (on : Bool) (v : Value) : GBox ((((W.setCell ⟨z, 0, none⟩ (.int .i64 d)).setCell ⟨z, 1, none⟩ (.int .i64 a)).setCell ⟨z, 2, none⟩ (.bool on)).setCell ⟨z, 3, none⟩ v) z d a on v := by
  have h0 := heap_setCell_same W z 0 _ _ (.int .i64 d) h
  have h1 := heap_setCell_same _ z 1 _ _ (.int .i64 a) h0
  have h2 := heap_setCell_same _ z 2 _ _ (.bool on) h1
  have h3 := heap_setCell_same _ z 3 _ _ v h2
  unfold GBox
  rw [h3]
  rfl
theorem GBox.putK (W : World) (z : Nat) (d a : Int) (on : Bool) (v : Value) : Keeps (fun k => k = z) W ((((W.setCell ⟨z, 0, none⟩ (.int .i64 d)).setCell ⟨z, 1, none⟩ (.int .i64 a)).setCell ⟨z, 2, none⟩ (.bool on)).setCell ⟨z, 3, none⟩ v) :=
  (((Keeps.setCell W (S := (· = z)) (p := ⟨z, 0, none⟩) rfl _).trans (Keeps.setCell _ (S := (· = z)) (p := ⟨z, 1, none⟩) rfl _)).trans (Keeps.setCell _ (S := (· = z)) (p := ⟨z, 2, none⟩) rfl _)).trans (Keeps.setCell _ (S := (· = z)) (p := ⟨z, 3, none⟩) rfl _)
theorem grace_info : (Tryz.prog.info? 27).map (·.size) = some 4 := by kernel_rfl
theorem grace_load {W : World} {z : Nat} {d a : Int} {on : Bool} {v : Value} (h : GBox W z d a on v) : (loadVar 27 ⟨z, 0, none⟩).run Tryz.prog W = .ok (.agg #[.int .i64 d, .int .i64 a, .bool on, v]) W := by
  obtain ⟨h0, h1, h2, h3⟩ := h.cells
  refine run_loadVar_mid W z 0 27 [.int .i64 d, .int .i64 a, .bool on, v] _ (fun j u hj => ?_) Tryz.underlying27 rfl grace_info
  rw [Nat.zero_add]
  match j, hj with
  | 0, hj => cases hj; exact h0
  | 1, hj => cases hj; exact h1
  | 2, hj => cases hj; exact h2
  | 3, hj => cases hj; exact h3
  | (k + 4), hj => simp at hj
theorem GBox.result2 {fn : Func} {W : World} {z : Nat} {a b : Tmp} {d k : Int} {on : Bool} {v x : Value} (h : GBox W z d k on v) (hf : fn.results = #[.cell a 27, .tmp b]) (tmps : Array Value) (h2 : tmps.getD a undef = .pointer (some ⟨z, 0, none⟩)) (h3 : tmps.getD b undef = x) :
    (results fn tmps).run Tryz.prog W = .ok (.tuple #[.agg #[.int .i64 d, .int .i64 k, .bool on, v], x]) W := results_ct hf tmps Tryz.prog W h2 h3 (grace_load h)
theorem GBox.result3 {fn : Func} {W : World} {z : Nat} {a b c : Tmp} {d k : Int} {on : Bool} {v x y : Value} (h : GBox W z d k on v) (hf : fn.results = #[.cell a 27, .tmp b, .tmp c]) (tmps : Array Value) (h2 : tmps.getD a undef = .pointer (some ⟨z, 0, none⟩)) (h3 : tmps.getD b undef = x) (h4 : tmps.getD c undef = y) :
    (results fn tmps).run Tryz.prog W = .ok (.tuple #[.agg #[.int .i64 d, .int .i64 k, .bool on, v], x, y]) W := results_ctt hf tmps Tryz.prog W h2 h3 h4 (grace_load h)

set_option maxHeartbeats 4000000 in
theorem gmayBe_c (n : Int) (W : World) : Calls Tryz.prog 86 #[.int .i64 n] W fun e w' => e = .returned (.bool (mayCpus n)) ∧ w' = W := by
  have hc : (n < 1 ∧ mayCpus n = false) ∨ (1 ≤ n ∧ mayCpus n = decide (n ≤ 8)) := by
    unfold mayCpus
    by_cases h : 1 ≤ n
    · rw [decide_eq_true h]; exact .inr ⟨h, rfl⟩
    · rw [decide_eq_false h]; exact .inl ⟨by omega, rfl⟩
  rcases hc with ⟨h0, hr⟩ | ⟨h0, hr⟩
  all_goals
    rw [hr]; clear hr
    go_enter Tryz.func86, Tryz.ntmps86
    go_wp2
    go_ret
    exact ⟨rfl, rfl⟩

set_option maxHeartbeats 4000000 in
theorem ghas_c (d a n : Int) (on : Bool) (p : Option Addr) (k c : Nat) (W : World) : Calls Tryz.prog 168 #[.agg #[.int .i64 d, .int .i64 a, .bool on, .slice p k c], .int .i64 n] W fun e w' => e = .returned (.bool (hasB k n)) ∧ Below W.heap.size W w' := by
  have hc : (n < 0 ∧ hasB k n = false) ∨ (0 ≤ n ∧ hasB k n = decide (n < (k : Int))) := by
    unfold hasB
    by_cases h : 0 ≤ n
    · rw [decide_eq_true h]; exact .inr ⟨h, rfl⟩
    · rw [decide_eq_false h]; exact .inl ⟨by omega, rfl⟩
  rcases hc with ⟨h0, hr⟩ | ⟨h0, hr⟩
  all_goals
    rw [hr]; clear hr
    go_enter Tryz.func168, Tryz.ntmps168
    go_wp2
    go_ret
    exact ⟨rfl, by first | exact below1 _ _ | exact below2 _ _ _⟩

set_option maxHeartbeats 4000000 in
theorem needed_c (d a : Int) (on : Bool) (v : Value) (W : World) : Calls Tryz.prog 150 #[.agg #[.int .i64 d, .int .i64 a, .bool on, v]] W fun e w' => e = .returned (.func (.func 167) #[] #[.pointer (some ⟨W.heap.size, 0, none⟩)]) ∧ w' = W.alloc (.cells #[.int .i64 d, .int .i64 a, .bool on, v] 27) := by
  go_enter Tryz.func150, Tryz.ntmps150
  go_wp2
  go_ret
  exact ⟨rfl, rfl⟩

/-- Who is needed of the first so many CPUs. -/
def trN (nd : List Bool) : Nat → List Int
  | 0 => []
  | j + 1 => trN nd j ++ (if nd.getD j false = true then [(j : Int)] else [])
theorem trN_len (nd : List Bool) : ∀ j, (trN nd j).length ≤ j
  | 0 => Nat.le_refl _
  | j + 1 => by
    have := trN_len nd j
    unfold trN
    rw [List.length_append]
    split <;> simp <;> omega
theorem trN_mem (nd : List Bool) (x : Int) : ∀ j, x ∈ trN nd j ↔ ∃ i : Nat, i < j ∧ x = (i : Int) ∧ nd.getD i false = true
  | 0 => by unfold trN; simp
  | j + 1 => by
    unfold trN
    rw [List.mem_append, trN_mem nd x j]
    constructor
    · rintro (⟨i, h, e, hi⟩ | h)
      · exact ⟨i, by omega, e, hi⟩
      · split at h
        · rename_i hj
          exact ⟨j, by omega, List.mem_singleton.1 h, hj⟩
        · cases h
    · rintro ⟨i, h, e, hi⟩
      by_cases hij : i = j
      · subst hij
        rw [if_pos hi]
        exact .inr (by rw [e]; simp)
      · exact .inl ⟨i, by omega, e, hi⟩
theorem trN_pre (nd : List Bool) (j : Nat) : ∀ k, ∃ m, trN nd (j + k) = trN nd j ++ m
  | 0 => ⟨[], by simp⟩
  | k + 1 => by
    obtain ⟨m, h⟩ := trN_pre nd j k
    refine ⟨m ++ (if nd.getD (j + k) false = true then [((j + k : Nat) : Int)] else []), ?_⟩
    rw [← List.append_assoc, ← h]
    rfl

end Go.Proofs.YtdllhiihmpinoaaGreat
/-
  Package grace: needed tells the CPUs that are needed, CPU by CPU.
  Conditions: who ranges over them leaves the grace, and its row, as they are.
-/
namespace Go.Proofs.YtdllhiihmpinoaaGreat
set_option maxRecDepth 100000
open Go.RowKit Go.Shelf
attribute [local go_sem] Oper.semAt_some

set_option maxHeartbeats 4000000 in
theorem needed_stops (n : Nat) (hn : 1 ≤ n) (S : Nat → Prop) (lb : Nat) (d a : Int) (on : Bool) (p : Option Addr) (c : Nat) (nd : List Bool) (w : World) (hmax : nd.length ≤ 4611686018427387904)
    (hc : GBox w lb d a on (.slice p nd.length c)) (hl : BoolOut S w p nd) :
    SeqDeep Fence.wide n Tryz.prog 167 #[.pointer (some ⟨lb, 0, none⟩)] (fun x : Int => #[.int .i64 x]) (KeepsCells S)
      (fun xs => xs = trN nd nd.length) (fun xs => ∃ j, j ≤ nd.length ∧ xs = trN nd j) nd.length w := fun l J Jx W hW hJ hJx hY h0 => by
  refine callsIn_of_wp Tryz.func167 rfl trivial ?_ rfl
  simp only [Tryz.ntmps167, List.size_toArray, List.length_cons, List.length_nil, Nat.reduceAdd, Nat.reduceSub, Array.replicate_succ, Array.replicate_zero, List.push_toArray, List.append_toArray, List.nil_append, List.cons_append]
  have hcW := (hc.below hW).cells.2.2.2
  have HLW := Lib.hid (hl.below hW)
  have HJ := Lib.hid (And.intro hJ hJx)
  clear hc hl hJ hJx
  gi_wp2
  gi_loopw [8] (fun iv wr => ∃ (j : Nat) (pre : List Int), j ≤ nd.length ∧ iv = .int .i64 (j : Int) ∧ Hid (BoolOut S wr p nd ∧ W.heap.size ≤ wr.heap.size) ∧ Hid (J pre wr) ∧ Hid (pre = trN nd j)) (fun iv _ => nd.length - (intOf iv).toNat)
  case atStart => exact ⟨0, [], Nat.zero_le _, rfl, ⟨HLW.out, Nat.le_refl _⟩, h0, rfl⟩
  case round =>
    clear HLW hcW h0
    obtain ⟨j, pre, hj, rfl, HL, HJp, HE⟩ := hrel
    by_cases hjl : j < nd.length
    · have hne : nd ≠ [] := by intro e; rw [e] at hjl; simp at hjl
      obtain ⟨h1, hsz⟩ := HL.out
      obtain ⟨b1, off1, hp, hSb1, hcs1⟩ := h1 hne
      have hx := hcs1 j hjl
      obtain ⟨x, hxe⟩ : ∃ x, x = nd[j] := ⟨_, rfl⟩
      have HXE := Lib.hid (show nd.getD j false = x by rw [List.getD_eq_getElem?_getD, List.getElem?_eq_getElem hjl, hxe]; rfl)
      rw [← hxe] at hx
      have HLN := Lib.hid (fun (wr' : World) (hk : KeepsCells S wr wr') (hz : wr.heap.size ≤ wr'.heap.size) => (show BoolOut S wr' p nd ∧ W.heap.size ≤ wr'.heap.size from ⟨h1.keeps hk, Nat.le_trans hsz hz⟩))
      have HLP := Lib.hid (show pre.length < nd.length by rw [HE.out]; have := trN_len nd j; omega)
      have HSZ := Lib.hid hsz
      clear hcs1 hne hxe h1 hsz
      subst hp
      have hj0 : (0 : Int) ≤ (j : Int) := by omega
      have hjl' : (j : Int) < (nd.length : Int) := by omega
      have hb1 := World.block_lt_of_cell? wr _ hx
      cases x with
      | false =>
        have HE2 := Lib.hid (show pre = trN nd (j + 1) by unfold trN; rw [if_neg (by rw [HXE.out]; exact Bool.false_ne_true), List.append_nil]; exact HE.out)
        clear HE hY HLP HXE
        gi_wp2
        refine ⟨fun f h => (by cases h), ?_⟩
        gi_wp2
        go_roundw
        case rel => exact ⟨j + 1, pre, by omega, rfl, HLN.out _ (KeepsCells.refl _ _) (Nat.le_refl _), HJp, HE2⟩
        case measure => first | omega | (simp [intOf]; omega)
      | true =>
        have HE2 := Lib.hid (show pre ++ [(j : Int)] = trN nd (j + 1) by unfold trN; rw [if_pos HXE.out, ← HE.out])
        obtain ⟨fn, tmps, assign, body, hy2, hR⟩ := hY pre (j : Int) wr HJp.out HLP.out ⟨j + 1, by omega, HE2.out⟩
        clear HE hY HLP HXE HJp
        gi_wp2
        refine hR.mono ?_
        rintro e W3 (⟨rfl, hJ3, hk3, hf3⟩ | ⟨rfl, hJx3, -⟩)
        · have HL3 := Lib.hid (HLN.out W3 hk3 hf3.size)
          have HJ3 := Lib.hid hJ3
          clear hJ3 hk3 hf3 hR
          gi_wp2
          go_roundw
          case rel => exact ⟨j + 1, _, by omega, rfl, HL3, HJ3, HE2⟩
          case measure => first | omega | (simp [intOf]; omega)
        · have HJX := Lib.hid (show (∃ pre', (∃ j, j ≤ nd.length ∧ pre' = trN nd j) ∧ Jx pre' W3) from ⟨_, ⟨j + 1, by omega, HE2.out⟩, hJx3⟩)
          clear hJx3 hR
          gi_wp2
          refine bodyPost_ret (results_none rfl _ _ _) rfl ?_
          exact ⟨⟨_, rfl⟩, .inr HJX.out⟩
    · obtain rfl : j = nd.length := by omega
      have HF := Lib.hid (show ∃ xs, xs = trN nd nd.length ∧ J xs wr from ⟨pre, HE.out, HJp.out⟩)
      clear HE HJp hjl hj
      gi_wp2
      go_end0
      exact ⟨⟨_, rfl⟩, .inl HF.out⟩

end Go.Proofs.YtdllhiihmpinoaaGreat
/-
  Package grace: which graces may be.
  Conditions: the ranges of Go's types.
-/
namespace Go.Proofs.YtdllhiihmpinoaaGreat
set_option maxRecDepth 100000
open Go.RowKit Go.Shelf
attribute [local go_sem] Oper.semAt_some

/-- How many CPUs are needed. -/
def manyG (nd : List Bool) : Nat := (trN nd nd.length).length
def numsG (g : GrS) : Bool := mayCpus g.nd.length && (decide (0 ≤ g.done) && (decide (g.done ≤ g.asked) && decide (g.asked ≤ 2147483645)))
def tellG (g : GrS) : Bool := if g.on = true then decide (0 < (manyG g.nd : Int)) && (decide (1 ≤ g.asked - g.done) && decide (g.asked - g.done ≤ 2)) else decide ((manyG g.nd : Int) = 0) && decide (g.asked - g.done ≤ 1)
/-- Which graces may be. -/
def mayG (g : GrS) : Bool := numsG g && tellG g

set_option maxHeartbeats 4000000 in
theorem gmay_no (g : GrS) (p : Option Addr) (c : Nat) (W : World) (h : numsG g = false) (hk : g.nd.length ≤ 9223372036854775807) :
    Calls Tryz.prog 129 #[.agg #[.int .i64 g.done, .int .i64 g.asked, .bool g.on, .slice p g.nd.length c]] W fun e w' => e = .returned (.bool false) ∧ Below W.heap.size W w' := by
  obtain ⟨d, a, on, nd⟩ := g
  unfold numsG at h
  simp only at h hk ⊢
  have hc : mayCpus nd.length = false ∨ (mayCpus nd.length = true ∧ d < 0) ∨ (mayCpus nd.length = true ∧ 0 ≤ d ∧ a < d) ∨ (mayCpus nd.length = true ∧ 0 ≤ d ∧ d ≤ a ∧ 2147483645 < a) := by
    cases hh : mayCpus nd.length with
    | false => exact .inl rfl
    | true =>
      rw [hh] at h
      simp only [Bool.true_and, Bool.and_eq_false_iff, decide_eq_false_iff_not] at h
      refine .inr ?_
      by_cases h1 : d < 0
      · exact .inl ⟨rfl, h1⟩
      · by_cases h2 : a < d
        · exact .inr (.inl ⟨rfl, by omega, h2⟩)
        · exact .inr (.inr ⟨rfl, by omega, by omega, by omega⟩)
  clear h
  obtain ⟨n, hn⟩ : ∃ n, n = nd.length := ⟨_, rfl⟩
  rw [← hn] at hc hk ⊢
  clear hn
  have HC := Lib.hid (fun (W : World) => gmayBe_c (n : Int) W)
  rcases hc with h1 | ⟨h1, h2⟩ | ⟨h1, h2, h3⟩ | ⟨h1, h2, h3, h4⟩
  all_goals
    rw [h1] at HC
    clear h1
    go_enter Tryz.func129, Tryz.ntmps129
    go_wp2_with fail
    (with_reducible refine (HC.out _).mono ?_)
    rintro e w1 ⟨rfl, rfl⟩
    go_wp2
    go_ret
    exact ⟨rfl, below1 _ _⟩

def wG (W : World) (d a : Int) (on : Bool) (v : Value) : World := (W.alloc (.cells #[.int .i64 d, .int .i64 a, .bool on, v] 27)).alloc (.cells #[.int .i64 0] 3)
theorem wG_facts (W : World) (d a : Int) (on : Bool) (v : Value) : GBox (wG W d a on v) W.heap.size d a on v ∧ Boxed (wG W d a on v) (W.heap.size + 1) 3 (.int .i64 0) ∧ Below W.heap.size W (wG W d a on v) ∧ (wG W d a on v).heap.size = W.heap.size + 2 := by
  refine ⟨(GBox.new W d a on v).below (below1 _ _), ?_, below2 _ _ _, by unfold wG; simp⟩
  have := Boxed.new (W.alloc (.cells #[.int .i64 d, .int .i64 a, .bool on, v] 27)) 3 (.int .i64 0)
  simpa [wG] using this
/-- Between two rounds. -/
def GI (W : World) (d a : Int) (on : Bool) (v : Value) (pre : List Int) (W' : World) : Prop :=
  GBox W' W.heap.size d a on v ∧ Boxed W' (W.heap.size + 1) 3 (.int .i64 (pre.length : Int)) ∧ Below W.heap.size W W'
theorem gi_own (W : World) (d a : Int) (on : Bool) (v : Value) (z : Nat) (hz : W.heap.size + 3 ≤ z) : OwnFrom z (GI W d a on v) := by
  rintro s X Y row ⟨h1, h2, h3⟩ hg hr
  have hr' := fun r e => (hr r e).2
  exact ⟨heap_own h1 hg hr', heap_own h2 hg hr', h3.grown hg h3.size (fun k e => by have := (hr k e).1; omega)⟩

set_option maxHeartbeats 8000000 in
theorem gmay_yes (g : GrS) (p : Option Addr) (c : Nat) (W : World) (h : numsG g = true) (hl : BoolOut (fun _ => False) W p g.nd) :
    Calls Tryz.prog 129 #[.agg #[.int .i64 g.done, .int .i64 g.asked, .bool g.on, .slice p g.nd.length c]] W fun e w' => e = .returned (.bool (tellG g)) ∧ Below W.heap.size W w' := by
  obtain ⟨d, a, on, nd⟩ := g
  unfold numsG at h
  simp only [Bool.and_eq_true, decide_eq_true_eq] at h hl ⊢
  obtain ⟨h1, h2, h3, h4⟩ := h
  have hk8 : 1 ≤ nd.length ∧ nd.length ≤ 8 := by unfold mayCpus at h1; simp only [Bool.and_eq_true, decide_eq_true_eq] at h1; omega
  have HC := Lib.hid (fun (W : World) => gmayBe_c (nd.length : Int) W)
  rw [h1] at HC
  have HF := Lib.hid (wG_facts W d a on (.slice p nd.length c))
  obtain ⟨w0, hw0⟩ : ∃ X, X = wG W d a on (.slice p nd.length c) := ⟨_, rfl⟩
  rw [← hw0] at HF
  unfold wG at hw0
  have HL := Lib.hid (show BoolOut (fun k => k = W.heap.size + 1) w0 p nd from fun hne => by
    obtain ⟨bb, off, e, -, hcs⟩ := hl hne
    obtain ⟨i0, hi0⟩ : ∃ i : Nat, i < nd.length := ⟨0, by omega⟩
    have hlt := World.block_lt_of_cell? W _ (hcs i0 hi0)
    exact ⟨bb, off, e, (by simp only at hlt; omega), fun i hi => below_cell HF.out.2.2.1 (hcs i hi)⟩)
  have HN := Lib.hid hk8
  have hd1 : decide (d < 0) = false := by simp; omega
  have hd2 : decide (a < d) = false := by simp; omega
  have hd3 : decide (2147483645 < a) = false := by simp; omega
  clear h1 hl
  refine (callsIn_wide (n := 9)).1 ?_
  refine callsIn_of_wp_marks Tryz.func129 rfl trivial ?_ rfl
  simp only [Tryz.ntmps129, List.size_toArray, List.length_cons, List.length_nil, Nat.reduceAdd, Nat.reduceSub, Array.replicate_succ, Array.replicate_zero, List.push_toArray, List.append_toArray, List.nil_append, List.cons_append]
  gi_wp2_with fail
  refine ⟨trivial, (callsIn_wide.2 (HC.out _)).mono ?_⟩
  rintro e w1 ⟨rfl, rfl⟩
  obtain ⟨c0, c1, c2, c3⟩ := HF.out.1.cells
  clear HC
  gi_wp2_with fail
  rw [← hw0]
  clear hw0
  refine ⟨trivial, (callsIn_wide.2 (needed_c d a on (.slice p nd.length c) w0)).mono ?_⟩
  rintro e w2 ⟨rfl, hw2⟩
  have hb12 : Below w0.heap.size w0 w2 := by rw [hw2]; exact below1 _ _
  have HPB := Lib.hid (show GBox w2 w0.heap.size d a on (.slice p nd.length c) by rw [hw2]; exact GBox.new _ _ _ _ _)
  have HI0 := Lib.hid (show GI W d a on (.slice p nd.length c) [] w2 from ⟨HF.out.1.below hb12, (hb12.block _ HF.out.2.1.lt).trans HF.out.2.1, below_then HF.out.2.2.1 HF.out.2.2.1.size hb12⟩)
  have HL2 := Lib.hid (HL.out.below hb12)
  have hz0 : w0.heap.size = W.heap.size + 2 := HF.out.2.2.2
  have hz2 : w2.heap.size = W.heap.size + 3 := by rw [hw2, World.size_alloc, hz0]
  have HZ0 := Lib.hid (And.intro hz0 hz2)
  clear hw2 hb12 c0 c1 c2 c3 HL hz0 hz2
  gi_wp2
  have hGI := gi_own W d a on (.slice p nd.length c) w2.heap.size (by have := HZ0.out; omega)
  refine wpIn_rangeDeep rfl (by omega) (gf := 167) (lb := #[.pointer (some ⟨w0.heap.size, 0, none⟩)]) rfl trivial (enters_of Tryz.func167 (by kernel_rfl) rfl)
    (needed_stops 8 (by omega) (fun k => k = W.heap.size + 1) w0.heap.size d a on p c nd w2 (by omega) HPB.out HL2.out) (fun h k => h.trans k) (fun W l o o' _ => KeepsCells.turn _ W l o o') (Below.refl _ _) (fun _ => rfl)
    (GI W d a on (.slice p nd.length c)) (fun _ _ _ => False) hGI (fun _ => ownFrom_pure _ _) HI0.out
    (fun x a' _ => a' = { tmps := #[.agg #[.int .i64 d, .int .i64 a, .bool on, .slice p nd.length c], .pointer (some ⟨W.heap.size, 0, none⟩), .bool false, .pointer (some ⟨W.heap.size + 1, 0, none⟩), undef, .pointer (some ⟨W.heap.size, 3, none⟩), .slice p nd.length c, .int .i64 (nd.length : Int), .bool true, .bool false, .bool false, .pointer (some ⟨W.heap.size, 0, none⟩), .int .i64 d, .bool false, .bool false, .bool false, .pointer (some ⟨W.heap.size, 1, none⟩), .int .i64 a, .pointer (some ⟨W.heap.size, 0, none⟩), .int .i64 d, .bool false, .bool false, .bool false, .pointer (some ⟨W.heap.size, 1, none⟩), .int .i64 a, .bool false, .bool false, .agg #[.int .i64 d, .int .i64 a, .bool on, .slice p nd.length c], .func (.func 167) #[] #[.pointer (some ⟨w0.heap.size, 0, none⟩)], .int .i64 x, undef, undef, undef, undef, undef, undef, undef, undef, undef, undef, undef, undef, undef, undef, undef, undef, undef, undef, undef, undef, undef, undef, undef, undef, undef], defers := [] })
    ?hAx ?assign ?body ?done ?stop
  case hAx => exact fun x a' => ownFrom_pure _ _
  case assign =>
    rintro l' pre x X K hi hK
    gi_wp2
    exact hK _ _ (KeepsFrom.refl _ _) (KeepsCells.refl _ _) hi rfl
  case body =>
    rintro l' pre x a' X hl' _ hI rfl hlen -
    obtain ⟨hi1, hi2, hi3⟩ := hI
    have e1 := hi2.cell
    have f1 := hi2.frozen
    have HEQ := Lib.hid (show ((pre ++ [x]).length : Int) = (pre.length : Int) + 1 by simp)
    have HI := Lib.hid (And.intro hi1 (And.intro hi2 hi3))
    have hpl : pre.length < 8 := by have := HN.out; omega
    clear hi1 hi2 hi3 hlen hGI HI0 HPB HL2
    gi_wp2
    refine ⟨(KeepsOthers.setCell _ _ _).from _, KeepsCells.keeps (Keeps.setCell _ (S := (· = W.heap.size + 1)) (p := ⟨W.heap.size + 1, 0, none⟩) rfl _), ?_, ?_, HI.out.2.2.setCell (p := ⟨W.heap.size + 1, 0, none⟩) (by show W.heap.size ≤ W.heap.size + 1; omega) _⟩
    · exact HI.out.1.keeps (Keeps.setCell _ (S := (· = W.heap.size + 1)) (p := ⟨W.heap.size + 1, 0, none⟩) rfl _) (by omega)
    · rw [HEQ.out]; exact HI.out.2.1.set _
  case done =>
    rintro D xs X hD rfl ⟨h1, h2', h3'⟩ hK
    obtain ⟨c0, c1, c2, c3⟩ := h1.cells
    obtain ⟨m, hm⟩ : ∃ m : Nat, m = (trN nd nd.length).length := ⟨_, rfl⟩
    have HM := Lib.hid hm
    rw [← hm] at h2'
    have hm8 : m ≤ 8 := by have := trN_len nd nd.length; have := HN.out; omega
    have e4 := h2'.cell
    have HB := Lib.hid h3'
    have HW := Lib.hid (And.intro hD hK)
    have HSZ := Lib.hid (show W.heap.size ≤ w2.heap.size by have := HZ0.out; omega)
    clear h1 h2' h3' hGI HI0 HPB HL2 hD hK hm
    cases on with
    | true =>
      gi_wp2
      all_goals
        refine leaves_marks (B := W.heap.size) [D] _ ((Marks.nil _ _).cons (Nat.le_trans HSZ.out HW.out.1) (by simp) HW.out.2) fun X' hX' => ⟨_, results_tmp rfl _ _ _, ?_, HB.out.trans hX'⟩
        refine ret_bool ?_
        unfold tellG manyG
        simp only [if_true]
        rw [← HM.out, Bool.eq_iff_iff]
        simp only [Bool.and_eq_true, decide_eq_true_eq, Bool.false_eq_true, false_iff]
        omega
    | false =>
      gi_wp2
      all_goals
        refine leaves_marks (B := W.heap.size) [D] _ ((Marks.nil _ _).cons (Nat.le_trans HSZ.out HW.out.1) (by simp) HW.out.2) fun X' hX' => ⟨_, results_tmp rfl _ _ _, ?_, HB.out.trans hX'⟩
        refine ret_bool ?_
        unfold tellG manyG
        simp only [Bool.false_eq_true, if_false]
        rw [← HM.out, Bool.eq_iff_iff]
        simp only [Bool.and_eq_true, decide_eq_true_eq, Bool.false_eq_true, false_iff]
        omega
  case stop =>
    rintro D cc pre X hD - hF hK
    exact hF.elim

/-- Which graces may be. -/
theorem gmay_c (g : GrS) (v : Value) (W : World) (hn : BoolsAt W v g.nd) (h1 : g.nd.length ≤ 9223372036854775807) :
    Calls Tryz.prog 129 #[.agg #[.int .i64 g.done, .int .i64 g.asked, .bool g.on, v]] W fun e w' => e = .returned (.bool (mayG g)) ∧ Below W.heap.size W w' := by
  obtain ⟨p, c, rfl, hp⟩ := hn
  unfold mayG
  cases h : numsG g with
  | false => rw [Bool.false_and]; exact gmay_no g p c W h h1
  | true => rw [Bool.true_and]; exact gmay_yes g p c W h (fun hne => by obtain ⟨b, off, e, hc⟩ := hp hne; exact ⟨b, off, e, fun h => h, hc⟩)

end Go.Proofs.YtdllhiihmpinoaaGreat
/-
  Rows of truth values: slices.Equal, slices.Clone, make.
  Conditions: their lengths.
-/
namespace Go.Proofs.YtdllhiihmpinoaaGreat
set_option maxRecDepth 100000
open Go.RowKit Go.Shelf
attribute [local go_sem] Oper.semAt_some

set_option maxHeartbeats 4000000 in
theorem equalB_c (v0 v1 : Value) (xs ys : List Bool) (W : World) (hv0 : BoolsAt W v0 xs) (hv1 : BoolsAt W v1 ys) (hl0 : xs.length ≤ 9223372036854775807) (hl1 : ys.length ≤ 9223372036854775807) :
    Calls Tryz.prog 98 #[v0, v1] W fun e w' => e = .returned (.bool (decide (xs = ys))) ∧ Below W.heap.size W w' := by
  obtain ⟨p0, cap0, rfl, hc0⟩ := hv0
  obtain ⟨p1, cap1, rfl, hc1⟩ := hv1
  go_enter Tryz.func98, Tryz.ntmps98
  by_cases hlen : xs.length = ys.length
  · have hne : ((xs.length : Int) != (ys.length : Int)) = false := by rw [bne_eq_false_iff_eq]; omega
    have HL := Lib.hid hlen
    clear hlen
    go_wp2
    clear hne
    go_loopw [13] (fun iv wr => ∃ i : Nat, i ≤ xs.length ∧ iv = .int .i64 i ∧ xs.take i = ys.take i ∧ Below W.heap.size W wr) (fun iv _ => xs.length - (intOf iv).toNat)
    case atStart => exact ⟨0, Nat.zero_le _, rfl, rfl, Below.refl _ _⟩
    case round =>
      obtain ⟨i, hi, rfl, heq, hB⟩ := hrel
      by_cases hlt : i < xs.length
      · obtain ⟨b0, off0, rfl, hcs0⟩ := hc0 (by intro e; rw [e] at hlt; cases hlt)
        have hlt1 : i < ys.length := by have := HL.out; omega
        obtain ⟨b1, off1, rfl, hcs1⟩ := hc1 (by intro e; rw [e] at hlt1; cases hlt1)
        have hx := hcs0 i hlt
        have hy := hcs1 i hlt1
        have ha := List.take_succ_eq_append_getElem hlt
        have hb := List.take_succ_eq_append_getElem hlt1
        obtain ⟨x, hxe⟩ : ∃ x, x = xs[i] := ⟨_, rfl⟩
        obtain ⟨y, hye⟩ : ∃ y, y = ys[i] := ⟨_, rfl⟩
        rw [← hxe] at hx ha
        rw [← hye] at hy hb
        have hx' := (hB.cell (World.block_lt_of_cell? W _ hx)).trans hx
        have hy' := (hB.cell (World.block_lt_of_cell? W _ hy)).trans hy
        have HE := Lib.hid heq
        have HA := Lib.hid ha
        have HB := Lib.hid hb
        have HXY := Lib.hid (And.intro hxe hye)
        clear hx hy hcs0 hcs1 heq ha hb hxe hye
        by_cases hxy : x = y
        · subst hxy
          go_wp2
          go_quiet (fail)
          go_wp2
          all_goals
            go_roundw
            case rel => exact ⟨i + 1, by omega, by go_num, by rw [HA.out, HB.out, HE.out], below_drewN hB _⟩
            case measure => simp [intOf]; omega
        · have hr : decide (xs = ys) = false := by
            rw [decide_eq_false_iff_not]
            intro e
            subst e
            exact hxy (HXY.out.1.trans HXY.out.2.symm)
          have HR := Lib.hid hr
          obtain ⟨rfl, rfl⟩ | ⟨rfl, rfl⟩ : (x = true ∧ y = false) ∨ (x = false ∧ y = true) := by cases x <;> cases y <;> simp_all
          all_goals
            clear hr hxy
            go_wp2
            go_quiet (fail)
            go_wp2
            all_goals go_ret
            all_goals exact ⟨ret_bool HR.out.symm, below_drewN hB _⟩
      · have heq2 : xs = ys := by rwa [List.take_of_length_le (by omega), List.take_of_length_le (by have := HL.out; omega)] at heq
        have HE := Lib.hid heq2
        clear heq heq2
        go_wp2
        go_ret
        exact ⟨ret_bool (by simp [HE.out]), hB⟩
  · have hne : ((xs.length : Int) != (ys.length : Int)) = true := by rw [bne_iff_ne]; omega
    have hr : decide (xs = ys) = false := by rw [decide_eq_false_iff_not]; intro e; rw [e] at hlen; exact hlen rfl
    have HR := Lib.hid hr
    clear hr hlen
    go_wp2
    go_ret
    exact ⟨ret_bool HR.out.symm, Below.refl _ _⟩

theorem cloneB_info : (Tryz.prog.info? 4).map (fun i => (i.zero, i.size, i.bytes)) = some (some (.bool false), 1, 1) := by kernel_rfl

set_option maxHeartbeats 2000000 in
theorem cloneB (v : Value) (n : Nat) (xs : List Value) (W : World) (hv : ValsAt W v 1 n xs) (h1 : ∀ u ∈ xs, u.oneCell' = true) (hn : n ≤ 1099511627776) :
    Calls Tryz.prog 30 #[v] W fun e w' => OwnsNew W.heap.size 4 1 n xs e w' ∧ Below W.heap.size W w' := by
  obtain ⟨hlen, p, cap, rfl, ⟨rfl, rfl, rfl⟩ | ⟨ad, rfl, hcells⟩⟩ := hv
  · obtain rfl : xs = [] := List.eq_nil_of_length_eq_zero (by omega)
    have hcmp := fun w => Lib.run_eql_slice_nil (P := Tryz.prog) w 25 4 none 0 0 0 0 Tryz.underlying25
    go_enter Tryz.func30, Tryz.ntmps30
    go_wp2
    go_ret
    exact ⟨⟨_, rfl, World.ownsRow_nil _ _ _ _⟩, Below.refl _ _⟩
  · have hcmp := fun w => Lib.run_eql_slice_nil (P := Tryz.prog) w 25 4 (some ad) n cap 0 0 Tryz.underlying25
    obtain ⟨i0, hi, hz0, hz1, hz2⟩ := info_parts cloneB_info
    have hown := World.ownsRow_lit (base := W.heap.size) (e := 4) (size := 1) W #[] 0 (Nat.le_refl _) (by decide) rfl
    have hnews : ∀ j u, xs[j]? = some u → (W.alloc (Obj.cells #[] 4)).cell? (ad.add j) = some u := fun j u hj => by
      have h0 := hcells j u hj
      rw [World.cell?_alloc_lt _ _ _ (World.block_lt_of_cell? W _ h0)]
      exact h0
    have HN := Lib.hid hnews
    have H1 := Lib.hid h1
    have HO := Lib.hid hown
    clear hnews h1 hown hcells
    go_enter Tryz.func30, Tryz.ntmps30
    go_wp2_with (at_builtin; refine wpList_append_own _ rfl _ _ 25 rfl W.heap.size 4 i0 (.bool false) 1 1 Tryz.underlying25 hi hz0 hz1 hz2 rfl (by decide) _ _ _ rfl HO.out ad n cap xs rfl hlen HN.out H1.out (by unfold maxLen; omega) (by omega) (by simp) ?_; intro v' w1 hown' hgrow _)
    go_ret
    rw [Nat.zero_add, List.nil_append] at hown'
    exact ⟨⟨v', rfl, hown'⟩, below_grown ((Below.refl _ _).alloc (Nat.le_refl _) _) hgrow (fun k e => by cases e; exact Nat.le_refl _)⟩

theorem run_makeB (n : Nat) (hn : n ≤ 1099511627776) (w : World) : (Instr.makeSlice 25 (.int .i64 (n : Int)) (.int .i64 (n : Int))).run Tryz.prog w = .ok (.slice (some ⟨w.heap.size, 0, none⟩) n n) (w.alloc (.cells (Array.replicate n (Value.bool false)) 4)) := by
  obtain ⟨i0, hi, hz0, hz1, hz2⟩ := info_parts cloneB_info
  have := run_make (P := Tryz.prog) w 25 4 i0 (.bool false) Tryz.underlying25 hi hz0 .i64 .i64 (n : Int) (n : Int) (by omega) (by omega) (by rw [hz2]; omega) (by omega)
  rw [this, hz1]
  have e : madeCells (Value.bool false).cells ((n : Int).toNat * 1) = Array.replicate n (Value.bool false) := by
    apply Array.toList_inj.1
    rw [Nat.mul_one, Int.toNat_natCast, Array.toList_replicate]
    exact toList_madeCells_one _ n
  rw [e]
  simp

end Go.Proofs.YtdllhiihmpinoaaGreat
namespace Go.Proofs.YtdllhiihmpinoaaGreat
set_option maxRecDepth 100000
open Go.RowKit Go.Shelf
attribute [local go_sem] Oper.semAt_some

/-- A panic of an error. -/
def woe (x : Int) : Ending := .panicked [{ v := .iface 39 (.int .i64 x), recovered := false }]

theorem must_ok (W : World) : Calls Tryz.prog 138 #[.int .i64 0] W fun e w' => e = .returned (.tuple #[]) ∧ w' = W := by
  go_enter Tryz.func138, Tryz.ntmps138
  go_wp2
  go_end0
  exact ⟨rfl, rfl⟩
theorem must_no (x : Int) (hx : x ≠ 0) (W : World) : Calls Tryz.prog 138 #[.int .i64 x] W fun e w' => e = woe x ∧ w' = W := by
  have hq : (x != 0) = true := by rw [bne_iff_ne]; exact hx
  clear hx
  go_enter Tryz.func138, Tryz.ntmps138
  go_wp2
  exact ⟨rfl, rfl, rfl⟩

set_option maxHeartbeats 4000000 in
theorem gcheck_c (g : GrS) (v : Value) (W : World) (hn : BoolsAt W v g.nd) (h1 : g.nd.length ≤ 9223372036854775807) :
    Calls Tryz.prog 90 #[.agg #[.int .i64 g.done, .int .i64 g.asked, .bool g.on, v]] W fun e w' => e = .returned (.int .i64 (if mayG g = true then 0 else 220)) ∧ Below W.heap.size W w' := by
  obtain ⟨w0, hw0⟩ : ∃ X : World, X = W.alloc (.cells #[.int .i64 g.done, .int .i64 g.asked, .bool g.on, v] 27) := ⟨_, rfl⟩
  have hb0 : Below W.heap.size W w0 := by rw [hw0]; exact below1 _ _
  have HB := Lib.hid hb0
  have HC := Lib.hid (gmay_c g v w0 (bools_below hn hb0) h1)
  have hbx : GBox w0 W.heap.size g.done g.asked g.on v := by rw [hw0]; exact GBox.new _ _ _ _ _
  obtain ⟨d0, d1, d2, d3⟩ := hbx.cells
  obtain ⟨p, c, rfl, -⟩ := hn
  clear hb0 h1 hbx
  cases hm : mayG g with
  | true =>
    rw [hm] at HC
    rw [if_pos rfl]
    clear hm
    go_enter Tryz.func90, Tryz.ntmps90
    go_wp2_with fail
    rw [← hw0]
    clear hw0
    (with_reducible refine HC.out.mono ?_)
    rintro e w1 ⟨rfl, hb1⟩
    have HB1 := Lib.hid (below_then HB.out HB.out.size hb1)
    clear hb1
    go_wp2
    go_ret
    exact ⟨rfl, HB1.out⟩
  | false =>
    rw [hm] at HC
    rw [if_neg Bool.false_ne_true]
    clear hm
    go_enter Tryz.func90, Tryz.ntmps90
    go_wp2_with fail
    rw [← hw0]
    clear hw0
    (with_reducible refine HC.out.mono ?_)
    rintro e w1 ⟨rfl, hb1⟩
    have HB1 := Lib.hid (below_then HB.out HB.out.size hb1)
    clear hb1
    go_wp2
    go_ret
    exact ⟨rfl, HB1.out⟩

def overB (g : GrS) (n : Int) : Bool := mayG g && (decide (1 ≤ n) && decide (n ≤ g.done))
def gsameB (s t : GrS) : Bool := decide (s.done = t.done) && (decide (s.asked = t.asked) && (decide (s.on = t.on) && decide (s.nd = t.nd)))
theorem gsameB_iff (s t : GrS) : gsameB s t = true ↔ s = t := by
  obtain ⟨a, b, c, d⟩ := s
  obtain ⟨a', b', c', d'⟩ := t
  unfold gsameB
  simp
/-- Two boxes. -/
def wSG (W : World) (d a : Int) (on : Bool) (v : Value) (d' a' : Int) (on' : Bool) (v' : Value) : World := (W.alloc (.cells #[.int .i64 d, .int .i64 a, .bool on, v] 27)).alloc (.cells #[.int .i64 d', .int .i64 a', .bool on', v'] 27)
theorem wSG_facts (W : World) (d a : Int) (on : Bool) (v : Value) (d' a' : Int) (on' : Bool) (v' : Value) : GBox (wSG W d a on v d' a' on' v') W.heap.size d a on v ∧ GBox (wSG W d a on v d' a' on' v') (W.heap.size + 1) d' a' on' v' ∧ Below W.heap.size W (wSG W d a on v d' a' on' v') := by
  refine ⟨(GBox.new W d a on v).below (below1 _ _), ?_, below2 _ _ _⟩
  have := GBox.new (W.alloc (.cells #[.int .i64 d, .int .i64 a, .bool on, v] 27)) d' a' on' v'
  rwa [World.size_alloc] at this

set_option maxHeartbeats 8000000 in
theorem gsame_c (s t : GrS) (v v' : Value) (W : World) (hn : BoolsAt W v s.nd) (hn' : BoolsAt W v' t.nd) (l1 : s.nd.length ≤ 9223372036854775807) (l2 : t.nd.length ≤ 9223372036854775807) :
    Calls Tryz.prog 64 #[.agg #[.int .i64 s.done, .int .i64 s.asked, .bool s.on, v], .agg #[.int .i64 t.done, .int .i64 t.asked, .bool t.on, v']] W fun e w' => e = .returned (.bool (gsameB s t)) ∧ Below W.heap.size W w' := by
  have HE := Lib.hid (fun (Z : World) (hb : Below W.heap.size W Z) => equalB_c v v' s.nd t.nd Z (bools_below hn hb) (bools_below hn' hb) l1 l2)
  have HF := Lib.hid (wSG_facts W s.done s.asked s.on v t.done t.asked t.on v')
  obtain ⟨w0, hw0⟩ : ∃ X, X = wSG W s.done s.asked s.on v t.done t.asked t.on v' := ⟨_, rfl⟩
  rw [← hw0] at HF
  unfold wSG at hw0
  obtain ⟨p, c, rfl, -⟩ := hn
  obtain ⟨p', c', rfl, -⟩ := hn'
  obtain ⟨d0, d1, d2, d3⟩ := HF.out.1.cells
  obtain ⟨e0, e1, e2, e3⟩ := HF.out.2.1.cells
  have HB := Lib.hid HF.out.2.2
  clear l1 l2
  unfold gsameB
  by_cases h1 : s.done = t.done
  · have q1 : (s.done == t.done) = true := by rw [beq_iff_eq]; exact h1
    rw [decide_eq_true h1, Bool.true_and]
    clear h1
    by_cases h2 : s.asked = t.asked
    · have q2 : (s.asked == t.asked) = true := by rw [beq_iff_eq]; exact h2
      rw [decide_eq_true h2, Bool.true_and]
      clear h2
      by_cases h3 : s.on = t.on
      · have q3 : (s.on == t.on) = true := by rw [beq_iff_eq]; exact h3
        rw [decide_eq_true h3, Bool.true_and]
        clear h3
        have HEE := Lib.hid (HE.out w0 HB.out)
        clear HE
        go_enter Tryz.func64, Tryz.ntmps64
        go_wp2_with fail
        rw [← hw0]
        clear hw0
        (with_reducible refine HEE.out.mono ?_)
        rintro e w1 ⟨rfl, hb1⟩
        have HB1 := Lib.hid (below_then HB.out HB.out.size hb1)
        clear hb1
        go_wp2
        go_ret
        exact ⟨rfl, HB1.out⟩
      · have q3 : (s.on == t.on) = false := by rw [beq_eq_false_iff_ne]; exact h3
        rw [decide_eq_false h3, Bool.false_and]
        clear h3 HE
        rw [hw0] at HB
        go_enter Tryz.func64, Tryz.ntmps64
        go_wp2
        go_ret
        exact ⟨rfl, below2 _ _ _⟩
    · have q2 : (s.asked == t.asked) = false := by rw [beq_eq_false_iff_ne]; exact h2
      rw [decide_eq_false h2, Bool.false_and]
      clear h2 HE
      rw [hw0] at HB
      go_enter Tryz.func64, Tryz.ntmps64
      go_wp2
      go_ret
      exact ⟨rfl, below2 _ _ _⟩
  · have q1 : (s.done == t.done) = false := by rw [beq_eq_false_iff_ne]; exact h1
    rw [decide_eq_false h1, Bool.false_and]
    clear h1 HE
    rw [hw0] at HB
    go_enter Tryz.func64, Tryz.ntmps64
    go_wp2
    go_ret
    exact ⟨rfl, below2 _ _ _⟩

/-- A grace's slot for an answer. -/
def zeroG : Value := .agg #[.int .i64 0, .int .i64 0, .bool false, .slice none 0 0]

set_option maxHeartbeats 4000000 in
theorem gnew_c (n : Nat) (h1 : 1 ≤ n) (h8 : n ≤ 8) (W : World) : Calls Tryz.prog 56 #[.int .i64 (n : Int)] W fun e w' => (∃ b, e = .returned (.tuple #[.agg #[.int .i64 0, .int .i64 0, .bool false, .slice (some ⟨b, 0, none⟩) n n], .int .i64 0]) ∧ BBlock w' b (List.replicate n false) ∧ W.heap.size ≤ b) ∧ Below W.heap.size W w' := by
  have hmk := run_makeB n (by omega)
  have HC := Lib.hid (fun (W : World) => gmayBe_c (n : Int) W)
  rw [show mayCpus (n : Int) = true by unfold mayCpus; simp; omega] at HC
  obtain ⟨wA, hwA⟩ : ∃ X : World, X = W.alloc (.cells #[.int .i64 0, .int .i64 0, .bool false, .slice none 0 0] 27) := ⟨_, rfl⟩
  have HA := Lib.hid (show GBox wA W.heap.size 0 0 false (.slice none 0 0) ∧ Below W.heap.size W wA ∧ wA.heap.size = W.heap.size + 1 by rw [hwA]; exact ⟨GBox.new W 0 0 false _, below1 _ _, World.size_alloc _ _⟩)
  obtain ⟨w0, hw0⟩ : ∃ X : World, X = wA.alloc (.cells (Array.replicate n (Value.bool false)) 4) := ⟨_, rfl⟩
  have hb0 : Below wA.heap.size wA w0 := by rw [hw0]; exact below1 _ _
  have HF := Lib.hid (show GBox w0 W.heap.size 0 0 false (.slice none 0 0) ∧ BBlock w0 wA.heap.size (List.replicate n false) ∧ Below W.heap.size W w0 from ⟨HA.out.1.below hb0, by
    unfold BBlock
    rw [hw0, World.alloc_heap_new]
    simp, below_then HA.out.2.1 HA.out.2.1.size hb0⟩)
  obtain ⟨d0, d1, d2, d3⟩ := HF.out.1.cells
  have m0 := HF.out.1.marks 0
  have m1 := HF.out.1.marks 1
  have m2 := HF.out.1.marks 2
  have m3 := HF.out.1.marks 3
  have HP := Lib.hid (HF.out.1.put 0 0 false (.slice (some ⟨wA.heap.size, 0, none⟩) n n))
  have HK := Lib.hid (GBox.putK w0 W.heap.size 0 0 false (.slice (some ⟨wA.heap.size, 0, none⟩) n n))
  rw [hw0] at d0 d1 d2 d3 m0 m1 m2 m3
  rw [hw0] at HP
  have HW0 := Lib.hid hw0
  clear hb0 hw0
  go_enter Tryz.func56, Tryz.ntmps56
  go_wp2_with fail
  (with_reducible refine (HC.out _).mono ?_)
  rintro e w1 ⟨rfl, rfl⟩
  go_upto_region 3 with fail
  rw [← hwA]
  clear hwA
  go_wp2
  refine bodyPost_ret (HP.out.result2 rfl _ rfl rfl) rfl ⟨⟨_, rfl, ?_, by have := HA.out.2.2; omega⟩, ?_⟩
  · rw [← HW0.out]; exact HF.out.2.1.keeps HK.out (by have := HA.out.2.2; omega)
  · rw [← HW0.out]; exact HF.out.2.2.trans (HK.out.below HF.out.2.2.size (fun k e => by omega))

end Go.Proofs.YtdllhiihmpinoaaGreat
