/-
  Package reader: Enter and Leave.
  Conditions: the ranges of Go's types.
-/
import Derived.Test.YtdmcijfjnegcgaaJA1
import Derived.Laws.EntriesVeiled
import Derived.Laws.CopyOwn
import Derived.BigRegion
import Derived.Deep.Cut
import Derived.Deep.DeepCutAuto
import Derived.Deep.CutBlock
import Derived.WalkSpells
import Derived.RegionTactic
import Derived.Deep.MidRow
/-
  Package reader: the oldest section.
  Conditions: as many of the one row as of the other.
-/
namespace Go.Proofs.Ytdmcijfjnegcgaa
set_option maxRecDepth 100000
open Go.RowKit Go.Shelf Go.Maps
attribute [local go_sem] Oper.semAt_some

def aheadB (a s : Int) : Bool := decide (a = 0) || decide (s < a)
def oldM (l : List (Int × Int)) : Int := l.foldl (fun a s => if aheadB a s.2 = true then s.2 else a) 0
theorem oldM_snoc (l : List (Int × Int)) (s : Int × Int) : oldM (l ++ [s]) = if aheadB (oldM l) s.2 = true then s.2 else oldM l := by unfold oldM; rw [List.foldl_append]; rfl

set_option maxHeartbeats 4000000 in
theorem ahead_c (s a : Int) (lb : Nat) (W : World) (hc : W.cell? ⟨lb, 0, none⟩ = some (.int .i64 a)) : Calls Try.prog 74 #[.int .i64 s, .pointer (some ⟨lb, 0, none⟩)] W fun e w' => e = .returned (.bool (aheadB a s)) ∧ w' = W := by
  unfold aheadB
  by_cases h : a = 0
  · have hq : (a == 0) = true := by rw [h]; rfl
    rw [decide_eq_true h, Bool.true_or]
    clear h
    go_enter Try.func74, Try.ntmps74
    go_wp2
    go_ret
    exact ⟨rfl, rfl⟩
  · have hq : (a == 0) = false := by rw [beq_eq_false_iff_ne]; exact h
    rw [decide_eq_false h, Bool.false_or]
    clear h
    go_enter Try.func74, Try.ntmps74
    go_wp2
    go_ret
    exact ⟨rfl, rfl⟩

def wO (W : World) (now : Int) (u v : Value) : World := ((W.alloc (.cells #[.int .i64 now, u, v] 45)).alloc (.cells #[.int .i64 0] 3)).alloc (.cells #[.func (.func 74) #[] #[.pointer (some ⟨W.heap.size + 1, 0, none⟩)]] 93)
theorem wO_facts (W : World) (now : Int) (u v : Value) : RBox (wO W now u v) W.heap.size now u v ∧ Boxed (wO W now u v) (W.heap.size + 1) 3 (.int .i64 0) ∧ Boxed (wO W now u v) (W.heap.size + 1 + 1) 93 (.func (.func 74) #[] #[.pointer (some ⟨W.heap.size + 1, 0, none⟩)]) ∧ Below W.heap.size W (wO W now u v) ∧ (wO W now u v).heap.size = W.heap.size + 3 := by
  refine ⟨(((RBox.new W now u v).below (below1 _ _)).below (below1 _ _)), ?_, ?_, below3 _ _ _ _, by unfold wO; simp⟩
  · have := (Boxed.new (W.alloc (.cells #[.int .i64 now, u, v] 45)) 3 (.int .i64 0)).alloc (.cells #[.func (.func 74) #[] #[.pointer (some ⟨W.heap.size + 1, 0, none⟩)]] 93)
    simpa [wO] using this
  · have := Boxed.new ((W.alloc (.cells #[.int .i64 now, u, v] 45)).alloc (.cells #[.int .i64 0] 3)) 93 (.func (.func 74) #[] #[.pointer (some ⟨W.heap.size + 1, 0, none⟩)])
    simpa [wO] using this
/-- Between two rounds. -/
def OI (W : World) (pre : List (Int × Int × Int)) (W' : World) : Prop :=
  Boxed W' (W.heap.size + 1) 3 (.int .i64 (oldM (pre.map (·.2)))) ∧ Boxed W' (W.heap.size + 1 + 1) 93 (.func (.func 74) #[] #[.pointer (some ⟨W.heap.size + 1, 0, none⟩)]) ∧ Below W.heap.size W W'
theorem oi_own (W : World) (z : Nat) (hz : W.heap.size + 4 ≤ z) : OwnFrom z (OI W) := by
  rintro s X Y row ⟨h1, h2, h3⟩ hg hr
  have hr' := fun r e => (hr r e).2
  exact ⟨heap_own h1 hg hr', heap_own h2 hg hr', h3.grown hg h3.size (fun k e => by have := (hr k e).1; omega)⟩

set_option maxHeartbeats 8000000 in
theorem oldest_c (now : Int) (u v : Value) (ns os : List Int) (W : World) (h2 : os.length = ns.length) (h8 : ns.length ≤ 8) (hnn : NumsAt W .i64 u ns) (hoo : NumsAt W .i64 v os) :
    Calls Try.prog 60 #[.agg #[.int .i64 now, u, v]] W fun e w' => e = .returned (.int .i64 (oldM (secs (ns.zip os)))) ∧ Below W.heap.size W w' := by
  obtain ⟨p, c, rfl, hp⟩ := hnn
  obtain ⟨q, d, rfl, hq⟩ := hoo
  rw [h2]
  have hn : RowOut (fun _ => False) W p ns := fun hne => by obtain ⟨b, off, e, hc⟩ := hp hne; exact ⟨b, off, e, fun h => h, hc⟩
  have ho : RowOut (fun _ => False) W q os := fun hne => by obtain ⟨b, off, e, hc⟩ := hq hne; exact ⟨b, off, e, fun h => h, hc⟩
  clear hp hq
  have HF := Lib.hid (wO_facts W now (.slice p ns.length c) (.slice q ns.length d))
  obtain ⟨w0, hw0⟩ : ∃ X, X = wO W now (.slice p ns.length c) (.slice q ns.length d) := ⟨_, rfl⟩
  rw [← hw0] at HF
  unfold wO at hw0
  have hl : ∀ {p : Option Addr} {fs : List Int}, RowOut (fun _ => False) W p fs → RowOut (fun k => k = W.heap.size + 1) w0 p fs := fun {p fs} hl hne => by
    obtain ⟨bb, off, e, -, hcs⟩ := hl hne
    obtain ⟨i0, hi0⟩ : ∃ i : Nat, i < fs.length := ⟨0, by cases fs with | nil => exact absurd rfl hne | cons _ _ => simp⟩
    have hlt := World.block_lt_of_cell? W _ (hcs i0 hi0)
    exact ⟨bb, off, e, (by simp only at hlt; omega), fun i hi => below_cell HF.out.2.2.2.1 (hcs i hi)⟩
  have HL := Lib.hid (And.intro (hl hn) (hl ho))
  have HLEN := Lib.hid h2
  obtain ⟨c0, c1, c2⟩ := HF.out.1.cells
  clear h2 hn ho hl
  refine (callsIn_wide (n := 9)).1 ?_
  refine callsIn_of_wp_marks Try.func60 rfl trivial ?_ rfl
  simp only [Try.ntmps60, List.size_toArray, List.length_cons, List.length_nil, Nat.reduceAdd, Nat.reduceSub, Array.replicate_succ, Array.replicate_zero, List.push_toArray, List.append_toArray, List.nil_append, List.cons_append]
  gi_wp2_with fail
  rw [← hw0]
  clear hw0
  refine ⟨trivial, (callsIn_wide.2 (sections_c now _ _ w0)).mono ?_⟩
  rintro e w2 ⟨rfl, hw2⟩
  have hb12 : Below w0.heap.size w0 w2 := by rw [hw2]; exact below1 _ _
  have HPB := Lib.hid (show RBox w2 w0.heap.size now (.slice p ns.length c) (.slice q ns.length d) by rw [hw2]; exact RBox.new _ _ _ _)
  have HI0 := Lib.hid (show OI W [] w2 from ⟨(hb12.block _ HF.out.2.1.lt).trans HF.out.2.1, (hb12.block _ HF.out.2.2.1.lt).trans HF.out.2.2.1, below_then HF.out.2.2.2.1 HF.out.2.2.2.1.size hb12⟩)
  have HL2 := Lib.hid (And.intro (HL.out.1.below hb12) (HL.out.2.below hb12))
  have hz0 : w0.heap.size = W.heap.size + 3 := HF.out.2.2.2.2
  have hz2 : w2.heap.size = W.heap.size + 4 := by rw [hw2, World.size_alloc, hz0]
  have HZ0 := Lib.hid (And.intro hz0 hz2)
  clear hw2 hb12 c0 c1 c2 HL hz0 hz2
  gi_wp2
  have hOI := oi_own W w2.heap.size (by have := HZ0.out; omega)
  refine wpIn_rangeDeep rfl (by omega) (gf := 84) (lb := #[.pointer (some ⟨w0.heap.size, 0, none⟩)]) rfl trivial (enters_of Try.func84 (by kernel_rfl) rfl)
    (sections_stops 8 (by omega) (fun k => k = W.heap.size + 1) w0.heap.size now p q c d ns os w2 (by have := HZ0.out; omega) HLEN.out (by omega) HPB.out HL2.out.1 HL2.out.2) (fun h k => h.trans k) (fun W l o o' _ => KeepsCells.turn _ W l o o') (Below.refl _ _) (fun _ => rfl)
    (OI W) (fun _ _ _ => False) hOI (fun _ => ownFrom_pure _ _) HI0.out
    (fun x a' X => ∃ k, a' = { tmps := #[.agg #[.int .i64 now, .slice p ns.length c, .slice q ns.length d], .pointer (some ⟨W.heap.size, 0, none⟩), .int .i64 0, .pointer (some ⟨W.heap.size + 1, 0, none⟩), .pointer (some ⟨W.heap.size + 1 + 1, 0, none⟩), undef, .pointer (some ⟨k, 0, none⟩), .func (.func 74) #[] #[.pointer (some ⟨W.heap.size + 1, 0, none⟩)], .agg #[.int .i64 now, .slice p ns.length c, .slice q ns.length d], .func (.func 84) #[] #[.pointer (some ⟨w0.heap.size, 0, none⟩)], .int .i64 x.1, .agg #[.int .i64 x.2.1, .int .i64 x.2.2], undef, undef, undef, undef, undef, undef, undef], defers := [] } ∧ X.heap[k]? = some (.cells #[.int .i64 x.2.1, .int .i64 x.2.2] 107 (0, 0)))
    ?hAx ?assign ?body ?done ?stop
  case hAx =>
    rintro x a' s X Y row ⟨k, ha, hc⟩ hg hr
    exact ⟨k, ha, heap_own hc hg (fun r e => (hr r e).2)⟩
  case assign =>
    rintro l' pre x X K hi hK
    have hi2 := hOI.alloc (.cells #[.int .i64 x.2.1, .int .i64 x.2.2] 107) hi
    clear hi
    gi_wp2
    exact hK _ _ (KeepsFrom.of_grownBy (World.grownBy_alloc _ _ none) (fun j e => by cases e)) (fun b o v _ h => below_cell (below1 _ _) h) hi2 ⟨_, rfl, World.alloc_heap_new _ _⟩
  case body =>
    rintro l' pre x a' X hl' _ hI ⟨k, rfl, hck⟩ hlen -
    obtain ⟨hi1, hi2, hi3⟩ := hI
    obtain ⟨xc, xn, xo⟩ := x
    simp only at hck
    have hk1 : X.cell? ⟨k, 1, none⟩ = some (.int .i64 xo) := by simp [World.cell?, hck]
    have e1 := hi1.cell
    have f1 := hi1.frozen
    have e2 := hi2.cell
    have HSN := Lib.hid (show oldM ((pre ++ [(xc, xn, xo)]).map (·.2)) = if aheadB (oldM (pre.map (·.2))) xo = true then xo else oldM (pre.map (·.2)) by rw [List.map_append, List.map_singleton, oldM_snoc])
    have HI := Lib.hid (And.intro hi1 (And.intro hi2 hi3))
    obtain ⟨m, hm⟩ : ∃ m, m = oldM (pre.map (·.2)) := ⟨_, rfl⟩
    rw [← hm] at e1 HSN HI
    have HC := Lib.hid (ahead_c xo m (W.heap.size + 1) X e1)
    clear hi1 hi2 hi3 hck hlen hOI HI0 HPB HL2 hm
    cases hh : aheadB m xo with
    | false =>
      rw [hh] at HC HSN
      clear hh
      gi_wp2_with fail
      refine ⟨trivial, ((callsIn_wide.2 HC.out).inRound l').mono ?_⟩
      rintro e X2 ⟨rfl, rfl⟩
      gi_wp2
      refine ⟨KeepsFrom.refl _ _, KeepsCells.refl _ _, ?_, HI.out.2.1, HI.out.2.2⟩
      rw [HSN.out]; exact HI.out.1
    | true =>
      rw [hh] at HC HSN
      clear hh
      gi_wp2_with fail
      refine ⟨trivial, ((callsIn_wide.2 HC.out).inRound l').mono ?_⟩
      rintro e X2 ⟨rfl, hX2⟩
      subst hX2
      gi_wp2
      refine ⟨(KeepsOthers.setCell _ _ _).from _, KeepsCells.keeps (Keeps.setCell _ (S := (· = W.heap.size + 1)) (p := ⟨W.heap.size + 1, 0, none⟩) rfl _), ?_, ?_, HI.out.2.2.setCell (p := ⟨W.heap.size + 1, 0, none⟩) (by show W.heap.size ≤ W.heap.size + 1; omega) _⟩
      · rw [HSN.out]; exact HI.out.1.set _
      · exact ((Keeps.setCell _ (S := (· = W.heap.size + 1)) (p := ⟨W.heap.size + 1, 0, none⟩) rfl (.int .i64 xo)).block _ HI.out.2.1.lt (by omega)).trans HI.out.2.1
  case done =>
    rintro D xs X hD ⟨hxs, -⟩ ⟨h1, h2, h3⟩ hK
    rw [hxs] at h1
    have e4 := h1.cell
    have HB := Lib.hid h3
    have HW := Lib.hid (And.intro hD hK)
    have HSZ := Lib.hid (show W.heap.size ≤ w2.heap.size by have := HZ0.out; omega)
    clear h1 h2 h3 hxs hOI HI0 HPB HL2 hD hK
    gi_wp2
    refine leaves_marks (B := W.heap.size) [D] _ ((Marks.nil _ _).cons (Nat.le_trans HSZ.out HW.out.1) (by simp) HW.out.2) fun X' hX' => ⟨_, results_tmp rfl _ _ _, ?_, HB.out.trans hX'⟩
    rfl
  case stop =>
    rintro D cc pre X hD - hF hK
    exact hF.elim

end Go.Proofs.Ytdmcijfjnegcgaa
/-
  Package reader: rows in memory of their own; what a turn holds, and the steps that it makes.
  Conditions: the ranges of Go's types.
-/
namespace Go.Proofs.Ytdmcijfjnegcgaa
open Go.RowKit Go.Shelf
attribute [local go_sem] Oper.semAt_some

/-- A block that holds these numbers. -/
def IBlock (W : World) (g : Nat) (ns : List Int) : Prop := W.heap[g]? = some (.cells (ns.map (Value.int .i64)).toArray 3 (0, 0))
theorem IBlock.lt {W : World} {g : Nat} {ns : List Int} (h : IBlock W g ns) : g < W.heap.size := (Array.getElem?_eq_some_iff.1 h).1
theorem IBlock.below {W W' : World} {g : Nat} {ns : List Int} (h : IBlock W g ns) (hb : Below W.heap.size W W') : IBlock W' g ns := (hb.block g h.lt).trans h
theorem IBlock.keeps {S : Nat → Prop} {W W' : World} {g : Nat} {ns : List Int} (h : IBlock W g ns) (hk : Keeps S W W') (hS : ¬ S g) : IBlock W' g ns := (hk.block g h.lt hS).trans h
theorem IBlock.cell {W : World} {g : Nat} {ns : List Int} (h : IBlock W g ns) (i : Nat) (hi : i < ns.length) : W.cell? ⟨g, i, none⟩ = some (.int .i64 ns[i]) := block_cell h i hi
theorem IBlock.free {W : World} {g : Nat} {ns : List Int} (h : IBlock W g ns) (i : Nat) : W.frozen? ⟨g, i, none⟩ = false := block_free h i
theorem IBlock.nums {W : World} {g : Nat} {ns : List Int} (h : IBlock W g ns) : NumsAt W .i64 (.slice (some ⟨g, 0, none⟩) ns.length ns.length) ns := by
  have := nums_block (c := ns.length) h (Nat.le_refl _)
  rwa [List.take_length] at this
theorem IBlock.owns {W : World} {B g : Nat} {ns : List Int} (h : IBlock W g ns) (hB : B ≤ g) (hl : ns.length ≤ 1099511627776) : W.ownsRow B 3 1 (.slice (some ⟨g, 0, none⟩) ns.length ns.length) ns.length (ns.map (Value.int .i64)) :=
  ⟨by rw [List.length_map]; omega, .inr ⟨g, ns.length, _, rfl, hB, h, Nat.le_refl _, by unfold maxLen; omega, by rw [List.size_toArray, List.length_map]; omega, by rw [List.toList_toArray]; exact List.take_of_length_le (by rw [List.length_map]; omega)⟩⟩

theorem run_makeI (n : Nat) (hn : n ≤ 1099511627776) (w : World) : (Instr.makeSlice 25 (.int .i64 (n : Int)) (.int .i64 (n : Int))).run Try.prog w = .ok (.slice (some ⟨w.heap.size, 0, none⟩) n n) (w.alloc (.cells (Array.replicate n (Value.int .i64 0)) 3)) := by
  obtain ⟨i0, hi, hz0, hz1, hz2⟩ := info_parts cloneI_info
  have := run_make (P := Try.prog) w 25 3 i0 (.int .i64 0) Try.underlying25 hi hz0 .i64 .i64 (n : Int) (n : Int) (by omega) (by omega) (by rw [hz2]; omega) (by omega)
  rw [this, hz1]
  have e : madeCells (Value.int .i64 0).cells ((n : Int).toNat * 1) = Array.replicate n (Value.int .i64 0) := by
    apply Array.toList_inj.1
    rw [Nat.mul_one, Int.toNat_natCast, Array.toList_replicate]
    exact toList_madeCells_one _ n
  rw [e]
  simp
set_option maxRecDepth 100000 in
set_option maxHeartbeats 4000000 in
theorem own_c (v : Value) (vs : List Int) (W : World) (hv : NumsAt W .i64 v vs) (hn : vs.length ≤ 1099511627776) :
    Calls Try.prog 77 #[v] W fun e w' => (e = .returned (.slice (some ⟨W.heap.size, 0, none⟩) vs.length vs.length) ∧ IBlock w' W.heap.size vs) ∧ Below W.heap.size W w' := by
  obtain ⟨p, cap, rfl, hc⟩ := hv
  obtain ⟨n, hn0⟩ : ∃ n, n = vs.length := ⟨_, rfl⟩
  rw [← hn0] at hn ⊢
  have hmk := run_makeI n hn
  obtain ⟨w1, hw1⟩ : ∃ w : World, w = W.alloc (.cells (Array.replicate n (Value.int .i64 0)) 3) := ⟨_, rfl⟩
  obtain ⟨g, hg⟩ : ∃ g, g = W.heap.size := ⟨_, rfl⟩
  have hb1 : Below g W w1 := by rw [hw1, hg]; exact (Below.refl _ _).alloc (Nat.le_refl _) _
  have hg1 : w1.heap[g]? = some (.cells (List.replicate n (Value.int .i64 0)).toArray 3 (0, 0)) := by rw [hw1, hg, List.toArray_replicate]; exact World.alloc_heap_new _ _
  have HSR := Lib.hid (show 0 < (vs.map (Value.int .i64)).length → (some (⟨g, 0, none⟩ : Addr)) = some ⟨g, 0, none⟩ ∧ ∃ ad, p = some ad ∧ ∀ j u, (vs.map (Value.int .i64))[j]? = some u → w1.cell? (ad.add j) = some u from fun hpos => by
    refine ⟨rfl, ?_⟩
    obtain ⟨b, off, rfl, hcs⟩ := hc (by rintro rfl; simp at hpos)
    refine ⟨_, rfl, fun j u hj => ?_⟩
    obtain ⟨hj1, rfl⟩ := List.getElem?_eq_some_iff.1 hj
    rw [List.length_map] at hj1
    rw [addr_add_off, List.getElem_map]
    exact below_cell (by rw [← hg]; exact hb1) (hcs j hj1))
  have HLN := Lib.hid (show (vs.map (Value.int .i64)).length = Nat.min n n by rw [List.length_map, ← hn0]; exact (Nat.min_self n).symm)
  have HFT := Lib.hid (show 0 + (vs.map (Value.int .i64)).length ≤ (List.replicate n (Value.int .i64 0)).length by rw [List.length_map, List.length_replicate, ← hn0]; omega)
  have HOC := Lib.hid (show ∀ u ∈ vs.map (Value.int .i64), u.oneCell' = true from fun u hu => by obtain ⟨x, _, rfl⟩ := List.mem_map.1 hu; rfl)
  have HG1 := Lib.hid hg1
  have HB1 := Lib.hid hb1
  have HW1 := Lib.hid (And.intro hw1 hg)
  have HN := Lib.hid hn0
  clear hb1 hg1 hw1 hg hc hn0
  go_enter Try.func77, Try.ntmps77
  go_upto_region 2 with fail
  rw [← HW1.out.1, ← HW1.out.2]
  clear hmk
  go_wp2_with (with_reducible refine wpList_copy_splice (o := ⟨some 9, _, _, _, _, _⟩) rfl (.tmp 7) (.tmp 8) 25 25 rfl 3 Try.underlying25 (by kernel_rfl) (some ⟨g, 0, none⟩) p n n n cap rfl rfl g 0 (List.replicate n (Value.int .i64 0)) 3 HG1.out (vs.map (Value.int .i64)) HLN.out HSR.out HFT.out HOC.out g W HB1.out (Nat.le_refl _) ?_; intro w2 HG2 hB2)
  have hsp : splice (List.replicate n (Value.int .i64 0)) 0 (vs.map (Value.int .i64)) = vs.map (Value.int .i64) := by
    unfold splice
    rw [List.take_zero, List.nil_append, List.drop_eq_nil_of_le (by rw [List.length_replicate, List.length_map, ← HN.out]; omega), List.append_nil]
  rw [hsp] at HG2
  have HE := Lib.hid (show IBlock w2 g vs from HG2.out)
  have HB := Lib.hid hB2
  clear HG2 hB2 hsp HG1 HB1
  go_wp2
  go_ret
  exact ⟨⟨by rw [← HW1.out.2]; rfl, by rw [← HW1.out.2]; exact HE.out⟩, by rw [← HW1.out.2]; exact HB.out⟩

end Go.Proofs.Ytdmcijfjnegcgaa
/-
  Package reader: the steps that a turn makes.
  Conditions: the ranges of Go's types.
-/
namespace Go.Proofs.Ytdmcijfjnegcgaa
set_option maxRecDepth 100000
open Go.RowKit Go.Shelf
attribute [local go_sem] Oper.semAt_some

/-- The error of a step; 0: none. -/
def stepE (s : RdS) (c : Int) (en : Bool) : Int :=
  if hasB s.ns.length c = false then 2 else if s.now = 2147483647 ∨ (en = true ∧ s.ns.getD c.toNat 0 = 8) then 6 else if en = false ∧ s.ns.getD c.toNat 0 = 0 then 4 else 0
/-- Readers behind a step. -/
def stepS (s : RdS) (c : Int) (en : Bool) : RdS :=
  if en = true then ⟨s.now + 1, s.ns.set c.toNat (s.ns.getD c.toNat 0 + 1), if s.ns.getD c.toNat 0 = 0 then s.os.set c.toNat (s.now + 1) else s.os⟩
  else ⟨s.now + 1, s.ns.set c.toNat (s.ns.getD c.toNat 0 - 1), if s.ns.getD c.toNat 0 = 1 then s.os.set c.toNat 0 else s.os⟩

/-- Readers that make steps, in memory. -/
structure TurnAt (W : World) (z g h : Nat) (s : RdS) : Prop where
  box : W.heap[z]? = some (.cells #[.int .i64 s.now, .slice (some ⟨g, 0, none⟩) s.ns.length s.ns.length, .slice (some ⟨h, 0, none⟩) s.os.length s.os.length] 111 (0, 0))
  nest : IBlock W g s.ns
  opened : IBlock W h s.os
  apart : g ≠ h
theorem TurnAt.below {W W' : World} {z g h : Nat} {s : RdS} (k : TurnAt W z g h s) (hb : Below W.heap.size W W') : TurnAt W' z g h s :=
  ⟨(hb.block z (Array.getElem?_eq_some_iff.1 k.box).1).trans k.box, k.nest.below hb, k.opened.below hb, k.apart⟩
theorem TurnAt.zg {W : World} {z g h : Nat} {s : RdS} (k : TurnAt W z g h s) : z ≠ g := fun e => by
  have h1 := k.box; have h2 := k.nest; unfold IBlock at h2; rw [e, h2] at h1; injection h1 with h1; injection h1 with _ h1 _; revert h1; decide
theorem TurnAt.zh {W : World} {z g h : Nat} {s : RdS} (k : TurnAt W z g h s) : z ≠ h := fun e => by
  have h1 := k.box; have h2 := k.opened; unfold IBlock at h2; rw [e, h2] at h1; injection h1 with h1; injection h1 with _ h1 _; revert h1; decide
theorem TurnAt.cells {W : World} {z g h : Nat} {s : RdS} (k : TurnAt W z g h s) : W.cell? ⟨z, 0, none⟩ = some (.int .i64 s.now) ∧ W.cell? ⟨z, 1, none⟩ = some (.slice (some ⟨g, 0, none⟩) s.ns.length s.ns.length) ∧ W.cell? ⟨z, 2, none⟩ = some (.slice (some ⟨h, 0, none⟩) s.os.length s.os.length) := by
  have h' := k.box
  simp [World.cell?, h']
theorem TurnAt.mark {W : World} {z g h : Nat} {s : RdS} (k : TurnAt W z g h s) (i : Nat) : W.frozen? ⟨z, i, none⟩ = false := by
  have h' := k.box
  simp [World.frozen?, h']

theorem TurnAt.setNow {W : World} {z g h : Nat} {s : RdS} (k : TurnAt W z g h s) (x : Int) : TurnAt (W.setCell ⟨z, 0, none⟩ (.int .i64 x)) z g h ⟨x, s.ns, s.os⟩ := by
  have hk : Keeps (fun b => b = z) W (W.setCell ⟨z, 0, none⟩ (.int .i64 x)) := Keeps.setCell W (S := (· = z)) (p := ⟨z, 0, none⟩) rfl _
  refine ⟨?_, k.nest.keeps hk (fun e => k.zg e.symm), k.opened.keeps hk (fun e => k.zh e.symm), k.apart⟩
  rw [heap_setCell_same W z 0 _ _ _ k.box]
  rfl
theorem TurnAt.setNest {W : World} {z g h : Nat} {s : RdS} (k : TurnAt W z g h s) (i : Nat) (x : Int) : TurnAt (W.setCell ⟨g, i, none⟩ (.int .i64 x)) z g h ⟨s.now, s.ns.set i x, s.os⟩ := by
  have hk : Keeps (fun b => b = g) W (W.setCell ⟨g, i, none⟩ (.int .i64 x)) := Keeps.setCell W (S := (· = g)) (p := ⟨g, i, none⟩) rfl _
  refine ⟨?_, block_set k.nest i x, k.opened.keeps hk (fun e => k.apart e.symm), k.apart⟩
  simp only [List.length_set]
  exact (hk.block z (Array.getElem?_eq_some_iff.1 k.box).1 k.zg).trans k.box
theorem TurnAt.setOpened {W : World} {z g h : Nat} {s : RdS} (k : TurnAt W z g h s) (i : Nat) (x : Int) : TurnAt (W.setCell ⟨h, i, none⟩ (.int .i64 x)) z g h ⟨s.now, s.ns, s.os.set i x⟩ := by
  have hk : Keeps (fun b => b = h) W (W.setCell ⟨h, i, none⟩ (.int .i64 x)) := Keeps.setCell W (S := (· = h)) (p := ⟨h, i, none⟩) rfl _
  refine ⟨?_, k.nest.keeps hk k.apart, block_set k.opened i x, k.apart⟩
  simp only [List.length_set]
  exact (hk.block z (Array.getElem?_eq_some_iff.1 k.box).1 k.zh).trans k.box
theorem TurnAt.drewN {W : World} {z g h : Nat} {s : RdS} (k : TurnAt W z g h s) (n : Nat) : TurnAt (W.drewN n) z g h s := ⟨k.box, k.nest, k.opened, k.apart⟩
theorem TurnAt.alike {W W' : World} {z g h : Nat} {s : RdS} (k : TurnAt W z g h s) (hw : W'.heap = W.heap) : TurnAt W' z g h s := ⟨by rw [hw]; exact k.box, by unfold IBlock; rw [hw]; exact k.nest, by unfold IBlock; rw [hw]; exact k.opened, k.apart⟩

set_option maxHeartbeats 4000000 in
theorem enter_c (z g h : Nat) (s : RdS) (c : Int) (W : World) (k : TurnAt W z g h s) (hl : s.os.length = s.ns.length) (h8 : s.ns.length ≤ 8) (hnow : 0 ≤ s.now ∧ s.now ≤ 2147483647) (hr : ∀ x ∈ s.ns, 0 ≤ x ∧ x ≤ 8) :
    Calls Try.prog 79 #[.pointer (some ⟨z, 0, none⟩), .int .i64 c] W fun e w' => e = .returned (.int .i64 (stepE s c true)) ∧ Keeps (fun b => b = z ∨ b = g ∨ b = h) W w' ∧ (stepE s c true = 0 → TurnAt w' z g h (stepS s c true)) := by
  obtain ⟨now, ns, os⟩ := s
  simp only at hl h8 hnow hr
  have HC := Lib.hid (fun (Z : World) => has_c now c (some ⟨g, 0, none⟩) ns.length ns.length (.slice (some ⟨h, 0, none⟩) os.length os.length) Z)
  have HLL := Lib.hid hl
  clear hl
  obtain ⟨d0, d1, d2⟩ := k.cells
  simp only at d0 d1 d2
  by_cases hh : hasB ns.length c = true
  · have HK := Lib.hid k
    obtain ⟨i, rfl⟩ : ∃ i : Nat, c = (i : Int) := by unfold hasB at hh; simp only [Bool.and_eq_true, decide_eq_true_eq] at hh; exact Int.eq_ofNat_of_zero_le hh.1
    have hi : i < ns.length := by unfold hasB at hh; simp only [Bool.and_eq_true, decide_eq_true_eq] at hh; omega
    rw [hh] at HC
    have HH := Lib.hid hh
    have hx := k.nest.cell i hi
    simp only at hx
    obtain ⟨n, hn⟩ : ∃ n, n = ns[i] := ⟨_, rfl⟩
    have HD := Lib.hid (show ns.getD i 0 = n by rw [List.getD_eq_getElem?_getD, List.getElem?_eq_getElem hi, hn]; rfl)
    have hnr := hr n (by rw [hn]; exact List.getElem_mem hi)
    rw [← hn] at hx
    have hi0 : (0 : Int) ≤ (i : Int) := by omega
    have hil : (i : Int) < (ns.length : Int) := by omega
    clear hh k hr hn
    by_cases c1 : now = 2147483647
    · have hE : stepE ⟨now, ns, os⟩ (i : Int) true = 6 := by unfold stepE; simp only; rw [HH.out, if_neg (by simp), if_pos (.inl c1)]
      rw [hE]
      have hq : (now == 2147483647) = true := by rw [c1]; rfl
      clear hE c1
      go_enter Try.func79, Try.ntmps79
      go_wp2_with fail
      (with_reducible refine (HC.out W).mono ?_)
      rintro e w1 ⟨rfl, hb1⟩
      have HB := Lib.hid (Keeps.of_below (S := fun b => b = z ∨ b = g ∨ b = h) hb1)
      obtain ⟨e0, e1, e2⟩ := (HK.out.below hb1).cells
      clear hb1
      go_wp2
      go_ret
      exact ⟨rfl, HB.out, fun h => by cases h⟩
    · have hq : (now == 2147483647) = false := by rw [beq_eq_false_iff_ne]; exact c1
      by_cases c2 : n = 8
      · have hE : stepE ⟨now, ns, os⟩ (i : Int) true = 6 := by unfold stepE; simp only; rw [HH.out, if_neg (by simp), if_pos (.inr ⟨trivial, by rw [Int.toNat_natCast, HD.out, c2]⟩)]
        rw [hE]
        have hq2 : (n == 8) = true := by rw [c2]; rfl
        clear hE c1 c2
        go_enter Try.func79, Try.ntmps79
        go_wp2_with fail
        (with_reducible refine (HC.out W).mono ?_)
        rintro e w1 ⟨rfl, hb1⟩
        have HB := Lib.hid (Keeps.of_below (S := fun b => b = z ∨ b = g ∨ b = h) hb1)
        obtain ⟨e0, e1, e2⟩ := (HK.out.below hb1).cells
        have hx1 := below_cell hb1 hx
        clear hb1
        go_wp2
        go_ret
        exact ⟨rfl, HB.out, fun h => by cases h⟩
      · have hE : stepE ⟨now, ns, os⟩ (i : Int) true = 0 := by
          unfold stepE; simp only; rw [HH.out, if_neg (by simp), if_neg (by rintro (h | ⟨_, h⟩); exact c1 h; rw [Int.toNat_natCast, HD.out] at h; exact c2 h), if_neg (by simp)]
        rw [hE]
        have hq2 : (n == 8) = false := by rw [beq_eq_false_iff_ne]; exact c2
        have hnow1 : now < 2147483647 := by omega
        clear hE c1 c2
        go_enter Try.func79, Try.ntmps79
        go_wp2_with fail
        (with_reducible refine (HC.out W).mono ?_)
        rintro e w1 ⟨rfl, hb1⟩
        have HB := Lib.hid (Keeps.of_below (S := fun b => b = z ∨ b = g ∨ b = h) hb1)
        have k1 := HK.out.below hb1
        obtain ⟨e0, e1, e2⟩ := k1.cells
        have f0 := k1.mark 0
        have hx1 := below_cell hb1 hx
        have K2 := Lib.hid (k1.setNow (now + 1))
        obtain ⟨w2, hw2⟩ : ∃ X : World, X = w1.setCell ⟨z, 0, none⟩ (.int .i64 (now + 1)) := ⟨_, rfl⟩
        have HB2 := Lib.hid (show Keeps (fun b => b = z ∨ b = g ∨ b = h) W w2 by rw [hw2]; exact HB.out.trans (Keeps.setCell w1 (p := ⟨z, 0, none⟩) (.inl rfl) _))
        rw [← hw2] at K2
        have HW2 := Lib.hid hw2
        have hiO : i < os.length := by rw [HLL.out]; exact hi
        clear hb1 hw2 k1 HB
        go_upto_region 6 with fail
        rw [← HW2.out]
        clear e0 e1 e2 f0 hx1 HW2 hx d0 d1 d2
        obtain ⟨e0, e1, e2⟩ := K2.out.cells
        have hx2 := K2.out.nest.cell i hi
        simp only at e0 e1 e2 hx2
        rw [show ns[i] = n by have := HD.out; rwa [List.getD_eq_getElem?_getD, List.getElem?_eq_getElem hi] at this] at hx2
        by_cases c3 : n = 0
        · have hq3 : (n == 0) = true := by rw [c3]; rfl
          subst c3
          have hy2 := K2.out.opened.cell i hiO
          have f2 := K2.out.opened.free i
          simp only at hy2
          have hiL : (i : Int) < (os.length : Int) := by omega
          have HST := Lib.hid (show stepS ⟨now, ns, os⟩ (i : Int) true = ⟨now + 1, ns.set i (0 + 1), os.set i (now + 1)⟩ by unfold stepS; simp only [if_true, Int.toNat_natCast]; rw [HD.out, if_pos rfl])
          have K3 := Lib.hid (show TurnAt (w2.setCell ⟨h, i, none⟩ (.int .i64 (now + 1))).drew z g h ⟨now + 1, ns, os.set i (now + 1)⟩ from (K2.out.setOpened i (now + 1)).alike rfl)
          have HB3 := Lib.hid (show Keeps (fun b => b = z ∨ b = g ∨ b = h) W (w2.setCell ⟨h, i, none⟩ (.int .i64 (now + 1))).drew from (HB2.out.trans (Keeps.setCell w2 (S := fun b => b = z ∨ b = g ∨ b = h) (p := ⟨h, i, none⟩) (.inr (.inr rfl)) (.int .i64 (now + 1)))).drewN 1)
          obtain ⟨w3, hw3⟩ : ∃ X : World, X = (w2.setCell ⟨h, i, none⟩ (.int .i64 (now + 1))).drew := ⟨_, rfl⟩
          rw [← hw3] at K3 HB3
          have HW3 := Lib.hid hw3
          clear hw3 K2 HB2
          go_wp2
          go_region
          rw [← HW3.out]
          clear e0 e1 e2 hx2 hy2 f2 HW3
          obtain ⟨e0, e1, e2⟩ := K3.out.cells
          have hx2 := K3.out.nest.cell i hi
          simp only at e0 e1 e2 hx2
          rw [show ns[i] = 0 by have := HD.out; rwa [List.getD_eq_getElem?_getD, List.getElem?_eq_getElem hi] at this] at hx2
          have f2 := K3.out.nest.free i
          have K4 := Lib.hid (K3.out.setNest i (0 + 1))
          have HB4 := Lib.hid (HB3.out.trans (Keeps.setCell w3 (S := fun b => b = z ∨ b = g ∨ b = h) (p := ⟨g, i, none⟩) (.inr (.inl rfl)) (.int .i64 (0 + 1))))
          clear K3 HB3
          go_wp2
          go_ret
          exact ⟨rfl, HB4.out, by rw [HST.out]; exact K4.out⟩
        · have hq3 : (n == 0) = false := by rw [beq_eq_false_iff_ne]; exact c3
          have K3 := Lib.hid (K2.out.setNest i (n + 1))
          have HB3 := Lib.hid (HB2.out.trans (Keeps.setCell w2 (S := fun b => b = z ∨ b = g ∨ b = h) (p := ⟨g, i, none⟩) (.inr (.inl rfl)) (.int .i64 (n + 1))))
          have f2 := K2.out.nest.free i
          have HST := Lib.hid (show stepS ⟨now, ns, os⟩ (i : Int) true = ⟨now + 1, ns.set i (n + 1), os⟩ by unfold stepS; simp only [if_true, Int.toNat_natCast]; rw [HD.out, if_neg c3])
          clear c3 K2 HB2
          go_wp2
          go_ret
          exact ⟨rfl, HB3.out, by rw [HST.out]; exact K3.out⟩
  · have hh' : hasB ns.length c = false := by cases h : hasB ns.length c <;> simp_all
    have hE : stepE ⟨now, ns, os⟩ c true = 2 := by unfold stepE; rw [if_pos hh']
    rw [hE]
    rw [hh'] at HC
    clear hh hh' hE k
    go_enter Try.func79, Try.ntmps79
    go_wp2_with fail
    (with_reducible refine (HC.out W).mono ?_)
    rintro e w1 ⟨rfl, hb1⟩
    have HB := Lib.hid (Keeps.of_below (S := fun b => b = z ∨ b = g ∨ b = h) hb1)
    clear hb1
    go_wp2
    go_ret
    exact ⟨rfl, HB.out, fun h => by cases h⟩

end Go.Proofs.Ytdmcijfjnegcgaa
/-
  Package reader: the step by which a CPU leaves a section.
  Conditions: the ranges of Go's types.
-/
namespace Go.Proofs.Ytdmcijfjnegcgaa
set_option maxRecDepth 100000
open Go.RowKit Go.Shelf
attribute [local go_sem] Oper.semAt_some

set_option maxHeartbeats 4000000 in
theorem leave_c (z g h : Nat) (s : RdS) (c : Int) (W : World) (k : TurnAt W z g h s) (hl : s.os.length = s.ns.length) (h8 : s.ns.length ≤ 8) (hnow : 0 ≤ s.now ∧ s.now ≤ 2147483647) (hr : ∀ x ∈ s.ns, 0 ≤ x ∧ x ≤ 8) :
    Calls Try.prog 78 #[.pointer (some ⟨z, 0, none⟩), .int .i64 c] W fun e w' => e = .returned (.int .i64 (stepE s c false)) ∧ Keeps (fun b => b = z ∨ b = g ∨ b = h) W w' ∧ (stepE s c false = 0 → TurnAt w' z g h (stepS s c false)) := by
  obtain ⟨now, ns, os⟩ := s
  simp only at hl h8 hnow hr
  have HC := Lib.hid (fun (Z : World) => has_c now c (some ⟨g, 0, none⟩) ns.length ns.length (.slice (some ⟨h, 0, none⟩) os.length os.length) Z)
  have HLL := Lib.hid hl
  clear hl
  obtain ⟨d0, d1, d2⟩ := k.cells
  simp only at d0 d1 d2
  by_cases hh : hasB ns.length c = true
  · have HK := Lib.hid k
    obtain ⟨i, rfl⟩ : ∃ i : Nat, c = (i : Int) := by unfold hasB at hh; simp only [Bool.and_eq_true, decide_eq_true_eq] at hh; exact Int.eq_ofNat_of_zero_le hh.1
    have hi : i < ns.length := by unfold hasB at hh; simp only [Bool.and_eq_true, decide_eq_true_eq] at hh; omega
    rw [hh] at HC
    have HH := Lib.hid hh
    have hx := k.nest.cell i hi
    simp only at hx
    obtain ⟨n, hn⟩ : ∃ n, n = ns[i] := ⟨_, rfl⟩
    have HD := Lib.hid (show ns.getD i 0 = n by rw [List.getD_eq_getElem?_getD, List.getElem?_eq_getElem hi, hn]; rfl)
    have hnr := hr n (by rw [hn]; exact List.getElem_mem hi)
    rw [← hn] at hx
    have hi0 : (0 : Int) ≤ (i : Int) := by omega
    have hil : (i : Int) < (ns.length : Int) := by omega
    clear hh k hr hn
    by_cases c1 : now = 2147483647
    · have hE : stepE ⟨now, ns, os⟩ (i : Int) false = 6 := by unfold stepE; simp only; rw [HH.out, if_neg (by simp), if_pos (.inl c1)]
      rw [hE]
      have hq : (now == 2147483647) = true := by rw [c1]; rfl
      clear hE c1
      go_enter Try.func78, Try.ntmps78
      go_wp2_with fail
      (with_reducible refine (HC.out W).mono ?_)
      rintro e w1 ⟨rfl, hb1⟩
      have HB := Lib.hid (Keeps.of_below (S := fun b => b = z ∨ b = g ∨ b = h) hb1)
      obtain ⟨e0, e1, e2⟩ := (HK.out.below hb1).cells
      clear hb1
      go_wp2
      go_ret
      exact ⟨rfl, HB.out, fun h => by cases h⟩
    · have hq : (now == 2147483647) = false := by rw [beq_eq_false_iff_ne]; exact c1
      by_cases c2 : n = 0
      · have hE : stepE ⟨now, ns, os⟩ (i : Int) false = 4 := by unfold stepE; simp only; rw [HH.out, if_neg (by simp), if_neg (by rintro (h | ⟨h, _⟩); exact c1 h; cases h), if_pos ⟨trivial, by rw [Int.toNat_natCast, HD.out, c2]⟩]
        rw [hE]
        have hq2 : (n == 0) = true := by rw [c2]; rfl
        clear hE c1 c2
        go_enter Try.func78, Try.ntmps78
        go_wp2_with fail
        (with_reducible refine (HC.out W).mono ?_)
        rintro e w1 ⟨rfl, hb1⟩
        have HB := Lib.hid (Keeps.of_below (S := fun b => b = z ∨ b = g ∨ b = h) hb1)
        obtain ⟨e0, e1, e2⟩ := (HK.out.below hb1).cells
        have hx1 := below_cell hb1 hx
        clear hb1
        go_wp2
        go_ret
        exact ⟨rfl, HB.out, fun h => by cases h⟩
      · have hE : stepE ⟨now, ns, os⟩ (i : Int) false = 0 := by
          unfold stepE; simp only; rw [HH.out, if_neg (by simp), if_neg (by rintro (h | ⟨h, _⟩); exact c1 h; cases h), if_neg (by rintro ⟨_, h⟩; rw [Int.toNat_natCast, HD.out] at h; exact c2 h)]
        rw [hE]
        have hq2 : (n == 0) = false := by rw [beq_eq_false_iff_ne]; exact c2
        have hnow1 : now < 2147483647 := by omega
        have hn1 : 1 ≤ n := by omega
        clear hE c1 c2
        go_enter Try.func78, Try.ntmps78
        go_wp2_with fail
        (with_reducible refine (HC.out W).mono ?_)
        rintro e w1 ⟨rfl, hb1⟩
        have HB := Lib.hid (Keeps.of_below (S := fun b => b = z ∨ b = g ∨ b = h) hb1)
        have k1 := HK.out.below hb1
        obtain ⟨e0, e1, e2⟩ := k1.cells
        have f0 := k1.mark 0
        have hx1 := below_cell hb1 hx
        have K2 := Lib.hid (k1.setNow (now + 1))
        obtain ⟨w2, hw2⟩ : ∃ X : World, X = w1.setCell ⟨z, 0, none⟩ (.int .i64 (now + 1)) := ⟨_, rfl⟩
        have HB2 := Lib.hid (show Keeps (fun b => b = z ∨ b = g ∨ b = h) W w2 by rw [hw2]; exact HB.out.trans (Keeps.setCell w1 (p := ⟨z, 0, none⟩) (.inl rfl) _))
        rw [← hw2] at K2
        have HW2 := Lib.hid hw2
        have hiO : i < os.length := by rw [HLL.out]; exact hi
        clear hb1 hw2 k1 HB
        go_upto_region 8 with fail
        rw [← HW2.out]
        clear e0 e1 e2 f0 hx1 HW2 hx d0 d1 d2
        obtain ⟨e0, e1, e2⟩ := K2.out.cells
        have hx2 := K2.out.nest.cell i hi
        simp only at e0 e1 e2 hx2
        rw [show ns[i] = n by have := HD.out; rwa [List.getD_eq_getElem?_getD, List.getElem?_eq_getElem hi] at this] at hx2
        have f2 := K2.out.nest.free i
        have K3 := Lib.hid (K2.out.setNest i (n - 1))
        have HB3 := Lib.hid (HB2.out.trans (Keeps.setCell w2 (S := fun b => b = z ∨ b = g ∨ b = h) (p := ⟨g, i, none⟩) (.inr (.inl rfl)) (.int .i64 (n - 1))))
        obtain ⟨w3, hw3⟩ : ∃ X : World, X = w2.setCell ⟨g, i, none⟩ (.int .i64 (n - 1)) := ⟨_, rfl⟩
        rw [← hw3] at K3 HB3
        have HW3 := Lib.hid hw3
        clear hw3 K2 HB2
        go_upto_region 9 with fail
        rw [← HW3.out]
        clear e0 e1 e2 hx2 f2 HW3
        obtain ⟨e0, e1, e2⟩ := K3.out.cells
        have hx2 := K3.out.nest.cell i (by simp only [List.length_set]; exact hi)
        simp only [List.getElem_set_self, List.length_set] at e0 e1 e2 hx2
        by_cases c3 : n = 1
        · subst c3
          have hy2 := K3.out.opened.free i
          have hy3 := K3.out.opened.cell i hiO
          have hiL : (i : Int) < (os.length : Int) := by omega
          have HST := Lib.hid (show stepS ⟨now, ns, os⟩ (i : Int) false = ⟨now + 1, ns.set i (1 - 1), os.set i 0⟩ by unfold stepS; simp only [if_false, Bool.false_eq_true, Int.toNat_natCast]; rw [HD.out, if_pos rfl])
          have K4 := Lib.hid (K3.out.setOpened i 0)
          have HB4 := Lib.hid (HB3.out.trans (Keeps.setCell w3 (S := fun b => b = z ∨ b = g ∨ b = h) (p := ⟨h, i, none⟩) (.inr (.inr rfl)) (.int .i64 0)))
          clear K3 HB3
          go_wp2
          go_ret
          exact ⟨rfl, HB4.out, by rw [HST.out]; exact K4.out⟩
        · have hq3 : (n - 1 == 0) = false := by rw [beq_eq_false_iff_ne]; omega
          have HST := Lib.hid (show stepS ⟨now, ns, os⟩ (i : Int) false = ⟨now + 1, ns.set i (n - 1), os⟩ by unfold stepS; simp only [if_false, Bool.false_eq_true, Int.toNat_natCast]; rw [HD.out, if_neg c3])
          clear c3
          go_wp2
          go_ret
          exact ⟨rfl, HB3.out, by rw [HST.out]; exact K3.out⟩
  · have hh' : hasB ns.length c = false := by cases h : hasB ns.length c <;> simp_all
    have hE : stepE ⟨now, ns, os⟩ c false = 2 := by unfold stepE; rw [if_pos hh']
    rw [hE]
    rw [hh'] at HC
    clear hh hh' hE k
    go_enter Try.func78, Try.ntmps78
    go_wp2_with fail
    (with_reducible refine (HC.out W).mono ?_)
    rintro e w1 ⟨rfl, hb1⟩
    have HB := Lib.hid (Keeps.of_below (S := fun b => b = z ∨ b = g ∨ b = h) hb1)
    clear hb1
    go_wp2
    go_ret
    exact ⟨rfl, HB.out, fun h => by cases h⟩

end Go.Proofs.Ytdmcijfjnegcgaa
/-
  Package reader: rows of readings, and what readers come to behind them.
  Conditions: none.
-/
namespace Go.Proofs.Ytdmcijfjnegcgaa
open Go.RowKit Go.Shelf
attribute [local go_sem] Oper.semAt_some

def runS (s : RdS) (l : List (Int × Bool)) : RdS := l.foldl (fun s x => stepS s x.1 x.2) s
/-- No step of the row has an error. -/
def okTo : RdS → List (Int × Bool) → Prop
  | _, [] => True
  | s, x :: l => stepE s x.1 x.2 = 0 ∧ okTo (stepS s x.1 x.2) l
theorem runS_snoc (s : RdS) (l : List (Int × Bool)) (x : Int × Bool) : runS s (l ++ [x]) = stepS (runS s l) x.1 x.2 := by unfold runS; rw [List.foldl_append]; rfl
theorem okTo_snoc : ∀ (l : List (Int × Bool)) (s : RdS) (x : Int × Bool), okTo s (l ++ [x]) ↔ okTo s l ∧ stepE (runS s l) x.1 x.2 = 0
  | [], s, x => by simp [okTo, runS]
  | y :: l, s, x => by
    simp only [List.cons_append, okTo]
    rw [okTo_snoc l]
    simp only [runS, List.foldl_cons, and_assoc]

/-- A slice that reads as these readings. -/
def RgsAt (W : World) (v : Value) (ls : List (Int × Bool)) : Prop := ∃ p cap, v = .slice p ls.length cap ∧
  (ls ≠ [] → ∃ b off, p = some ⟨b, off, none⟩ ∧ ∀ i (h : i < ls.length), W.cell? ⟨b, off + i * 2, none⟩ = some (.int .i64 ls[i].1) ∧ W.cell? ⟨b, off + i * 2 + 1, none⟩ = some (.bool ls[i].2))
theorem RgsAt.below {W W' : World} {v : Value} {ls : List (Int × Bool)} (h : RgsAt W v ls) (hb : Below W.heap.size W W') : RgsAt W' v ls := by
  obtain ⟨p, cap, e, hc⟩ := h
  refine ⟨p, cap, e, fun hne => ?_⟩
  obtain ⟨b, off, e2, hcs⟩ := hc hne
  exact ⟨b, off, e2, fun i hi => ⟨below_cell hb (hcs i hi).1, below_cell hb (hcs i hi).2⟩⟩
theorem RgsAt.lt {W : World} {p : Option Addr} {n cap : Nat} {ls : List (Int × Bool)} (h : RgsAt W (.slice p n cap) ls) : ∀ a, p = some a → ls ≠ [] → a.block < W.heap.size := fun a ha hne => by
  obtain ⟨q, c, e, hc⟩ := h
  injection e with e1 e2 e3
  subst e1
  obtain ⟨b, off, e2, hcs⟩ := hc hne
  rw [ha] at e2; injection e2 with e2; subst e2
  obtain ⟨i, hi⟩ : ∃ i : Nat, i < ls.length := ⟨0, by cases ls with | nil => exact absurd rfl hne | cons _ _ => simp⟩
  have h9 := World.block_lt_of_cell? W _ (hcs i hi).1
  exact h9
theorem RgsAt.keeps {S : Nat → Prop} {W W' : World} {v : Value} {ls : List (Int × Bool)} (h : RgsAt W v ls) (hk : Keeps S W W') (B : Nat) (hS : ∀ k, S k → B ≤ k) (hB : ∀ a n c, v = .slice (some a) n c → ls ≠ [] → a.block < B) : RgsAt W' v ls := by
  obtain ⟨p, cap, rfl, hc⟩ := h
  refine ⟨p, cap, rfl, fun hne => ?_⟩
  obtain ⟨b, off, rfl, hcs⟩ := hc hne
  have hb := hB _ _ _ rfl hne
  have hn : ¬ S b := fun h => by have := hS b h; simp only at hb; omega
  exact ⟨b, off, rfl, fun i hi => ⟨hk.cell (hcs i hi).1 hn, hk.cell (hcs i hi).2 hn⟩⟩

theorem run_fmap {α β : Type} {P : Program} (f : α → β) (s : Sem α) (w : World) : Sem.run P (f <$> s) w = (Sem.run P s w).andThen fun a w' => .ok (f a) w' := by
  show Sem.run P (s >>= fun a => pure (f a)) w = _
  rw [Sem.run_bind]
  rfl
def zeroR : Value := .agg #[.int .i64 0, .slice none 0 0, .slice none 0 0]
theorem results_ctt {fn : Func} {a b c : Tmp} {t : TypeId} (h : fn.results = #[.cell a t, .tmp b, .tmp c]) (tmps : Array Value) (P : Program) (w : World) {p : Addr} {x y z : Value} (ha : tmps.getD a undef = .pointer (some p)) (hb : tmps.getD b undef = y) (hc : tmps.getD c undef = z)
    (hx : (loadVar t p).run P w = .ok x w) : (results fn tmps).run P w = .ok (.tuple #[x, y, z]) w := by
  unfold results
  rw [h]
  simp only [Array.mapM_eq_foldlM, List.foldlM_toArray, List.foldlM_cons, List.foldlM_nil, ha, hb, hc, asAddr, run_fmap, Sem.run_bind, Sem.run_pure, Result.andThen_ok, hx]
  rfl
theorem results_ct {fn : Func} {a b : Tmp} {t : TypeId} (h : fn.results = #[.cell a t, .tmp b]) (tmps : Array Value) (P : Program) (w : World) {p : Addr} {x y : Value} (ha : tmps.getD a undef = .pointer (some p)) (hb : tmps.getD b undef = y)
    (hx : (loadVar t p).run P w = .ok x w) : (results fn tmps).run P w = .ok (.tuple #[x, y]) w := by
  unfold results
  rw [h]
  simp only [Array.mapM_eq_foldlM, List.foldlM_toArray, List.foldlM_cons, List.foldlM_nil, ha, hb, asAddr, run_fmap, Sem.run_bind, Sem.run_pure, Result.andThen_ok, hx]
  rfl
theorem readers_info : (Try.prog.info? 45).map (·.size) = some 3 := by kernel_rfl
theorem readers_load {W : World} {z : Nat} {b : Int} {u v : Value} (h : RBox W z b u v) : (loadVar 45 ⟨z, 0, none⟩).run Try.prog W = .ok (.agg #[.int .i64 b, u, v]) W := by
  obtain ⟨h0, h1, h2⟩ := h.cells
  refine run_loadVar_mid W z 0 45 [.int .i64 b, u, v] _ (fun j u hj => ?_) Try.underlying45 rfl readers_info
  rw [Nat.zero_add]
  match j, hj with
  | 0, hj => cases hj; exact h0
  | 1, hj => cases hj; exact h1
  | 2, hj => cases hj; exact h2
  | (k + 3), hj => simp at hj
theorem RBox.result3 {fn : Func} {W : World} {z : Nat} {b : Int} {u v x y : Value} (h : RBox W z b u v) (hf : fn.results = #[.cell 4 45, .tmp 5, .tmp 6]) (tmps : Array Value) (h2 : tmps.getD 4 undef = .pointer (some ⟨z, 0, none⟩)) (h3 : tmps.getD 5 undef = x) (h4 : tmps.getD 6 undef = y) :
    (results fn tmps).run Try.prog W = .ok (.tuple #[.agg #[.int .i64 b, u, v], x, y]) W := results_ctt hf tmps _ _ h2 h3 h4 (readers_load h)
theorem RBox.result2 {fn : Func} {W : World} {z : Nat} {b : Int} {u v x : Value} (h : RBox W z b u v) (hf : fn.results = #[.cell 4 45, .tmp 5]) (tmps : Array Value) (h2 : tmps.getD 4 undef = .pointer (some ⟨z, 0, none⟩)) (h3 : tmps.getD 5 undef = x) :
    (results fn tmps).run Try.prog W = .ok (.tuple #[.agg #[.int .i64 b, u, v], x]) W := results_ct hf tmps _ _ h2 h3 (readers_load h)
theorem RBox.result1 {fn : Func} {W : World} {z : Nat} {a : Tmp} {b : Int} {u v : Value} (h : RBox W z b u v) (hf : fn.results = #[.cell a 45]) (tmps : Array Value) (h2 : tmps.getD a undef = .pointer (some ⟨z, 0, none⟩)) :
    (results fn tmps).run Try.prog W = .ok (.agg #[.int .i64 b, u, v]) W := by
  unfold results
  rw [hf]
  simp only [Array.mapM_eq_foldlM, List.foldlM_toArray, List.foldlM_cons, List.foldlM_nil, h2, asAddr, run_fmap, Sem.run_bind, Sem.run_pure, Result.andThen_ok, readers_load h]
  rfl
theorem build_turn (x y z : Value) (w : World) : (Instr.build 111 #[(0, .agg #[x, y, z])]).run Try.prog w = .ok (.agg #[x, y, z]) w := by
  kernel_rfl

/-- The two boxes with which Run begins. -/
def wR (W : World) (now : Int) (u v : Value) : World := (W.alloc (.cells #[.int .i64 now, u, v] 45)).alloc (.cells #[.int .i64 0, .slice none 0 0, .slice none 0 0] 45)
theorem wR_facts (W : World) (now : Int) (u v : Value) : RBox (wR W now u v) W.heap.size now u v ∧ RBox (wR W now u v) (W.heap.size + 1) 0 (.slice none 0 0) (.slice none 0 0) ∧ Below W.heap.size W (wR W now u v) ∧ (wR W now u v).heap.size = W.heap.size + 2 := by
  refine ⟨(RBox.new W now u v).below (below1 _ _), ?_, below2 _ _ _, by unfold wR; simp⟩
  have := RBox.new (W.alloc (.cells #[.int .i64 now, u, v] 45)) 0 (.slice none 0 0) (.slice none 0 0)
  rwa [World.size_alloc] at this

end Go.Proofs.Ytdmcijfjnegcgaa
/-
  Package reader: which readers may be, place by place; and that a step leaves readers that may be.
  Conditions: none.
-/
namespace Go.Proofs.Ytdmcijfjnegcgaa

def nN (s : RdS) (i : Nat) : Int := s.ns.getD i 0
def oO (s : RdS) (i : Nat) : Int := s.os.getD i 0
structure Good (s : RdS) : Prop where
  l1 : 1 ≤ s.ns.length
  l8 : s.ns.length ≤ 8
  lo : s.os.length = s.ns.length
  n0 : 0 ≤ s.now
  n1 : s.now ≤ 2147483647
  each : ∀ i, i < s.ns.length → (nN s i = 0 ∧ oO s i = 0) ∨ (1 ≤ nN s i ∧ nN s i ≤ 8 ∧ 1 ≤ oO s i ∧ oO s i ≤ s.now)
  apart : ∀ i j, i < j → j < s.ns.length → oO s i ≠ 0 → oO s i ≠ oO s j

theorem getD_lt {l : List Int} {i : Nat} (h : i < l.length) : l.getD i 0 = l[i] := by rw [List.getD_eq_getElem?_getD, List.getElem?_eq_getElem h]; rfl
theorem getD_set (l : List Int) (k : Nat) (x : Int) (i : Nat) : (l.set k x).getD i 0 = if i = k ∧ k < l.length then x else l.getD i 0 := by
  rw [List.getD_eq_getElem?_getD, List.getD_eq_getElem?_getD, List.getElem?_set]
  by_cases h : k = i
  · subst h
    by_cases h2 : k < l.length
    · simp [h2]
    · simp [h2]
  · rw [if_neg h, if_neg (fun e => h e.1.symm)]
theorem zip_at (s : RdS) (hl : s.os.length = s.ns.length) (i : Nat) (h : i < (s.ns.zip s.os).length) : (s.ns.zip s.os)[i] = (nN s i, oO s i) := by
  have h1 : i < s.ns.length := by simp at h; omega
  rw [List.getElem_zip]
  unfold nN oO
  rw [getD_lt h1, getD_lt (by omega)]
theorem secB_iff (a p : Int) : secB a p = true ↔ ¬ (a = 0 ∧ p = 0) := by unfold secB; rw [Bool.not_eq_true', decide_eq_false_iff_not]
theorem okS_iff (now : Int) (l : List (Int × Int)) : okS now (secs l) = true ↔ (∀ x ∈ l, x = (0, 0) ∨ (1 ≤ x.1 ∧ x.1 ≤ 8 ∧ 1 ≤ x.2 ∧ x.2 ≤ now)) ∧ ∀ i j (hi : i < l.length) (hj : j < l.length), i < j → l[i] ≠ (0, 0) → l[j] ≠ (0, 0) → l[i].2 ≠ l[j].2 := by
  unfold okS secs
  rw [Bool.and_eq_true, List.all_filter, List.all_eq_true, decide_eq_true_eq, List.Nodup, List.pairwise_map, List.pairwise_filter, List.pairwise_iff_getElem]
  have e : ∀ x : Int × Int, x = (0, 0) ↔ x.1 = 0 ∧ x.2 = 0 := fun ⟨a, b⟩ => by simp
  constructor
  · rintro ⟨h1, h2⟩
    refine ⟨fun x hx => ?_, fun i j hi hj hij hx hy => h2 i j hi hj hij ((secB_iff _ _).2 (fun h => hx ((e _).2 h))) ((secB_iff _ _).2 (fun h => hy ((e _).2 h)))⟩
    have := h1 x hx
    by_cases hz : x = (0, 0)
    · exact .inl hz
    · rw [show secB x.1 x.2 = true from (secB_iff _ _).2 (fun h => hz ((e _).2 h))] at this
      simp only [okOne, Bool.not_true, Bool.false_or, Bool.and_eq_true, decide_eq_true_eq] at this
      exact .inr (by omega)
  · rintro ⟨h1, h2⟩
    refine ⟨fun x hx => ?_, fun i j hi hj hij hx hy => h2 i j hi hj hij (fun h => (secB_iff _ _).1 hx ((e _).1 h)) (fun h => (secB_iff _ _).1 hy ((e _).1 h))⟩
    rcases h1 x hx with rfl | h
    · simp [secB]
    · simp only [okOne, Bool.or_eq_true, Bool.and_eq_true, decide_eq_true_eq]
      exact .inr (by omega)
theorem good_iff (s : RdS) : mayB s.now s.ns s.os = true ↔ Good s := by
  unfold mayB mayCpus
  simp only [Bool.and_eq_true, decide_eq_true_eq]
  constructor
  · rintro ⟨h1, h2, h3, h4, h5⟩
    obtain ⟨h6, h7⟩ := (okS_iff _ _).1 h5
    have hz : (s.ns.zip s.os).length = s.ns.length := by simp; omega
    refine ⟨by omega, by omega, h2, h3, h4, fun i hi => ?_, fun i j hij hj h0 he => ?_⟩
    · have := h6 (s.ns.zip s.os)[i] (List.getElem_mem _)
      rw [zip_at s h2] at this
      simpa using this
    · have hj' := h6 (s.ns.zip s.os)[j] (List.getElem_mem _)
      have := h7 i j (by omega) (by omega) hij
      rw [zip_at s h2, zip_at s h2] at this
      refine this (fun e => h0 (congrArg Prod.snd e)) (fun e => ?_) he
      have := congrArg Prod.snd e
      simp only at this
      exact h0 (he.trans this)
  · intro g
    have hz : (s.ns.zip s.os).length = s.ns.length := by have := g.lo; simp; omega
    refine ⟨⟨by have := g.l1; omega, by have := g.l8; omega⟩, g.lo, g.n0, g.n1, (okS_iff _ _).2 ⟨fun x hx => ?_, fun i j hi hj hij hx hy => ?_⟩⟩
    · obtain ⟨i, hi, rfl⟩ := List.getElem_of_mem hx
      rw [zip_at s g.lo]
      simpa using g.each i (by omega)
    · rw [zip_at s g.lo] at hx hy ⊢
      rw [zip_at s g.lo]
      have h1 := g.each i (by omega)
      have : oO s i ≠ 0 := fun e => by
        rcases h1 with ⟨ha, hb⟩ | h
        · exact hx (by rw [ha, hb])
        · omega
      exact g.apart i j hij (by omega) this
theorem Good.range {s : RdS} (g : Good s) : ∀ x ∈ s.ns, 0 ≤ x ∧ x ≤ 8 := fun x hx => by
  obtain ⟨i, hi, rfl⟩ := List.getElem_of_mem hx
  have := g.each i hi
  unfold nN at this
  rw [getD_lt hi] at this
  omega
theorem Good.rangeO {s : RdS} (g : Good s) : ∀ x ∈ s.os, I64 x := fun x hx => by
  obtain ⟨i, hi, rfl⟩ := List.getElem_of_mem hx
  have := g.each i (by have := g.lo; omega)
  unfold oO at this
  rw [getD_lt hi] at this
  have := g.n1
  unfold I64
  omega
theorem has_iff (k : Nat) (c : Int) : hasB k c = true ↔ ∃ i : Nat, c = (i : Int) ∧ i < k := by
  unfold hasB
  simp only [Bool.and_eq_true, decide_eq_true_eq]
  exact ⟨fun h => ⟨c.toNat, by omega, by omega⟩, fun ⟨i, h1, h2⟩ => by omega⟩
/-- What a step without an error is of. -/
theorem stepE_zero {s : RdS} {c : Int} {en : Bool} (h : stepE s c en = 0) : ∃ i : Nat, c = (i : Int) ∧ i < s.ns.length ∧ s.now ≠ 2147483647 ∧ (en = true → nN s i ≠ 8) ∧ (en = false → nN s i ≠ 0) := by
  unfold stepE at h
  split at h
  · cases h
  rename_i h1
  split at h
  · cases h
  rename_i h2
  split at h
  · cases h
  rename_i h3
  obtain ⟨i, rfl, hi⟩ := (has_iff _ _).1 (by simpa using h1)
  rw [Int.toNat_natCast] at h2 h3
  exact ⟨i, rfl, hi, fun e => h2 (.inl e), fun e e2 => h2 (.inr ⟨e, e2⟩), fun e e2 => h3 ⟨e, e2⟩⟩
theorem stepS_now (s : RdS) (c : Int) (en : Bool) : (stepS s c en).now = s.now + 1 := by unfold stepS; split <;> rfl
theorem stepS_len (s : RdS) (c : Int) (en : Bool) : (stepS s c en).ns.length = s.ns.length ∧ (stepS s c en).os.length = s.os.length := by
  unfold stepS
  split <;> simp only [List.length_set] <;> split <;> simp
theorem stepS_n (s : RdS) (i : Nat) (en : Bool) (hi : i < s.ns.length) (j : Nat) : nN (stepS s i en) j = if j = i then (if en = true then nN s i + 1 else nN s i - 1) else nN s j := by
  unfold stepS nN
  cases en
  · simp only [Bool.false_eq_true, if_false, Int.toNat_natCast]
    rw [getD_set]
    by_cases h : j = i
    · rw [if_pos ⟨h, hi⟩, if_pos h]
    · rw [if_neg (fun e => h e.1), if_neg h]
  · simp only [if_true, Int.toNat_natCast]
    rw [getD_set]
    by_cases h : j = i
    · rw [if_pos ⟨h, hi⟩, if_pos h]
    · rw [if_neg (fun e => h e.1), if_neg h]
theorem stepS_o (s : RdS) (i : Nat) (en : Bool) (hi : i < s.os.length) (j : Nat) : oO (stepS s i en) j = if j = i then (if en = true then (if nN s i = 0 then s.now + 1 else oO s i) else (if nN s i = 1 then 0 else oO s i)) else oO s j := by
  unfold stepS oO nN
  cases en
  · simp only [Bool.false_eq_true, if_false, Int.toNat_natCast]
    by_cases h1 : s.ns.getD i 0 = 1
    · rw [if_pos h1, if_pos h1, getD_set]
      by_cases h : j = i
      · rw [if_pos ⟨h, hi⟩, if_pos h]
      · rw [if_neg (fun e => h e.1), if_neg h]
    · rw [if_neg h1, if_neg h1]
      by_cases h : j = i
      · rw [if_pos h, h]
      · rw [if_neg h]
  · simp only [if_true, Int.toNat_natCast]
    by_cases h1 : s.ns.getD i 0 = 0
    · rw [if_pos h1, if_pos h1, getD_set]
      by_cases h : j = i
      · rw [if_pos ⟨h, hi⟩, if_pos h]
      · rw [if_neg (fun e => h e.1), if_neg h]
    · rw [if_neg h1, if_neg h1]
      by_cases h : j = i
      · rw [if_pos h, h]
      · rw [if_neg h]
theorem Good.step {s : RdS} {c : Int} {en : Bool} (g : Good s) (h : stepE s c en = 0) : Good (stepS s c en) := by
  obtain ⟨i, rfl, hi, hnow, h8, h0⟩ := stepE_zero h
  have hio : i < s.os.length := by have := g.lo; omega
  have hl := stepS_len s i en
  have hi1 := g.each i hi
  have hn1 := g.n1
  have hn0 := g.n0
  refine ⟨by rw [hl.1]; exact g.l1, by rw [hl.1]; exact g.l8, by rw [hl.1, hl.2]; exact g.lo, by rw [stepS_now]; omega, by rw [stepS_now]; omega, fun j hj => ?_, fun j k hjk hk => ?_⟩
  · rw [hl.1] at hj
    have hj1 := g.each j hj
    rw [stepS_n s i en hi, stepS_o s i en hio, stepS_now]
    by_cases e : j = i
    · subst e
      rw [if_pos rfl, if_pos rfl]
      cases en
      · have := h0 rfl
        simp only [Bool.false_eq_true, if_false]
        split <;> omega
      · have := h8 rfl
        simp only [if_true]
        split <;> omega
    · rw [if_neg e, if_neg e]
      omega
  · rw [hl.1] at hk
    rw [stepS_o s i en hio, stepS_o s i en hio]
    have hj1 := g.each j (by omega)
    have hk1 := g.each k hk
    have ha := g.apart j k hjk hk
    by_cases e : j = i
    · subst e
      rw [if_pos (rfl : j = j), if_neg (show ¬ k = j by omega)]
      cases en
      · simp only [Bool.false_eq_true, if_false]
        split
        · exact fun h => absurd rfl h
        · exact ha
      · simp only [if_true]
        split
        · intro _; omega
        · exact ha
    · rw [if_neg e]
      by_cases e2 : k = i
      · subst e2
        rw [if_pos (rfl : k = k)]
        cases en
        · simp only [Bool.false_eq_true, if_false]
          split
          · exact fun h => h
          · exact ha
        · simp only [if_true]
          split
          · intro _; omega
          · exact ha
      · rw [if_neg e2]
        exact ha
theorem Good.run {s : RdS} (g : Good s) : ∀ (l : List (Int × Bool)), okTo s l → Good (runS s l)
  | l, h => by
    induction l generalizing s with
    | nil => exact g
    | cons x l ih =>
      simp only [okTo] at h
      exact ih (g.step h.1) h.2

end Go.Proofs.Ytdmcijfjnegcgaa
/-
  Package reader: Run.
  Conditions: the ranges of Go's types.
-/
namespace Go.Proofs.Ytdmcijfjnegcgaa
set_option maxRecDepth 100000
open Go.RowKit Go.Shelf
attribute [local go_sem] Oper.semAt_some

set_option maxHeartbeats 4000000 in
theorem run_no (now : Int) (u v lv : Value) (ns os : List Int) (W : World) (hn : NumsAt W .i64 u ns) (ho : NumsAt W .i64 v os) (h1 : ns.length ≤ 9223372036854775807) (h2 : os.length ≤ 9223372036854775807) (hr : ∀ x ∈ os, I64 x) (hm : mayB now ns os = false) :
    Calls Try.prog 67 #[.agg #[.int .i64 now, u, v], lv] W fun e w' => e = .returned (.tuple #[zeroR, .int .i64 0, .int .i64 210]) ∧ Below W.heap.size W w' := by
  have HF := Lib.hid (wR_facts W now u v)
  obtain ⟨w0, hw0⟩ : ∃ X, X = wR W now u v := ⟨_, rfl⟩
  rw [← hw0] at HF
  unfold wR at hw0
  have HC := Lib.hid (may_c now u v ns os w0 (nums_below hn HF.out.2.2.1) (nums_below ho HF.out.2.2.1) h1 h2 hr)
  rw [hm] at HC
  obtain ⟨d0, d1, d2⟩ := HF.out.1.cells
  obtain ⟨p, c, rfl, -⟩ := hn
  obtain ⟨q, d, rfl, -⟩ := ho
  clear hm h1 h2 hr
  go_enter Try.func67, Try.ntmps67
  go_wp2_with fail
  rw [← hw0]
  clear hw0
  (with_reducible refine HC.out.mono ?_)
  rintro e w1 ⟨rfl, hb1⟩
  have HZ1 := Lib.hid (HF.out.2.1.below hb1)
  have HB1 := Lib.hid (below_then HF.out.2.2.1 HF.out.2.2.1.size hb1)
  obtain ⟨g0, g1, g2⟩ := HZ1.out.cells
  have m0 := HZ1.out.marks 0
  have m1 := HZ1.out.marks 1
  have m2 := HZ1.out.marks 2
  have HP := Lib.hid (HZ1.out.put 0 (.slice none 0 0) (.slice none 0 0))
  have HK := Lib.hid (RBox.putK w1 (W.heap.size + 1) 0 (.slice none 0 0) (.slice none 0 0))
  obtain ⟨w3, hw3⟩ : ∃ X : World, X = (((w1.setCell ⟨W.heap.size + 1, 0, none⟩ (.int .i64 0)).setCell ⟨W.heap.size + 1, 1, none⟩ (.slice none 0 0)).setCell ⟨W.heap.size + 1, 2, none⟩ (.slice none 0 0)) := ⟨_, rfl⟩
  rw [← hw3] at HP HK
  have HW3 := Lib.hid hw3
  clear hw3 hb1 HC d0 d1 d2
  go_wp2
  rw [← HW3.out]
  exact bodyPost_ret (v := .tuple #[zeroR, .int .i64 0, .int .i64 210]) (HP.out.result3 rfl _ rfl rfl rfl) rfl ⟨rfl, HB1.out.trans (HK.out.below HB1.out.size (fun k e => by omega))⟩

/-- What Run answers, of readers that may be. -/
def RunRes (B : Nat) (s : RdS) (l : List (Int × Bool)) (e : Ending) (w' : World) : Prop :=
  (∃ i, ∃ h : i < l.length, okTo s (l.take i) ∧ stepE (runS s (l.take i)) l[i].1 l[i].2 ≠ 0 ∧ e = .returned (.tuple #[zeroR, .int .i64 ((i : Int) + 1), .int .i64 (stepE (runS s (l.take i)) l[i].1 l[i].2)])) ∨
  (okTo s l ∧ ∃ g h : Nat, B ≤ g ∧ B ≤ h ∧ g ≠ h ∧ e = .returned (.tuple #[.agg #[.int .i64 (runS s l).now, .slice (some ⟨g, 0, none⟩) (runS s l).ns.length (runS s l).ns.length, .slice (some ⟨h, 0, none⟩) (runS s l).os.length (runS s l).os.length], .int .i64 (l.length : Int), .int .i64 0]) ∧ IBlock w' g (runS s l).ns ∧ IBlock w' h (runS s l).os)

set_option maxHeartbeats 8000000 in
theorem run_yes (s : RdS) (u v lv : Value) (l : List (Int × Bool)) (W : World) (hn : NumsAt W .i64 u s.ns) (ho : NumsAt W .i64 v s.os) (hlv : RgsAt W lv l) (hll : l.length ≤ 1000000000) (g : Good s) :
    Calls Try.prog 67 #[.agg #[.int .i64 s.now, u, v], lv] W fun e w' => RunRes W.heap.size s l e w' ∧ Below W.heap.size W w' := by
  have hr := g.rangeO
  have hm := (good_iff s).2 g
  have h8 := g.l8
  have hoo := g.lo
  have HG := Lib.hid g
  clear g
  have HF := Lib.hid (wR_facts W s.now u v)
  obtain ⟨w0, hw0⟩ : ∃ X, X = wR W s.now u v := ⟨_, rfl⟩
  rw [← hw0] at HF
  unfold wR at hw0
  have HN0 := Lib.hid (And.intro (nums_below hn HF.out.2.2.1) (nums_below ho HF.out.2.2.1))
  have HC := Lib.hid (may_c s.now u v s.ns s.os w0 HN0.out.1 HN0.out.2 (by omega) (by omega) hr)
  rw [hm] at HC
  have HLV := Lib.hid (And.intro hlv hoo)
  obtain ⟨d0, d1, d2⟩ := HF.out.1.cells
  obtain ⟨p, c, rfl, -⟩ := hn
  obtain ⟨q, d, rfl, -⟩ := ho
  obtain ⟨pl, cl, rfl, -⟩ := hlv
  clear hm hr hoo
  go_enter Try.func67, Try.ntmps67
  go_wp2_with fail
  rw [← hw0]
  clear hw0
  (with_reducible refine HC.out.mono ?_)
  rintro e w1 ⟨rfl, hb1⟩
  have HF1 := Lib.hid (show RBox w1 W.heap.size s.now (.slice p s.ns.length c) (.slice q s.os.length d) ∧ RBox w1 (W.heap.size + 1) 0 (.slice none 0 0) (.slice none 0 0) ∧ Below W.heap.size W w1 ∧ W.heap.size + 2 ≤ w1.heap.size from ⟨HF.out.1.below hb1, HF.out.2.1.below hb1, below_then HF.out.2.2.1 HF.out.2.2.1.size hb1, by have := hb1.size; have := HF.out.2.2.2; omega⟩)
  have hN : ∀ Z, Below w1.heap.size w1 Z → Calls Try.prog 77 #[.slice p s.ns.length c] Z fun e w' => (e = .returned (.slice (some ⟨Z.heap.size, 0, none⟩) s.ns.length s.ns.length) ∧ IBlock w' Z.heap.size s.ns) ∧ Below Z.heap.size Z w' := fun Z hZ => own_c _ s.ns Z (nums_below (nums_below HN0.out.1 hb1) hZ) (by omega)
  have hO : ∀ Z, Below w1.heap.size w1 Z → Calls Try.prog 77 #[.slice q s.os.length d] Z fun e w' => (e = .returned (.slice (some ⟨Z.heap.size, 0, none⟩) s.os.length s.os.length) ∧ IBlock w' Z.heap.size s.os) ∧ Below Z.heap.size Z w' := fun Z hZ => own_c _ s.os Z (nums_below (nums_below HN0.out.2 hb1) hZ) (by have := HLV.out.2; omega)
  have HNC := Lib.hid hN
  have HOC := Lib.hid hO
  have HLV1 := Lib.hid (And.intro (HLV.out.1.below HF1.out.2.2.1) HLV.out.2)
  obtain ⟨g0, g1, g2⟩ := HF1.out.1.cells
  clear hb1 HC d0 d1 d2 hN hO HN0 HF
  go_upto_region 3 with fail
  go_cut [7] (fun s7 wc => ∃ z g h : Nat, s7 = .pointer (some ⟨z, 0, none⟩) ∧ Hid (TurnAt wc z g h s ∧ Below w1.heap.size w1 wc ∧ w1.heap.size ≤ g ∧ w1.heap.size ≤ h ∧ w1.heap.size ≤ z))
  case first =>
    have hW2 : Below w1.heap.size w1 w1.drew := (Below.refl _ _).drew
    go_region_held3 (fun w' => w'.cell? ⟨W.heap.size, 0, none⟩ = some (.int .i64 s.now) ∧ w'.cell? ⟨W.heap.size, 1, none⟩ = some (.slice p s.ns.length c) ∧ w'.cell? ⟨W.heap.size, 2, none⟩ = some (.slice q s.os.length d))
      (first
        | exact ⟨g0, g1, g2⟩
        | go_keep
        | (go_split_ands; exact ⟨below_cell hb3 (by assumption), below_cell hb3 (by assumption), below_cell hb3 (by assumption)⟩))
      (first
        | (go_at_call 77; (with_reducible refine (HNC.out _ ?_).mono ?_); exact hW2; rintro e w3 ⟨⟨rfl, hX3⟩, hb3⟩; have HX3 := Lib.hid hX3; have HB3 := Lib.hid hb3; replace hW2 := below_then hW2 hW2.size hb3)
        | (go_at_call 77; (with_reducible refine (HOC.out _ ?_).mono ?_); exact hW2; rintro e w3 ⟨⟨rfl, hX3⟩, hb3⟩; have HX4 := Lib.hid hX3; have HB4 := Lib.hid hb3; replace hW2 := below_then hW2 hW2.size hb3))
    rename_i wa hba hXa _
    clear hX3 hXa hba hb3
    have hlt := HX3.out.lt
    have hlt2 := HX4.out.lt
    have hFIN := Lib.hid (show TurnAt (w3.alloc (.cells #[.int .i64 s.now, .slice (some ⟨w1.heap.size, 0, none⟩) s.ns.length s.ns.length, .slice (some ⟨wa.heap.size, 0, none⟩) s.os.length s.os.length] 111)) w3.heap.size w1.heap.size wa.heap.size s ∧ Below w1.heap.size w1 (w3.alloc (.cells #[.int .i64 s.now, .slice (some ⟨w1.heap.size, 0, none⟩) s.ns.length s.ns.length, .slice (some ⟨wa.heap.size, 0, none⟩) s.os.length s.os.length] 111)) ∧ w1.heap.size ≤ w1.heap.size ∧ w1.heap.size ≤ wa.heap.size ∧ w1.heap.size ≤ w3.heap.size from
      ⟨⟨World.alloc_heap_new _ _, (HX3.out.below HB4.out).below (below1 _ _), HX4.out.below (below1 _ _), fun e => by have h : w1.heap.size < wa.heap.size := hlt; omega⟩, below_then hW2 hW2.size (below1 _ _), Nat.le_refl _, Nat.le_of_lt hlt, hW2.size⟩)
    clear hlt hlt2 hW2
    go_wp2_with fail
    go_meet
    exact ⟨_, _, _, rfl, hFIN⟩
  case rest =>
    obtain ⟨z, g, h, rfl, hT⟩ := hcut
    obtain ⟨hT1, hT2, hT3, hT4, hT5⟩ := hT.out
    have HB5 := Lib.hid (And.intro hT3 (And.intro hT4 hT5))
    have HI0 := Lib.hid (show okTo s (l.take 0) ∧ TurnAt wc z g h (runS s (l.take 0)) ∧ RBox wc (W.heap.size + 1) 0 (.slice none 0 0) (.slice none 0 0) ∧ Below w1.heap.size w1 wc from ⟨trivial, hT1, HF1.out.2.1.below hT2, hT2⟩)
    clear g0 g1 g2 HNC HOC HLV hT1 hT2 hT3 hT4 hT5 hT
    obtain ⟨w2, hw2⟩ : ∃ X : World, X = wc := ⟨_, rfl⟩
    rw [← hw2] at HI0
    rw [← hw2]
    clear hw2
    go_wp2
    go_loopw [29] (fun iv wr => ∃ k : Nat, k ≤ l.length ∧ iv = .int .i64 (k : Int) ∧ Hid (okTo s (l.take k) ∧ TurnAt wr z g h (runS s (l.take k)) ∧ RBox wr (W.heap.size + 1) 0 (.slice none 0 0) (.slice none 0 0) ∧ Below w1.heap.size w1 wr)) (fun iv _ => l.length - (intOf iv).toNat)
    case atStart => exact ⟨0, Nat.zero_le _, rfl, HI0⟩
    case round =>
      clear HI0
      obtain ⟨k, hk, rfl, HI⟩ := hrel
      by_cases hlt : k < l.length
      · obtain ⟨hok, hT, hZ, hB⟩ := HI.out
        have hgood := HG.out.run _ hok
        have hsn1 := okTo_snoc (l.take k) s l[k]
        have hsn2 := runS_snoc s (l.take k) l[k]
        rw [← List.take_succ_eq_append_getElem hlt] at hsn1 hsn2
        obtain ⟨pb, hpb⟩ : ∃ x : RdS, x = runS s (l.take k) := ⟨_, rfl⟩
        rw [← hpb] at hT hgood hsn1 hsn2
        obtain ⟨cpu, hcpu⟩ : ∃ x, x = l[k].1 := ⟨_, rfl⟩
        obtain ⟨en, hen⟩ : ∃ x, x = l[k].2 := ⟨_, rfl⟩
        obtain ⟨pp, cc, hpe, hcells⟩ := HLV1.out.1.below hB
        injection hpe with hpe1 hpe2 hpe3
        subst hpe1
        clear hpe2 hpe3
        obtain ⟨b, off, hp, hcs⟩ := hcells (by intro e; rw [e] at hlt; simp at hlt)
        obtain ⟨hx, hy⟩ := hcs k hlt
        rw [← hcpu] at hx hsn1 hsn2
        rw [← hen] at hy hsn1 hsn2
        subst hp
        have HSN := Lib.hid (And.intro hsn1 hsn2)
        have HTK := Lib.hid (And.intro hok (And.intro hpb (And.intro hcpu hen)))
        obtain ⟨w3, hw3⟩ : ∃ X : World, X = wr.alloc (.cells #[.int .i64 cpu, .bool en] 102) := ⟨_, rfl⟩
        have hb3 : Below wr.heap.size wr w3 := by rw [hw3]; exact below1 _ _
        have hq0 : w3.cell? ⟨wr.heap.size, 0, none⟩ = some (.int .i64 cpu) := by rw [hw3]; simp
        have hq1 : w3.cell? ⟨wr.heap.size, 1, none⟩ = some (.bool en) := by rw [hw3]; simp
        have HZ3 := Lib.hid (show RBox w3 (W.heap.size + 1) 0 (.slice none 0 0) (.slice none 0 0) ∧ Below w1.heap.size w1 w3 ∧ TurnAt w3 z g h pb from ⟨hZ.below hb3, below_then hB hB.size hb3, hT.below hb3⟩)
        have HS2 := Lib.hid (show W.heap.size + 2 ≤ w1.heap.size ∧ Below W.heap.size W w1 from ⟨HF1.out.2.2.2, HF1.out.2.2.1⟩)
        have HTS := Lib.hid (And.intro hT.zg hT.zh)
        have hk0 : (0 : Int) ≤ (k : Int) := by omega
        have hkl : (k : Int) < (l.length : Int) := by omega
        have HW3 := Lib.hid hw3
        have HBL := Lib.hid (World.block_lt_of_cell? wr _ hx)
        have HCE := Lib.hid (enter_c z g h pb cpu w3 HZ3.out.2.2 hgood.lo hgood.l8 ⟨hgood.n0, hgood.n1⟩ hgood.range)
        have HCL := Lib.hid (leave_c z g h pb cpu w3 HZ3.out.2.2 hgood.lo hgood.l8 ⟨hgood.n0, hgood.n1⟩ hgood.range)
        clear hok hT hZ hB hsn1 hsn2 hpb hcpu hen hcells hcs hw3 hb3 hgood HI
        cases en with
        | true =>
          go_upto_region 8 with fail
          rw [← HW3.out]
          clear hx hy
          obtain ⟨e1, he1⟩ : ∃ x, x = stepE pb cpu true := ⟨_, rfl⟩
          rw [← he1] at HCE
          have HE1 := Lib.hid he1
          clear he1
          go_wp2_with fail
          (with_reducible refine HCE.out.mono ?_)
          rintro e w4 ⟨rfl, hk4, ht4⟩
          have hz4 : RBox w4 (W.heap.size + 1) 0 (.slice none 0 0) (.slice none 0 0) := HZ3.out.1.keeps hk4 (fun e => by have := HB5.out; have := HS2.out.1; omega)
          have hB4 : Below w1.heap.size w1 w4 := HZ3.out.2.1.trans (hk4.below HZ3.out.2.1.size (fun j e => by have := HB5.out; omega))
          have HZ4 := Lib.hid (And.intro hz4 hB4)
          by_cases hc : e1 = 0
          · have hq : (e1 != 0) = false := by rw [hc]; rfl
            have HI4 := Lib.hid (show okTo s (l.take (k + 1)) ∧ TurnAt w4 z g h (runS s (l.take (k + 1))) ∧ RBox w4 (W.heap.size + 1) 0 (.slice none 0 0) (.slice none 0 0) ∧ Below w1.heap.size w1 w4 from ⟨HSN.out.1.2 ⟨HTK.out.1, by rw [← HE1.out]; exact hc⟩, by rw [HSN.out.2]; exact ht4 hc, hz4, hB4⟩)
            clear hc hk4 ht4 hz4 hB4 hq0 hq1
            go_wp2
            go_roundw
            case rel => exact ⟨k + 1, by omega, rfl, HI4⟩
            case measure => first | omega | (simp [intOf]; omega)
          · have hq : (e1 != 0) = true := by rw [bne_iff_ne]; exact hc
            obtain ⟨g0, g1, g2⟩ := hz4.cells
            have m0 := hz4.marks 0
            have m1 := hz4.marks 1
            have m2 := hz4.marks 2
            have HP := Lib.hid (hz4.put 0 (.slice none 0 0) (.slice none 0 0))
            have HK := Lib.hid (RBox.putK w4 (W.heap.size + 1) 0 (.slice none 0 0) (.slice none 0 0))
            obtain ⟨w5, hw5⟩ : ∃ X : World, X = (((w4.setCell ⟨W.heap.size + 1, 0, none⟩ (.int .i64 0)).setCell ⟨W.heap.size + 1, 1, none⟩ (.slice none 0 0)).setCell ⟨W.heap.size + 1, 2, none⟩ (.slice none 0 0)) := ⟨_, rfl⟩
            rw [← hw5] at HP HK
            have HW5 := Lib.hid hw5
            have HC := Lib.hid hc
            clear hw5 hc hk4 ht4 hz4 hB4 hq0 hq1
            go_wp2
            rw [← HW5.out]
            refine bodyPost_ret (v := .tuple #[zeroR, .int .i64 ((k : Int) + 1), .int .i64 e1]) (HP.out.result3 rfl _ rfl rfl rfl) rfl ⟨.inl ⟨k, hlt, HTK.out.1, ?_, ?_⟩, ?_⟩
            · rw [← HTK.out.2.1, ← HTK.out.2.2.1, ← HTK.out.2.2.2, ← HE1.out]; exact HC.out
            · rw [← HTK.out.2.1, ← HTK.out.2.2.1, ← HTK.out.2.2.2, ← HE1.out]
            · have hB : Below W.heap.size W w4 := below_then HS2.out.2 HS2.out.2.size HZ4.out.2
              exact hB.trans (HK.out.below hB.size (fun j e => by omega))
        | false =>
          go_upto_region 8 with fail
          rw [← HW3.out]
          clear hx hy
          obtain ⟨e1, he1⟩ : ∃ x, x = stepE pb cpu false := ⟨_, rfl⟩
          rw [← he1] at HCL
          have HE1 := Lib.hid he1
          clear he1
          go_wp2_with fail
          (with_reducible refine HCL.out.mono ?_)
          rintro e w4 ⟨rfl, hk4, ht4⟩
          have hz4 : RBox w4 (W.heap.size + 1) 0 (.slice none 0 0) (.slice none 0 0) := HZ3.out.1.keeps hk4 (fun e => by have := HB5.out; have := HS2.out.1; omega)
          have hB4 : Below w1.heap.size w1 w4 := HZ3.out.2.1.trans (hk4.below HZ3.out.2.1.size (fun j e => by have := HB5.out; omega))
          have HZ4 := Lib.hid (And.intro hz4 hB4)
          by_cases hc : e1 = 0
          · have hq : (e1 != 0) = false := by rw [hc]; rfl
            have HI4 := Lib.hid (show okTo s (l.take (k + 1)) ∧ TurnAt w4 z g h (runS s (l.take (k + 1))) ∧ RBox w4 (W.heap.size + 1) 0 (.slice none 0 0) (.slice none 0 0) ∧ Below w1.heap.size w1 w4 from ⟨HSN.out.1.2 ⟨HTK.out.1, by rw [← HE1.out]; exact hc⟩, by rw [HSN.out.2]; exact ht4 hc, hz4, hB4⟩)
            clear hc hk4 ht4 hz4 hB4 hq0 hq1
            go_wp2
            go_roundw
            case rel => exact ⟨k + 1, by omega, rfl, HI4⟩
            case measure => first | omega | (simp [intOf]; omega)
          · have hq : (e1 != 0) = true := by rw [bne_iff_ne]; exact hc
            obtain ⟨g0, g1, g2⟩ := hz4.cells
            have m0 := hz4.marks 0
            have m1 := hz4.marks 1
            have m2 := hz4.marks 2
            have HP := Lib.hid (hz4.put 0 (.slice none 0 0) (.slice none 0 0))
            have HK := Lib.hid (RBox.putK w4 (W.heap.size + 1) 0 (.slice none 0 0) (.slice none 0 0))
            obtain ⟨w5, hw5⟩ : ∃ X : World, X = (((w4.setCell ⟨W.heap.size + 1, 0, none⟩ (.int .i64 0)).setCell ⟨W.heap.size + 1, 1, none⟩ (.slice none 0 0)).setCell ⟨W.heap.size + 1, 2, none⟩ (.slice none 0 0)) := ⟨_, rfl⟩
            rw [← hw5] at HP HK
            have HW5 := Lib.hid hw5
            have HC := Lib.hid hc
            clear hw5 hc hk4 ht4 hz4 hB4 hq0 hq1
            go_wp2
            rw [← HW5.out]
            refine bodyPost_ret (v := .tuple #[zeroR, .int .i64 ((k : Int) + 1), .int .i64 e1]) (HP.out.result3 rfl _ rfl rfl rfl) rfl ⟨.inl ⟨k, hlt, HTK.out.1, ?_, ?_⟩, ?_⟩
            · rw [← HTK.out.2.1, ← HTK.out.2.2.1, ← HTK.out.2.2.2, ← HE1.out]; exact HC.out
            · rw [← HTK.out.2.1, ← HTK.out.2.2.1, ← HTK.out.2.2.2, ← HE1.out]
            · have hB : Below W.heap.size W w4 := below_then HS2.out.2 HS2.out.2.size HZ4.out.2
              exact hB.trans (HK.out.below hB.size (fun j e => by omega))
      · obtain rfl : k = l.length := by omega
        have hti := HI.out
        rw [List.take_length] at hti
        obtain ⟨hok, hT, hZ, hB⟩ := hti
        obtain ⟨t0, t1, t2⟩ := hT.cells
        obtain ⟨g0, g1, g2⟩ := hZ.cells
        have m0 := hZ.marks 0
        have m1 := hZ.marks 1
        have m2 := hZ.marks 2
        obtain ⟨pb, hpb⟩ : ∃ x : RdS, x = runS s l := ⟨_, rfl⟩
        rw [← hpb] at hT t0 t1 t2
        obtain ⟨nl, hnl⟩ : ∃ x, x = pb.ns.length := ⟨_, rfl⟩
        obtain ⟨ol, hol⟩ : ∃ x, x = pb.os.length := ⟨_, rfl⟩
        obtain ⟨nw, hnw⟩ : ∃ x, x = pb.now := ⟨_, rfl⟩
        rw [← hnl] at t1
        rw [← hol] at t2
        rw [← hnw] at t0
        have HP := Lib.hid (hZ.put nw (.slice (some ⟨g, 0, none⟩) nl nl) (.slice (some ⟨h, 0, none⟩) ol ol))
        have HK := Lib.hid (RBox.putK wr (W.heap.size + 1) nw (.slice (some ⟨g, 0, none⟩) nl nl) (.slice (some ⟨h, 0, none⟩) ol ol))
        obtain ⟨w5, hw5⟩ : ∃ X : World, X = (((wr.setCell ⟨W.heap.size + 1, 0, none⟩ (.int .i64 nw)).setCell ⟨W.heap.size + 1, 1, none⟩ (.slice (some ⟨g, 0, none⟩) nl nl)).setCell ⟨W.heap.size + 1, 2, none⟩ (.slice (some ⟨h, 0, none⟩) ol ol)) := ⟨_, rfl⟩
        rw [← hw5] at HP HK
        have HW5 := Lib.hid hw5
        have HS2 := Lib.hid (show W.heap.size + 2 ≤ w1.heap.size ∧ Below W.heap.size W w1 from ⟨HF1.out.2.2.2, HF1.out.2.2.1⟩)
        have HFIN := Lib.hid (And.intro hok (And.intro hpb (And.intro hB (And.intro hT (And.intro hnl (And.intro hol hnw))))))
        clear hw5 hok hT hZ hB hpb hnl hol hnw HI hlt hk
        go_wp2
        rw [← HW5.out]
        obtain ⟨hok, hpb, hB, hT, hnl, hol, hnw⟩ := HFIN.out
        refine bodyPost_ret (v := .tuple #[.agg #[.int .i64 nw, .slice (some ⟨g, 0, none⟩) nl nl, .slice (some ⟨h, 0, none⟩) ol ol], .int .i64 (l.length : Int), .int .i64 0]) (HP.out.result3 rfl _ rfl rfl rfl) rfl ⟨.inr ⟨hok, g, h, ?_, ?_, hT.apart, ?_, ?_, ?_⟩, ?_⟩
        · have := HS2.out.1; have := HB5.out; omega
        · have := HS2.out.1; have := HB5.out; omega
        · rw [← hpb, ← hnl, ← hol, ← hnw]
        · rw [← hpb]; exact hT.nest.keeps HK.out (fun e => by have := HS2.out.1; have := HB5.out; omega)
        · rw [← hpb]; exact hT.opened.keeps HK.out (fun e => by have := HS2.out.1; have := HB5.out; omega)
        · have hB2 : Below W.heap.size W wr := below_then HS2.out.2 HS2.out.2.size hB
          exact hB2.trans (HK.out.below hB2.size (fun j e => by omega))

end Go.Proofs.Ytdmcijfjnegcgaa
namespace Go.Proofs.Ytdmcijfjnegcgaa
set_option maxRecDepth 100000
open Go.RowKit Go.Shelf
attribute [local go_sem] Oper.semAt_some

/-- What a step comes to: the readers that it answers, and the error. -/
def StepQ (B : Nat) (s : RdS) (c : Int) (en : Bool) (nw : Int) (p1 : Option Addr) (n1 c1 : Nat) (p2 : Option Addr) (n2 c2 : Nat) (err : Int) (w : World) : Prop :=
  ((mayB s.now s.ns s.os = false ∧ err = 210 ∨ Good s ∧ stepE s c en ≠ 0 ∧ err = stepE s c en) ∧ nw = 0 ∧ (p1 = none ∧ n1 = 0 ∧ c1 = 0) ∧ (p2 = none ∧ n2 = 0 ∧ c2 = 0)) ∨
  (Good s ∧ stepE s c en = 0 ∧ err = 0 ∧ nw = (stepS s c en).now ∧ ∃ g h : Nat, B ≤ g ∧ B ≤ h ∧ g ≠ h ∧ (p1 = some ⟨g, 0, none⟩ ∧ n1 = (stepS s c en).ns.length ∧ c1 = (stepS s c en).ns.length) ∧ (p2 = some ⟨h, 0, none⟩ ∧ n2 = (stepS s c en).os.length ∧ c2 = (stepS s c en).os.length) ∧ IBlock w g (stepS s c en).ns ∧ IBlock w h (stepS s c en).os)
theorem StepQ.keeps {B : Nat} {s : RdS} {c : Int} {en : Bool} {nw : Int} {p1 : Option Addr} {n1 c1 : Nat} {p2 : Option Addr} {n2 c2 : Nat} {err : Int} {w w' : World} {S : Nat → Prop} (h : StepQ B s c en nw p1 n1 c1 p2 n2 c2 err w) (hk : Keeps S w w') (hS : ∀ k, S k → k < B) : StepQ B s c en nw p1 n1 c1 p2 n2 c2 err w' := by
  rcases h with h | ⟨h1, h2, h3, h4, g, hh, h5, h6, h7, h8, h9, h10, h11⟩
  · exact .inl h
  · exact .inr ⟨h1, h2, h3, h4, g, hh, h5, h6, h7, h8, h9, h10.keeps hk (fun e => by have := hS _ e; omega), h11.keeps hk (fun e => by have := hS _ e; omega)⟩
/-- Run at one reading. -/
theorem run_one (s : RdS) (u v lv : Value) (c : Int) (en : Bool) (W : World) (hn : NumsAt W .i64 u s.ns) (ho : NumsAt W .i64 v s.os) (h1 : s.ns.length ≤ 9223372036854775807) (h2 : s.os.length ≤ 9223372036854775807) (hr : ∀ x ∈ s.os, I64 x) (hlv : RgsAt W lv [(c, en)]) :
    Calls Try.prog 67 #[.agg #[.int .i64 s.now, u, v], lv] W fun e w' => (∃ nw p1 n1 c1 p2 n2 c2 k err, e = .returned (.tuple #[.agg #[.int .i64 nw, .slice p1 n1 c1, .slice p2 n2 c2], .int .i64 k, .int .i64 err]) ∧ StepQ W.heap.size s c en nw p1 n1 c1 p2 n2 c2 err w') ∧ Below W.heap.size W w' := by
  cases hm : mayB s.now s.ns s.os with
  | false =>
    refine (run_no s.now u v lv s.ns s.os W hn ho h1 h2 hr hm).mono ?_
    rintro e w' ⟨rfl, hb⟩
    exact ⟨⟨0, none, 0, 0, none, 0, 0, 0, 210, rfl, .inl ⟨.inl ⟨hm, rfl⟩, rfl, ⟨rfl, rfl, rfl⟩, ⟨rfl, rfl, rfl⟩⟩⟩, hb⟩
  | true =>
    have g := (good_iff s).1 hm
    refine (run_yes s u v lv [(c, en)] W hn ho hlv (by simp) g).mono ?_
    rintro e w' ⟨h | h, hb⟩
    · obtain ⟨i, hi, h3, h4, rfl⟩ := h
      obtain rfl : i = 0 := by simp at hi; omega
      exact ⟨⟨0, none, 0, 0, none, 0, 0, _, _, rfl, .inl ⟨.inr ⟨g, h4, rfl⟩, rfl, ⟨rfl, rfl, rfl⟩, ⟨rfl, rfl, rfl⟩⟩⟩, hb⟩
    · obtain ⟨h3, gg, hh, h4, h5, h6, rfl, h7, h8⟩ := h
      exact ⟨⟨_, _, _, _, _, _, _, _, _, rfl, .inr ⟨g, h3.1, rfl, rfl, gg, hh, h4, h5, h6, ⟨rfl, rfl, rfl⟩, ⟨rfl, rfl, rfl⟩, h7, h8⟩⟩, hb⟩

set_option maxHeartbeats 4000000 in
theorem Enter_c (s : RdS) (u v : Value) (c : Int) (W : World) (hn : NumsAt W .i64 u s.ns) (ho : NumsAt W .i64 v s.os) (h1 : s.ns.length ≤ 9223372036854775807) (h2 : s.os.length ≤ 9223372036854775807) (hr : ∀ x ∈ s.os, I64 x) :
    Calls Try.prog 86 #[.agg #[.int .i64 s.now, u, v], .int .i64 c] W fun e w' => (∃ nw p1 n1 c1 p2 n2 c2 err, e = .returned (.tuple #[.agg #[.int .i64 nw, .slice p1 n1 c1, .slice p2 n2 c2], .int .i64 err]) ∧ StepQ (W.heap.size + 2) s c true nw p1 n1 c1 p2 n2 c2 err w') ∧ Below W.heap.size W w' := by
  have HF := Lib.hid (wR_facts W s.now u v)
  obtain ⟨w0, hw0⟩ : ∃ X, X = wR W s.now u v := ⟨_, rfl⟩
  rw [← hw0] at HF
  unfold wR at hw0
  obtain ⟨w1, hw1⟩ : ∃ X : World, X = w0.alloc (.cells #[.int .i64 c, .bool true] 102) := ⟨_, rfl⟩
  have hb1 : Below w0.heap.size w0 w1 := by rw [hw1]; exact below1 _ _
  have hz1 : w1.heap.size = W.heap.size + 3 := by rw [hw1, World.size_alloc, HF.out.2.2.2]
  have hlv : RgsAt w1 (.slice (some ⟨W.heap.size + 2, 0, none⟩) 1 1) [(c, true)] := ⟨_, _, rfl, fun _ => ⟨_, _, rfl, fun i hi => by
    obtain rfl : i = 0 := by simp at hi; omega
    have h : w1.heap[W.heap.size + 2]? = some (.cells #[.int .i64 c, .bool true] 102 (0, 0)) := by rw [hw1, ← HF.out.2.2.2]; exact World.alloc_heap_new _ _
    simp [World.cell?, h]⟩⟩
  have HC := Lib.hid (run_one s u v _ c true w1 (nums_below (nums_below hn HF.out.2.2.1) hb1) (nums_below (nums_below ho HF.out.2.2.1) hb1) h1 h2 hr hlv)
  have HF1 := Lib.hid (show RBox w1 W.heap.size s.now u v ∧ RBox w1 (W.heap.size + 1) 0 (.slice none 0 0) (.slice none 0 0) ∧ Below W.heap.size W w1 ∧ w1.heap.size = W.heap.size + 3 from ⟨HF.out.1.below hb1, HF.out.2.1.below hb1, below_then HF.out.2.2.1 HF.out.2.2.1.size hb1, hz1⟩)
  obtain ⟨d0, d1, d2⟩ := HF.out.1.cells
  obtain ⟨p, cp, rfl, -⟩ := hn
  obtain ⟨q, cq, rfl, -⟩ := ho
  have hz0 := HF.out.2.2.2
  have HW1 := Lib.hid hw1
  clear hr h1 h2 hlv hb1 hz1 hw1 HF
  go_enter Try.func86, Try.ntmps86
  go_wp2_with fail
  rw [← hw0]
  rw [← HW1.out]
  clear hw0 hz0
  (with_reducible refine HC.out.mono ?_)
  rintro e w2 ⟨⟨nw, p1, n1, c1, p2, n2, c2, k, err, rfl, hQ⟩, hb2⟩
  have hR2 := HF1.out.1.below hb2
  have hZ2 := HF1.out.2.1.below hb2
  have hB2 := below_then HF1.out.2.2.1 HF1.out.2.2.1.size hb2
  have hR3 := hR2.put nw (.slice p1 n1 c1) (.slice p2 n2 c2)
  have hk3 := RBox.putK w2 W.heap.size nw (.slice p1 n1 c1) (.slice p2 n2 c2)
  obtain ⟨w3, hw3⟩ : ∃ X : World, X = (((w2.setCell ⟨W.heap.size, 0, none⟩ (.int .i64 nw)).setCell ⟨W.heap.size, 1, none⟩ (.slice p1 n1 c1)).setCell ⟨W.heap.size, 2, none⟩ (.slice p2 n2 c2)) := ⟨_, rfl⟩
  rw [← hw3] at hR3 hk3
  have hZ3 := hZ2.keeps hk3 (by omega)
  have HB3 := Lib.hid (hB2.trans (hk3.below hB2.size (fun j e => by omega)))
  have HQ3 := Lib.hid ((hQ.keeps hk3 (fun j e => by have := HF1.out.2.2.2; omega)))
  obtain ⟨f0, f1, f2⟩ := hR2.cells
  have l0 := hR2.marks 0
  have l1 := hR2.marks 1
  have l2 := hR2.marks 2
  have HR3 := Lib.hid hR3
  have HZ3 := Lib.hid hZ3
  have HW3 := Lib.hid hw3
  clear hQ hb2 hR2 hZ2 hB2 hR3 hk3 hw3 hZ3 HC d0 d1 d2
  go_upto_region 2 with fail
  rw [← HW3.out]
  clear f0 f1 f2 l0 l1 l2 HW3
  obtain ⟨f0, f1, f2⟩ := HR3.out.cells
  obtain ⟨g0, g1, g2⟩ := HZ3.out.cells
  have m0 := HZ3.out.marks 0
  have m1 := HZ3.out.marks 1
  have m2 := HZ3.out.marks 2
  have HP := Lib.hid (HZ3.out.put nw (.slice p1 n1 c1) (.slice p2 n2 c2))
  have HK := Lib.hid (RBox.putK w3 (W.heap.size + 1) nw (.slice p1 n1 c1) (.slice p2 n2 c2))
  obtain ⟨w4, hw4⟩ : ∃ X : World, X = (((w3.setCell ⟨W.heap.size + 1, 0, none⟩ (.int .i64 nw)).setCell ⟨W.heap.size + 1, 1, none⟩ (.slice p1 n1 c1)).setCell ⟨W.heap.size + 1, 2, none⟩ (.slice p2 n2 c2)) := ⟨_, rfl⟩
  rw [← hw4] at HP HK
  have HW4 := Lib.hid hw4
  clear hw4
  go_wp2
  rw [← HW4.out]
  refine bodyPost_ret (v := .tuple #[.agg #[.int .i64 nw, .slice p1 n1 c1, .slice p2 n2 c2], .int .i64 err]) (HP.out.result2 rfl _ rfl rfl) rfl ⟨⟨_, _, _, _, _, _, _, _, rfl, ?_⟩, HB3.out.trans (HK.out.below HB3.out.size (fun j e => by omega))⟩
  rcases HQ3.out.keeps HK.out (fun j e => by have := HF1.out.2.2.2; omega) with h | ⟨h1, h2, h3, h4, g, hh, h5, h6, h7⟩
  · exact .inl h
  · exact .inr ⟨h1, h2, h3, h4, g, hh, by have := HF1.out.2.2.2; omega, by have := HF1.out.2.2.2; omega, h7⟩

set_option maxHeartbeats 4000000 in
theorem Leave_c (s : RdS) (u v : Value) (c : Int) (W : World) (hn : NumsAt W .i64 u s.ns) (ho : NumsAt W .i64 v s.os) (h1 : s.ns.length ≤ 9223372036854775807) (h2 : s.os.length ≤ 9223372036854775807) (hr : ∀ x ∈ s.os, I64 x) :
    Calls Try.prog 87 #[.agg #[.int .i64 s.now, u, v], .int .i64 c] W fun e w' => (∃ nw p1 n1 c1 p2 n2 c2 err, e = .returned (.tuple #[.agg #[.int .i64 nw, .slice p1 n1 c1, .slice p2 n2 c2], .int .i64 err]) ∧ StepQ (W.heap.size + 2) s c false nw p1 n1 c1 p2 n2 c2 err w') ∧ Below W.heap.size W w' := by
  have HF := Lib.hid (wR_facts W s.now u v)
  obtain ⟨w0, hw0⟩ : ∃ X, X = wR W s.now u v := ⟨_, rfl⟩
  rw [← hw0] at HF
  unfold wR at hw0
  obtain ⟨w1, hw1⟩ : ∃ X : World, X = w0.alloc (.cells #[.int .i64 c, .bool false] 102) := ⟨_, rfl⟩
  have hb1 : Below w0.heap.size w0 w1 := by rw [hw1]; exact below1 _ _
  have hz1 : w1.heap.size = W.heap.size + 3 := by rw [hw1, World.size_alloc, HF.out.2.2.2]
  have hlv : RgsAt w1 (.slice (some ⟨W.heap.size + 2, 0, none⟩) 1 1) [(c, false)] := ⟨_, _, rfl, fun _ => ⟨_, _, rfl, fun i hi => by
    obtain rfl : i = 0 := by simp at hi; omega
    have h : w1.heap[W.heap.size + 2]? = some (.cells #[.int .i64 c, .bool false] 102 (0, 0)) := by rw [hw1, ← HF.out.2.2.2]; exact World.alloc_heap_new _ _
    simp [World.cell?, h]⟩⟩
  have HC := Lib.hid (run_one s u v _ c false w1 (nums_below (nums_below hn HF.out.2.2.1) hb1) (nums_below (nums_below ho HF.out.2.2.1) hb1) h1 h2 hr hlv)
  have HF1 := Lib.hid (show RBox w1 W.heap.size s.now u v ∧ RBox w1 (W.heap.size + 1) 0 (.slice none 0 0) (.slice none 0 0) ∧ Below W.heap.size W w1 ∧ w1.heap.size = W.heap.size + 3 from ⟨HF.out.1.below hb1, HF.out.2.1.below hb1, below_then HF.out.2.2.1 HF.out.2.2.1.size hb1, hz1⟩)
  obtain ⟨d0, d1, d2⟩ := HF.out.1.cells
  obtain ⟨p, cp, rfl, -⟩ := hn
  obtain ⟨q, cq, rfl, -⟩ := ho
  have hz0 := HF.out.2.2.2
  have HW1 := Lib.hid hw1
  clear hr h1 h2 hlv hb1 hz1 hw1 HF
  go_enter Try.func87, Try.ntmps87
  go_wp2_with fail
  rw [← hw0]
  rw [← HW1.out]
  clear hw0 hz0
  (with_reducible refine HC.out.mono ?_)
  rintro e w2 ⟨⟨nw, p1, n1, c1, p2, n2, c2, k, err, rfl, hQ⟩, hb2⟩
  have hR2 := HF1.out.1.below hb2
  have hZ2 := HF1.out.2.1.below hb2
  have hB2 := below_then HF1.out.2.2.1 HF1.out.2.2.1.size hb2
  have hR3 := hR2.put nw (.slice p1 n1 c1) (.slice p2 n2 c2)
  have hk3 := RBox.putK w2 W.heap.size nw (.slice p1 n1 c1) (.slice p2 n2 c2)
  obtain ⟨w3, hw3⟩ : ∃ X : World, X = (((w2.setCell ⟨W.heap.size, 0, none⟩ (.int .i64 nw)).setCell ⟨W.heap.size, 1, none⟩ (.slice p1 n1 c1)).setCell ⟨W.heap.size, 2, none⟩ (.slice p2 n2 c2)) := ⟨_, rfl⟩
  rw [← hw3] at hR3 hk3
  have hZ3 := hZ2.keeps hk3 (by omega)
  have HB3 := Lib.hid (hB2.trans (hk3.below hB2.size (fun j e => by omega)))
  have HQ3 := Lib.hid ((hQ.keeps hk3 (fun j e => by have := HF1.out.2.2.2; omega)))
  obtain ⟨f0, f1, f2⟩ := hR2.cells
  have l0 := hR2.marks 0
  have l1 := hR2.marks 1
  have l2 := hR2.marks 2
  have HR3 := Lib.hid hR3
  have HZ3 := Lib.hid hZ3
  have HW3 := Lib.hid hw3
  clear hQ hb2 hR2 hZ2 hB2 hR3 hk3 hw3 hZ3 HC d0 d1 d2
  go_upto_region 2 with fail
  rw [← HW3.out]
  clear f0 f1 f2 l0 l1 l2 HW3
  obtain ⟨f0, f1, f2⟩ := HR3.out.cells
  obtain ⟨g0, g1, g2⟩ := HZ3.out.cells
  have m0 := HZ3.out.marks 0
  have m1 := HZ3.out.marks 1
  have m2 := HZ3.out.marks 2
  have HP := Lib.hid (HZ3.out.put nw (.slice p1 n1 c1) (.slice p2 n2 c2))
  have HK := Lib.hid (RBox.putK w3 (W.heap.size + 1) nw (.slice p1 n1 c1) (.slice p2 n2 c2))
  obtain ⟨w4, hw4⟩ : ∃ X : World, X = (((w3.setCell ⟨W.heap.size + 1, 0, none⟩ (.int .i64 nw)).setCell ⟨W.heap.size + 1, 1, none⟩ (.slice p1 n1 c1)).setCell ⟨W.heap.size + 1, 2, none⟩ (.slice p2 n2 c2)) := ⟨_, rfl⟩
  rw [← hw4] at HP HK
  have HW4 := Lib.hid hw4
  clear hw4
  go_wp2
  rw [← HW4.out]
  refine bodyPost_ret (v := .tuple #[.agg #[.int .i64 nw, .slice p1 n1 c1, .slice p2 n2 c2], .int .i64 err]) (HP.out.result2 rfl _ rfl rfl) rfl ⟨⟨_, _, _, _, _, _, _, _, rfl, ?_⟩, HB3.out.trans (HK.out.below HB3.out.size (fun j e => by omega))⟩
  rcases HQ3.out.keeps HK.out (fun j e => by have := HF1.out.2.2.2; omega) with h | ⟨h1, h2, h3, h4, g, hh, h5, h6, h7⟩
  · exact .inl h
  · exact .inr ⟨h1, h2, h3, h4, g, hh, by have := HF1.out.2.2.2; omega, by have := HF1.out.2.2.2; omega, h7⟩

end Go.Proofs.Ytdmcijfjnegcgaa
