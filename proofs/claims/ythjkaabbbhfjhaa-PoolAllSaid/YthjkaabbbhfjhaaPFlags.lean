/-
  Package pool: flags: which pages are free, and whether a pool may be.
  Conditions: the row has at most 2 to the power 62 numbers.
-/
import Derived.Test.YthjkaabbbhfjhaaPNext
import Derived.Test.YthjkaabbbhfjhaaPMid
import Derived.Deep.DeepCutAuto
import Derived.Deep.CutBlock
import Derived.Deep.RegionHeld3
namespace Go.Proofs.Ythjkaabbbhfjhaa
open Go.RowKit Go.Shelf
attribute [local go_sem] Oper.semAt_some

/-- May a pool be? -/
def rightP (b p : Int) (fs : List Int) : Bool := fitsB b p && (decide fs.Nodup && fs.all (hasB p))
def wF (W : World) (b pg : Int) (v : Value) : World := (((W.alloc (.cells #[.int .i64 b, .int .i64 pg, v] 24)).alloc (.cells #[.bool false, .bool false, .bool false, .bool false, .bool false, .bool false, .bool false, .bool false, .bool false, .bool false, .bool false, .bool false, .bool false, .bool false, .bool false, .bool false, .bool false, .bool false, .bool false, .bool false, .bool false, .bool false, .bool false, .bool false, .bool false, .bool false, .bool false, .bool false, .bool false, .bool false, .bool false, .bool false, .bool false, .bool false, .bool false, .bool false, .bool false, .bool false, .bool false, .bool false, .bool false, .bool false, .bool false, .bool false, .bool false, .bool false, .bool false, .bool false, .bool false, .bool false, .bool false, .bool false, .bool false, .bool false, .bool false, .bool false, .bool false, .bool false, .bool false, .bool false, .bool false, .bool false, .bool false, .bool false] 60)).alloc (.cells #[.bool false] 4)).alloc (.cells #[.bool false, .bool false, .bool false, .bool false, .bool false, .bool false, .bool false, .bool false, .bool false, .bool false, .bool false, .bool false, .bool false, .bool false, .bool false, .bool false, .bool false, .bool false, .bool false, .bool false, .bool false, .bool false, .bool false, .bool false, .bool false, .bool false, .bool false, .bool false, .bool false, .bool false, .bool false, .bool false, .bool false, .bool false, .bool false, .bool false, .bool false, .bool false, .bool false, .bool false, .bool false, .bool false, .bool false, .bool false, .bool false, .bool false, .bool false, .bool false, .bool false, .bool false, .bool false, .bool false, .bool false, .bool false, .bool false, .bool false, .bool false, .bool false, .bool false, .bool false, .bool false, .bool false, .bool false, .bool false] 60)
theorem wF_facts (W : World) (b pg : Int) (v : Value) : PBox (wF W b pg v) W.heap.size b pg v ∧ FBox (wF W b pg v) (W.heap.size + 1) (flg []) ∧ Boxed (wF W b pg v) (W.heap.size + 1 + 1) 4 (.bool false) ∧ FBox (wF W b pg v) (W.heap.size + 1 + 1 + 1) (flg []) ∧ Below W.heap.size W (wF W b pg v) ∧ (wF W b pg v).heap.size = W.heap.size + 4 := by
  have e1 := World.alloc_heap_new (W.alloc (.cells #[.int .i64 b, .int .i64 pg, v] 24)) (.cells #[.bool false, .bool false, .bool false, .bool false, .bool false, .bool false, .bool false, .bool false, .bool false, .bool false, .bool false, .bool false, .bool false, .bool false, .bool false, .bool false, .bool false, .bool false, .bool false, .bool false, .bool false, .bool false, .bool false, .bool false, .bool false, .bool false, .bool false, .bool false, .bool false, .bool false, .bool false, .bool false, .bool false, .bool false, .bool false, .bool false, .bool false, .bool false, .bool false, .bool false, .bool false, .bool false, .bool false, .bool false, .bool false, .bool false, .bool false, .bool false, .bool false, .bool false, .bool false, .bool false, .bool false, .bool false, .bool false, .bool false, .bool false, .bool false, .bool false, .bool false, .bool false, .bool false, .bool false, .bool false] 60)
  have e2 := World.alloc_heap_new ((W.alloc (.cells #[.int .i64 b, .int .i64 pg, v] 24)).alloc (.cells #[.bool false, .bool false, .bool false, .bool false, .bool false, .bool false, .bool false, .bool false, .bool false, .bool false, .bool false, .bool false, .bool false, .bool false, .bool false, .bool false, .bool false, .bool false, .bool false, .bool false, .bool false, .bool false, .bool false, .bool false, .bool false, .bool false, .bool false, .bool false, .bool false, .bool false, .bool false, .bool false, .bool false, .bool false, .bool false, .bool false, .bool false, .bool false, .bool false, .bool false, .bool false, .bool false, .bool false, .bool false, .bool false, .bool false, .bool false, .bool false, .bool false, .bool false, .bool false, .bool false, .bool false, .bool false, .bool false, .bool false, .bool false, .bool false, .bool false, .bool false, .bool false, .bool false, .bool false, .bool false] 60)) (.cells #[.bool false] 4)
  have e3 := World.alloc_heap_new (((W.alloc (.cells #[.int .i64 b, .int .i64 pg, v] 24)).alloc (.cells #[.bool false, .bool false, .bool false, .bool false, .bool false, .bool false, .bool false, .bool false, .bool false, .bool false, .bool false, .bool false, .bool false, .bool false, .bool false, .bool false, .bool false, .bool false, .bool false, .bool false, .bool false, .bool false, .bool false, .bool false, .bool false, .bool false, .bool false, .bool false, .bool false, .bool false, .bool false, .bool false, .bool false, .bool false, .bool false, .bool false, .bool false, .bool false, .bool false, .bool false, .bool false, .bool false, .bool false, .bool false, .bool false, .bool false, .bool false, .bool false, .bool false, .bool false, .bool false, .bool false, .bool false, .bool false, .bool false, .bool false, .bool false, .bool false, .bool false, .bool false, .bool false, .bool false, .bool false, .bool false] 60)).alloc (.cells #[.bool false] 4)) (.cells #[.bool false, .bool false, .bool false, .bool false, .bool false, .bool false, .bool false, .bool false, .bool false, .bool false, .bool false, .bool false, .bool false, .bool false, .bool false, .bool false, .bool false, .bool false, .bool false, .bool false, .bool false, .bool false, .bool false, .bool false, .bool false, .bool false, .bool false, .bool false, .bool false, .bool false, .bool false, .bool false, .bool false, .bool false, .bool false, .bool false, .bool false, .bool false, .bool false, .bool false, .bool false, .bool false, .bool false, .bool false, .bool false, .bool false, .bool false, .bool false, .bool false, .bool false, .bool false, .bool false, .bool false, .bool false, .bool false, .bool false, .bool false, .bool false, .bool false, .bool false, .bool false, .bool false, .bool false, .bool false] 60)
  simp only [World.size_alloc] at e1 e2 e3
  have f1 : FBox _ (W.heap.size + 1) (flg []) := ⟨flg_len _, by rw [flg_nil]; exact e1⟩
  have f3 : FBox (wF W b pg v) (W.heap.size + 1 + 1 + 1) (flg []) := ⟨flg_len _, by rw [flg_nil]; exact e3⟩
  have f2 : Boxed _ (W.heap.size + 1 + 1) 4 (.bool false) := e2
  exact ⟨((((PBox.new W b pg v).below (below1 _ _)).below (below1 _ _)).below (below1 _ _)), (f1.below (below1 _ _)).below (below1 _ _), f2.alloc _, f3, below4 _ _ _ _ _, by unfold wF; simp⟩

set_option maxRecDepth 100000 in
set_option maxHeartbeats 4000000 in
theorem flags_no (b pg : Int) (p : Option Addr) (c : Nat) (fs : List Int) (W : World) (hno : fitsB b pg = false) :
    Calls Try.prog 34 #[.agg #[.int .i64 b, .int .i64 pg, .slice p fs.length c]] W fun e w' => (∃ bs : List Bool, bs.length = 64 ∧ e = .returned (.tuple #[.agg (bs.map Value.bool).toArray, .bool false])) ∧ Below W.heap.size W w' := by
  have HF := Lib.hid (wF_facts W b pg (.slice p fs.length c))
  obtain ⟨w0, hw0⟩ : ∃ X, X = wF W b pg (.slice p fs.length c) := ⟨_, rfl⟩
  rw [← hw0] at HF
  unfold wF at hw0
  obtain ⟨c0, c1, c2⟩ := HF.out.1.cells
  have HC := Lib.hid (fun Z : World => fits_c b pg Z)
  rw [hno] at HC
  have HR := Lib.hid HF.out.2.2.2.1.range
  have HT := Lib.hid (show w0.there (W.heap.size + 1) 0 ((flg []).map Value.bool).toArray.size by have := HF.out.2.1.there; simpa [flg_len] using this)
  have HI := Lib.hid (show (Try.prog.info? 60).map (·.size) = some ((flg []).map Value.bool).toArray.size by have := flag_info; simpa [flg_len] using this)
  have H1 := Lib.hid (show ((flg []).map Value.bool).toArray.all (·.oneCell') = true by simp [Value.oneCell'])
  have k1 := HF.out.2.2.1.cell
  have k2 := HF.out.2.2.1.frozen
  obtain ⟨w3, hw3⟩ : ∃ X : World, X = w0.setCells (W.heap.size + 1) 0 (((flg []).map Value.bool).toArray.toList) := ⟨_, rfl⟩
  have hk3 : Keeps (fun k => k = W.heap.size + 1) w0 w3 := by rw [hw3]; exact Keeps.setCells _ _ _ _
  have HF3 := Lib.hid (show FBox w3 (W.heap.size + 1) (flg []) by rw [hw3]; exact HF.out.2.1.put _ (flg_len _))
  have hz3 : Boxed w3 (W.heap.size + 1 + 1) 4 (.bool false) := (hk3.block _ HF.out.2.2.1.lt (by omega)).trans HF.out.2.2.1
  have HZ3 := Lib.hid hz3
  have k3 := hz3.cell
  have k4 := hz3.frozen
  have HW3 := Lib.hid hw3
  have HB3 := Lib.hid (HF.out.2.2.2.2.1.trans (hk3.below HF.out.2.2.2.2.1.size (fun k e => by omega)))
  clear hno hw3 hk3 hz3
  go_enter Try.func34, Try.ntmps34
  go_wp2_with fail
  rw [← hw0]
  clear hw0
  refine (HC.out w0).mono ?_
  rintro e w1 ⟨rfl, rfl⟩
  go_upto_region 3 with fail
  go_wp2_with (first | (with_reducible refine wpList_load_mid (op := ⟨some 12, _, _, _, _, _⟩) rfl _ _ rfl (W.heap.size + 1 + 1 + 1) 0 rfl ((flg []).map Value.bool) _ HR.out Try.underlying60 rfl (by rw [List.length_map, flg_len]; exact flag_info) ?_) | (with_reducible refine wpList_store_mid (op := ⟨none, _, _, _, _, _⟩) rfl _ _ _ rfl (W.heap.size + 1) 0 ((flg []).map Value.bool).toArray rfl rfl HT.out HI.out H1.out ?_; rw [← HW3.out]))
  have hb3 : Boxed (w3.setCell ⟨W.heap.size + 1 + 1, 0, none⟩ (.bool false)) (W.heap.size + 1 + 1) 4 (.bool false) := HZ3.out.set _
  have hf3 := HF3.out.keeps (Keeps.setCell w3 (S := (· = W.heap.size + 1 + 1)) (p := ⟨W.heap.size + 1 + 1, 0, none⟩) rfl (.bool false)) (by omega)
  exact bodyPost_ret (v := .tuple #[.agg ((flg []).map Value.bool).toArray, .bool false]) (results_cell2 rfl _ _ _ rfl rfl hf3.load (bool_load hb3)) rfl ⟨⟨_, flg_len _, rfl⟩, HB3.out.setCell (p := ⟨W.heap.size + 1 + 1, 0, none⟩) (by show W.heap.size ≤ W.heap.size + 1 + 1; omega) _⟩

theorem heap_own {X Y : World} {row : Option Nat} {k : Nat} {cs : Array Value} {T : TypeId} {f : Nat × Nat} (h : X.heap[k]? = some (.cells cs T f)) (hg : X.grownBy Y row) (hr : ∀ r, row = some r → ∃ o : Obj, X.heap[r]? = some o ∧ o.isCells = false) : Y.heap[k]? = some (.cells cs T f) :=
  (hg.block k (Array.getElem?_eq_some_iff.1 h).1 (fun e => by obtain ⟨o, ho, hc⟩ := hr k e.symm; rw [h] at ho; cases ho; cases hc)).trans h
def okP (pg : Int) (pre : List Int) : Prop := pre.Nodup ∧ ∀ x ∈ pre, hasB pg x = true
/-- Between two rounds. -/
def FI (W : World) (z : Nat) (b pg : Int) (v : Value) (pre : List Int) (W' : World) : Prop :=
  FBox W' (z + 1 + 1 + 1) (flg pre) ∧ PBox W' z b pg v ∧ FBox W' (z + 1) (flg []) ∧ Boxed W' (z + 1 + 1) 4 (.bool false) ∧ Below z W W' ∧ okP pg pre
/-- Where a round has left. -/
def FX (W : World) (z : Nat) (pg : Int) (c : Code) (pre : List Int) (W' : World) : Prop :=
  c = .ret ∧ (∃ bs, FBox W' (z + 1) bs) ∧ Boxed W' (z + 1 + 1) 4 (.bool false) ∧ Below z W W' ∧ ¬ okP pg pre
theorem okP_snoc {pg : Int} {pre : List Int} {x : Int} (h : okP pg pre) (h1 : hasB pg x = true) (h2 : x ∉ pre) : okP pg (pre ++ [x]) :=
  ⟨List.nodup_append.2 ⟨h.1, by simp, fun a ha b hb e => by simp at hb; subst hb; subst e; exact h2 ha⟩, fun y hy => by
    rcases List.mem_append.1 hy with hy | hy
    · exact h.2 y hy
    · simp at hy; subst hy; exact h1⟩
theorem okP_not_has {pg : Int} {pre : List Int} {x : Int} (h1 : hasB pg x = false) : ¬ okP pg (pre ++ [x]) := fun h => by
  have := h.2 x (by simp)
  rw [h1] at this; cases this
theorem okP_not_mem {pg : Int} {pre : List Int} {x : Int} (h1 : x ∈ pre) : ¬ okP pg (pre ++ [x]) := fun h => by
  have := (List.nodup_append.1 h.1).2.2 x h1 x (by simp)
  exact this rfl

set_option maxRecDepth 100000 in
set_option maxHeartbeats 4000000 in
theorem flags_yes (b pg : Int) (p : Option Addr) (c : Nat) (fs : List Int) (W : World) (hmax : fs.length ≤ 4611686018427387904) (hyes : fitsB b pg = true) (hl : RowOut (fun _ => False) W p fs) :
    Calls Try.prog 34 #[.agg #[.int .i64 b, .int .i64 pg, .slice p fs.length c]] W fun e w' => ((e = .returned (.tuple #[.agg ((flg fs).map Value.bool).toArray, .bool true]) ∧ okP pg fs) ∨ ((∃ bs : List Bool, bs.length = 64 ∧ e = .returned (.tuple #[.agg (bs.map Value.bool).toArray, .bool false])) ∧ ¬ okP pg fs)) ∧ Below W.heap.size W w' := by
  have HF := Lib.hid (wF_facts W b pg (.slice p fs.length c))
  have HP := Lib.hid (show pg ≤ 64 by unfold fitsB at hyes; simp only [Bool.and_eq_true, decide_eq_true_eq] at hyes; omega)
  obtain ⟨w0, hw0⟩ : ∃ X, X = wF W b pg (.slice p fs.length c) := ⟨_, rfl⟩
  rw [← hw0] at HF
  unfold wF at hw0
  obtain ⟨c0, c1, c2⟩ := HF.out.1.cells
  have HC := Lib.hid (fun Z : World => fits_c b pg Z)
  rw [hyes] at HC
  have HL := Lib.hid (show RowOut (fun k => k = W.heap.size + 1 + 1 + 1) w0 p fs from fun hne => by
    obtain ⟨bb, off, e, -, hcs⟩ := hl hne
    obtain ⟨i0, hi0⟩ : ∃ i : Nat, i < fs.length := ⟨0, by cases fs with | nil => exact absurd rfl hne | cons _ _ => simp⟩
    have hlt := World.block_lt_of_cell? W _ (hcs i0 hi0)
    exact ⟨bb, off, e, (by simp only at hlt; omega), fun i hi => below_cell HF.out.2.2.2.2.1 (hcs i hi)⟩)
  clear hyes hl
  refine (callsIn_wide (n := 9)).1 ?_
  refine callsIn_of_wp_marks Try.func34 rfl trivial ?_ rfl
  simp only [Try.ntmps34, List.size_toArray, List.length_cons, List.length_nil, Nat.reduceAdd, Nat.reduceSub, Array.replicate_succ, Array.replicate_zero, List.push_toArray, List.append_toArray, List.nil_append, List.cons_append]
  gi_wp2_with fail
  rw [← hw0]
  clear hw0
  refine ⟨trivial, (callsIn_wide.2 (HC.out w0)).mono ?_⟩
  rintro e w1 ⟨rfl, rfl⟩
  gi_wp2_with fail
  refine ⟨trivial, (callsIn_wide.2 (next_c b pg _ w1)).mono ?_⟩
  rintro e w2 ⟨rfl, hw2⟩
  have hb12 : Below w1.heap.size w1 w2 := by rw [hw2]; exact below1 _ _
  have HPB := Lib.hid (show PBox w2 w1.heap.size b pg (.slice p fs.length c) by rw [hw2]; exact PBox.new _ _ _ _)
  have HI0 := Lib.hid (show FI W W.heap.size b pg (.slice p fs.length c) [] w2 from ⟨HF.out.2.2.2.1.below hb12, HF.out.1.below hb12, HF.out.2.1.below hb12, (hb12.block _ HF.out.2.2.1.lt).trans HF.out.2.2.1, below_then HF.out.2.2.2.2.1 HF.out.2.2.2.2.1.size hb12, List.nodup_nil, fun _ h => by cases h⟩)
  have HL2 := Lib.hid (HL.out.below hb12)
  have hz2 : w2.heap.size = W.heap.size + 5 := by rw [hw2, World.size_alloc, HF.out.2.2.2.2.2]
  clear hw2 hb12 c0 c1 c2 HL HC
  gi_wp2
  refine wpIn_rangeDeep rfl (by omega) (gf := 40) (lb := #[.pointer (some ⟨w1.heap.size, 0, none⟩)]) rfl trivial (enters_of Try.func40 (by kernel_rfl) rfl)
    (next_stops 8 (by omega) (fun k => k = W.heap.size + 1 + 1 + 1) w1.heap.size c b pg p fs w2 (fun k e => by omega) hmax HPB.out HL2.out) (fun h k => h.trans k) (fun W l o o' _ => KeepsCells.turn _ W l o o') (Below.refl _ _) (fun _ => rfl)
    (FI W W.heap.size b pg (.slice p fs.length c)) (FX W W.heap.size pg) ?hI ?hIx HI0.out
    (fun x a' _ => a' = { tmps := #[.agg #[.int .i64 b, .int .i64 pg, .slice p fs.length c], .pointer (some ⟨W.heap.size, 0, none⟩), .pointer (some ⟨W.heap.size + 1, 0, none⟩), .pointer (some ⟨W.heap.size + 1 + 1, 0, none⟩), .pointer (some ⟨W.heap.size + 1 + 1 + 1, 0, none⟩), .int .i64 x, .pointer (some ⟨W.heap.size, 0, none⟩), .int .i64 b, .pointer (some ⟨W.heap.size, 1, none⟩), .int .i64 pg, .bool true, .bool false, undef, .agg #[.int .i64 b, .int .i64 pg, .slice p fs.length c], .func (.func 40) #[] #[.pointer (some ⟨w1.heap.size, 0, none⟩)], .int .i64 x, undef, undef, undef, undef, undef, undef, undef, undef, undef, undef, undef, undef, undef], defers := [] })
    (fun _ _ => ownFrom_pure _ _) ?assign ?body ?done ?stop
  case hI =>
    rintro s X Y row ⟨h1, h2, h3, h4, h5, h6⟩ hg hr
    have hr' := fun r e => (hr r e).2
    exact ⟨⟨h1.1, heap_own h1.2 hg hr'⟩, heap_own h2 hg hr', ⟨h3.1, heap_own h3.2 hg hr'⟩, heap_own h4 hg hr', h5.grown hg h5.size (fun k e => by have := (hr k e).1; omega), h6⟩
  case hIx =>
    rintro cc s X Y row ⟨h1, ⟨bs, h2⟩, h3, h4, h5⟩ hg hr
    have hr' := fun r e => (hr r e).2
    exact ⟨h1, ⟨bs, h2.1, heap_own h2.2 hg hr'⟩, heap_own h3 hg hr', h4.grown hg h4.size (fun k e => by have := (hr k e).1; omega), h5⟩
  case assign =>
    rintro l' pre x W' K hi hK
    gi_wp2
    exact hK _ _ (KeepsFrom.refl _ _) (KeepsCells.refl _ _) hi rfl
  case body =>
    rintro l' pre x a' W' hl' _ hI rfl hlen -
    obtain ⟨hi1, hi2, hi3, hi4, hi5, hi6⟩ := id hI
    obtain ⟨c0, c1, c2⟩ := hi2.cells
    have HH := Lib.hid (fun Z : World => has_c b pg x (.slice p fs.length c) Z)
    have HI := Lib.hid hI
    have HS := Lib.hid hz2
    have HLT := Lib.hid (show W.heap.size + 1 + 1 + 1 < W'.heap.size from hi1.lt)
    clear hI hi1 hi2 hi3 hi4 hi5 hi6 hz2 HI0 HPB HL2 HF
    cases hx : hasB pg x with
    | false =>
      rw [hx] at HH
      have HX := Lib.hid hx
      clear hx
      gi_wp2_with fail
      refine ⟨trivial, ((callsIn_wide.2 (HH.out W')).inRound l').mono ?_⟩
      rintro e w4 ⟨rfl, hb4⟩
      have HB4 := Lib.hid hb4
      obtain ⟨hi1, hi2, hi3, hi4, hi5, hi6⟩ := HI.out
      have HFL := Lib.hid (hi1.below hb4)
      have HFR := Lib.hid (hi3.below hb4)
      have HBX := Lib.hid (show Boxed w4 (W.heap.size + 1 + 1) 4 (.bool false) from (hb4.block _ hi4.lt).trans hi4)
      have HBW := Lib.hid (below_then hi5 hi5.size hb4)
      clear hb4 c0 c1 c2 hi1 hi2 hi3 hi4 hi5 hi6 HH
      have HR := Lib.hid (HFL.out).range
      have HI1 := Lib.hid (show (Try.prog.info? 60).map (·.size) = some ((flg pre).map Value.bool).length by rw [List.length_map, (HFL.out).1]; exact flag_info)
      have HT := Lib.hid (show w4.there (W.heap.size + 1) 0 ((flg pre).map Value.bool).toArray.size by have := (HFR.out).there; simpa [(HFL.out).1] using this)
      have HI2 := Lib.hid (show (Try.prog.info? 60).map (·.size) = some ((flg pre).map Value.bool).toArray.size by have := flag_info; simpa [(HFL.out).1] using this)
      have H1 := Lib.hid (show ((flg pre).map Value.bool).toArray.all (·.oneCell') = true by simp [Value.oneCell'])
      obtain ⟨w3, hw3⟩ : ∃ X : World, X = w4.setCells (W.heap.size + 1) 0 (((flg pre).map Value.bool).toArray.toList) := ⟨_, rfl⟩
      have hk3 : Keeps (fun k => k = W.heap.size + 1) w4 w3 := by rw [hw3]; exact Keeps.setCells _ _ _ _
      have HF3 := Lib.hid (show FBox w3 (W.heap.size + 1) (flg pre) by rw [hw3]; exact (HFR.out).put _ (HFL.out).1)
      have hz3 : Boxed w3 (W.heap.size + 1 + 1) 4 (.bool false) := (hk3.block _ (HBX.out).lt (by omega)).trans (HBX.out)
      have HZ3 := Lib.hid hz3
      have k3 := hz3.cell
      have k4 := hz3.frozen
      have HK3 := Lib.hid hk3
      have HW3 := Lib.hid hw3
      have HFB := Lib.hid ((hz3.set (.bool false)))
      have HFF := Lib.hid (HF3.out.keeps (Keeps.setCell w3 (S := (· = W.heap.size + 1 + 1)) (p := ⟨W.heap.size + 1 + 1, 0, none⟩) rfl (.bool false)) (by omega))
      clear hw3 hk3 hz3
      gi_wp2_with (first | (with_reducible refine wpListIn_load_mid (op := ⟨some 25, _, _, _, _, _⟩) rfl _ _ rfl (W.heap.size + 1 + 1 + 1) 0 rfl ((flg pre).map Value.bool) _ HR.out Try.underlying60 rfl HI1.out ?_) | (with_reducible refine wpListIn_store_mid (op := ⟨none, _, _, _, _, _⟩) rfl _ _ _ rfl (W.heap.size + 1) 0 ((flg pre).map Value.bool).toArray rfl rfl HT.out HI2.out H1.out ?_; rw [← HW3.out]))
      exact ⟨(((KeepsFrom.of_grownBy (row := none) ⟨HB4.out.os, HB4.out.tape, HB4.out.output, HB4.out.size, fun k hk _ => HB4.out.block k hk⟩ (fun j e => by cases e)).trans ⟨HK3.out.size, fun k o hk h _ => (HK3.out.block k (Array.getElem?_eq_some_iff.1 h).1 (by have := HS.out; omega)).trans h⟩).trans ((KeepsOthers.setCell _ _ _).from _)), rfl, ⟨_, HFF.out⟩, HFB.out, (HBW.out.trans (HK3.out.below HBW.out.size (fun k e => by omega))).setCell (p := ⟨W.heap.size + 1 + 1, 0, none⟩) (by show W.heap.size ≤ W.heap.size + 1 + 1; omega) _, okP_not_has HX.out⟩
    | true =>
      obtain ⟨k, rfl⟩ : ∃ k : Nat, x = (k : Int) := by
        unfold hasB at hx; simp only [Bool.and_eq_true, decide_eq_true_eq] at hx
        exact Int.eq_ofNat_of_zero_le hx.1
      have hk64 : k < 64 := by unfold hasB at hx; simp only [Bool.and_eq_true, decide_eq_true_eq] at hx; have := HP.out; omega
      rw [hx] at HH
      have HX := Lib.hid hx
      clear hx
      gi_wp2_with fail
      refine ⟨trivial, ((callsIn_wide.2 (HH.out W')).inRound l').mono ?_⟩
      rintro e w4 ⟨rfl, hb4⟩
      have HB4 := Lib.hid hb4
      obtain ⟨hi1, hi2, hi3, hi4, hi5, hi6⟩ := HI.out
      have HFL := Lib.hid (hi1.below hb4)
      have HFR := Lib.hid (hi3.below hb4)
      have HPX := Lib.hid (hi2.below hb4)
      have HBX := Lib.hid (show Boxed w4 (W.heap.size + 1 + 1) 4 (.bool false) from (hb4.block _ hi4.lt).trans hi4)
      have HBW := Lib.hid (below_then hi5 hi5.size hb4)
      have hc4 := HFL.out.cell k (by rw [flg_len]; exact hk64)
      rw [flg_get _ _ hk64] at hc4
      have HOK := Lib.hid hi6
      clear hb4 c0 c1 c2 hi1 hi2 hi3 hi4 hi5 hi6 HH
      by_cases hm : (k : Int) ∈ pre
      · rw [decide_eq_true hm] at hc4
        have HM := Lib.hid hm
        clear hm
        have HR := Lib.hid (HFL.out).range
        have HI1 := Lib.hid (show (Try.prog.info? 60).map (·.size) = some ((flg pre).map Value.bool).length by rw [List.length_map, (HFL.out).1]; exact flag_info)
        have HT := Lib.hid (show w4.there (W.heap.size + 1) 0 ((flg pre).map Value.bool).toArray.size by have := (HFR.out).there; simpa [(HFL.out).1] using this)
        have HI2 := Lib.hid (show (Try.prog.info? 60).map (·.size) = some ((flg pre).map Value.bool).toArray.size by have := flag_info; simpa [(HFL.out).1] using this)
        have H1 := Lib.hid (show ((flg pre).map Value.bool).toArray.all (·.oneCell') = true by simp [Value.oneCell'])
        obtain ⟨w3, hw3⟩ : ∃ X : World, X = w4.setCells (W.heap.size + 1) 0 (((flg pre).map Value.bool).toArray.toList) := ⟨_, rfl⟩
        have hk3 : Keeps (fun k => k = W.heap.size + 1) w4 w3 := by rw [hw3]; exact Keeps.setCells _ _ _ _
        have HF3 := Lib.hid (show FBox w3 (W.heap.size + 1) (flg pre) by rw [hw3]; exact (HFR.out).put _ (HFL.out).1)
        have hz3 : Boxed w3 (W.heap.size + 1 + 1) 4 (.bool false) := (hk3.block _ (HBX.out).lt (by omega)).trans (HBX.out)
        have HZ3 := Lib.hid hz3
        have k3 := hz3.cell
        have k4 := hz3.frozen
        have HK3 := Lib.hid hk3
        have HW3 := Lib.hid hw3
        have HFB := Lib.hid ((hz3.set (.bool false)))
        have HFF := Lib.hid (HF3.out.keeps (Keeps.setCell w3 (S := (· = W.heap.size + 1 + 1)) (p := ⟨W.heap.size + 1 + 1, 0, none⟩) rfl (.bool false)) (by omega))
        clear hw3 hk3 hz3
        gi_wp2_with (first | (with_reducible refine wpListIn_load_mid (op := ⟨some 25, _, _, _, _, _⟩) rfl _ _ rfl (W.heap.size + 1 + 1 + 1) 0 rfl ((flg pre).map Value.bool) _ HR.out Try.underlying60 rfl HI1.out ?_) | (with_reducible refine wpListIn_store_mid (op := ⟨none, _, _, _, _, _⟩) rfl _ _ _ rfl (W.heap.size + 1) 0 ((flg pre).map Value.bool).toArray rfl rfl HT.out HI2.out H1.out ?_; rw [← HW3.out]))
        exact ⟨(((KeepsFrom.of_grownBy (row := none) ⟨HB4.out.os, HB4.out.tape, HB4.out.output, HB4.out.size, fun k hk _ => HB4.out.block k hk⟩ (fun j e => by cases e)).trans ⟨HK3.out.size, fun k o hk h _ => (HK3.out.block k (Array.getElem?_eq_some_iff.1 h).1 (by have := HS.out; omega)).trans h⟩).trans ((KeepsOthers.setCell _ _ _).from _)), rfl, ⟨_, HFF.out⟩, HFB.out, (HBW.out.trans (HK3.out.below HBW.out.size (fun k e => by omega))).setCell (p := ⟨W.heap.size + 1 + 1, 0, none⟩) (by show W.heap.size ≤ W.heap.size + 1 + 1; omega) _, okP_not_mem HM.out⟩
      · rw [decide_eq_false hm] at hc4
        have hf4 := HFL.out.mark k
        have HM := Lib.hid hm
        clear hm
        gi_wp2
        have hkk := Keeps.setCell w4 (S := (· = W.heap.size + 1 + 1 + 1)) (p := ⟨W.heap.size + 1 + 1 + 1, k, none⟩) rfl (.bool true)
        exact ⟨((KeepsFrom.of_grownBy (row := none) ⟨HB4.out.os, HB4.out.tape, HB4.out.output, HB4.out.size, fun k hk _ => HB4.out.block k hk⟩ (fun j e => by cases e)).trans ((KeepsOthers.setCell _ _ _).from _)),
          (KeepsCells.keeps (Keeps.of_below HB4.out)).trans (KeepsCells.keeps hkk), flg_snoc pre k ▸ HFL.out.set k true, HPX.out.keeps hkk (by omega), HFR.out.keeps hkk (by omega), (hkk.block _ HBX.out.lt (by omega)).trans HBX.out, HBW.out.setCell (p := ⟨W.heap.size + 1 + 1 + 1, k, none⟩) (by show W.heap.size ≤ W.heap.size + 1 + 1 + 1; omega) _, okP_snoc HOK.out HX.out HM.out⟩
  case done =>
    rintro D xs W' hD rfl hI hK
    obtain ⟨hi1, hi2, hi3, hi4, hi5, hi6⟩ := id hI
    have HI := Lib.hid hI
    clear hI hi1 hi2 hi3 hi4 hi5 hi6 HI0 HPB HL2 HF
    have HR := Lib.hid (HI.out.1).range
    have HI1 := Lib.hid (show (Try.prog.info? 60).map (·.size) = some ((flg fs.reverse).map Value.bool).length by rw [List.length_map, (HI.out.1).1]; exact flag_info)
    have HT := Lib.hid (show W'.there (W.heap.size + 1) 0 ((flg fs.reverse).map Value.bool).toArray.size by have := (HI.out.2.2.1).there; simpa [(HI.out.1).1] using this)
    have HI2 := Lib.hid (show (Try.prog.info? 60).map (·.size) = some ((flg fs.reverse).map Value.bool).toArray.size by have := flag_info; simpa [(HI.out.1).1] using this)
    have H1 := Lib.hid (show ((flg fs.reverse).map Value.bool).toArray.all (·.oneCell') = true by simp [Value.oneCell'])
    obtain ⟨w3, hw3⟩ : ∃ X : World, X = W'.setCells (W.heap.size + 1) 0 (((flg fs.reverse).map Value.bool).toArray.toList) := ⟨_, rfl⟩
    have hk3 : Keeps (fun k => k = W.heap.size + 1) W' w3 := by rw [hw3]; exact Keeps.setCells _ _ _ _
    have HF3 := Lib.hid (show FBox w3 (W.heap.size + 1) (flg fs.reverse) by rw [hw3]; exact (HI.out.2.2.1).put _ (HI.out.1).1)
    have hz3 : Boxed w3 (W.heap.size + 1 + 1) 4 (.bool false) := (hk3.block _ (HI.out.2.2.2.1).lt (by omega)).trans (HI.out.2.2.2.1)
    have HZ3 := Lib.hid hz3
    have k3 := hz3.cell
    have k4 := hz3.frozen
    have HK3 := Lib.hid hk3
    have HW3 := Lib.hid hw3
    have HFB := Lib.hid ((hz3.set (.bool true)))
    have HFF := Lib.hid (HF3.out.keeps (Keeps.setCell w3 (S := (· = W.heap.size + 1 + 1)) (p := ⟨W.heap.size + 1 + 1, 0, none⟩) rfl (.bool true)) (by omega))
    clear hw3 hk3 hz3
    have HKD := Lib.hid (show (w3.setCell ⟨W.heap.size + 1 + 1, 0, none⟩ (.bool true)).heap[D]? = some (.deferred (some [])) from (KeepsOthers.setCell _ _ _).same D _ ((HK3.out.block D (Array.getElem?_eq_some_iff.1 hK).1 (by omega)).trans hK) rfl)
    have HDN := Lib.hid (show W.heap.size + 5 ≤ D by omega)
    have HBD := Lib.hid (show Below W.heap.size W (w3.setCell ⟨W.heap.size + 1 + 1, 0, none⟩ (.bool true)) from (HI.out.2.2.2.2.1.trans (HK3.out.below HI.out.2.2.2.2.1.size (fun k e => by omega))).setCell (p := ⟨W.heap.size + 1 + 1, 0, none⟩) (by show W.heap.size ≤ W.heap.size + 1 + 1; omega) _)
    have HOK := Lib.hid HI.out.2.2.2.2.2
    clear hK hD hz2
    gi_wp2_with (first | (with_reducible refine wpListIn_load_mid (op := ⟨some 28, _, _, _, _, _⟩) rfl _ _ rfl (W.heap.size + 1 + 1 + 1) 0 rfl ((flg fs.reverse).map Value.bool) _ HR.out Try.underlying60 rfl HI1.out ?_) | (with_reducible refine wpListIn_store_mid (op := ⟨none, _, _, _, _, _⟩) rfl _ _ _ rfl (W.heap.size + 1) 0 ((flg fs.reverse).map Value.bool).toArray rfl rfl HT.out HI2.out H1.out ?_; rw [← HW3.out]))
    refine ⟨by simp, .inl ⟨_, _, rfl, run_takeDeferred HKD.out, ?_⟩⟩
    have hp1 : FBox ((w3.setCell ⟨W.heap.size + 1 + 1, 0, none⟩ (.bool true)).putObj D (.deferred none)) (W.heap.size + 1) (flg fs.reverse) := ⟨HFF.out.1, (World.putObj_heap_other (by have := HDN.out; omega)).trans HFF.out.2⟩
    have hp2 : Boxed ((w3.setCell ⟨W.heap.size + 1 + 1, 0, none⟩ (.bool true)).putObj D (.deferred none)) (W.heap.size + 1 + 1) 4 (.bool true) := (World.putObj_heap_other (by have := HDN.out; omega)).trans HFB.out
    refine ⟨_, results_cell2 rfl _ _ _ rfl rfl hp1.load (bool_load hp2), .inl ⟨by rw [flg_rev], ⟨(List.reverse_perm fs).nodup_iff.1 HOK.out.1, fun x hx => HOK.out.2 x (List.mem_reverse.2 hx)⟩⟩, HBD.out.grown (grownBy_putObj' _ D _) HBD.out.size (fun k e => by cases e; have := HDN.out; omega)⟩
  case stop =>
    rintro D cc pre W' hD ⟨j, hj⟩ ⟨rfl, ⟨bs, h2⟩, h3, h4, h5⟩ hK
    clear HI0 HPB HL2 HF
    have HDN := Lib.hid (show W.heap.size + 5 ≤ D by omega)
    have HH := Lib.hid (And.intro h2 (And.intro h3 (And.intro h4 h5)))
    have HJ := Lib.hid hj
    clear hj h2 h3 h4 h5 hz2 hD
    gi_wp2
    refine ⟨by simp, .inl ⟨_, _, rfl, run_takeDeferred hK, ?_⟩⟩
    obtain ⟨h2, h3, h4, h5⟩ := HH.out
    have hp1 : FBox (W'.putObj D (.deferred none)) (W.heap.size + 1) bs := ⟨h2.1, (World.putObj_heap_other (by have := HDN.out; omega)).trans h2.2⟩
    have hp2 : Boxed (W'.putObj D (.deferred none)) (W.heap.size + 1 + 1) 4 (.bool false) := (World.putObj_heap_other (by have := HDN.out; omega)).trans h3
    refine ⟨_, results_cell2 rfl _ _ _ rfl rfl hp1.load (bool_load hp2), .inr ⟨⟨bs, h2.1, rfl⟩, fun hok => h5 ?_⟩, h4.grown (grownBy_putObj' _ D _) h4.size (fun k e => by cases e; have := HDN.out; omega)⟩
    have hsub : ∀ x, x ∈ pre → x ∈ fs := fun x hx => by rw [HJ.out] at hx; exact List.mem_of_mem_drop (List.mem_reverse.1 hx)
    refine ⟨?_, fun x hx => hok.2 x (hsub x hx)⟩
    rw [HJ.out]
    exact (List.reverse_perm _).nodup_iff.2 (hok.1.sublist (List.drop_sublist _ _))

theorem rightP_iff {b p : Int} {fs : List Int} : rightP b p fs = true ↔ fitsB b p = true ∧ okP p fs := by
  unfold rightP okP
  simp [List.all_eq_true]
/-- Which pages are free, and whether the pool may be. -/
theorem flags_c (b pg : Int) (p : Option Addr) (c : Nat) (fs : List Int) (W : World) (hmax : fs.length ≤ 4611686018427387904) (hl : RowOut (fun _ => False) W p fs) :
    Calls Try.prog 34 #[.agg #[.int .i64 b, .int .i64 pg, .slice p fs.length c]] W fun e w' => (∃ bs : List Bool, bs.length = 64 ∧ e = .returned (.tuple #[.agg (bs.map Value.bool).toArray, .bool (rightP b pg fs)]) ∧ (rightP b pg fs = true → bs = flg fs)) ∧ Below W.heap.size W w' := by
  cases hf : fitsB b pg with
  | false =>
    have hr : rightP b pg fs = false := by unfold rightP; rw [hf]; rfl
    rw [hr]
    refine (flags_no b pg p c fs W hf).mono ?_
    rintro e w' ⟨⟨bs, hb, rfl⟩, hB⟩
    exact ⟨⟨bs, hb, rfl, fun h => by cases h⟩, hB⟩
  | true =>
    refine (flags_yes b pg p c fs W hmax hf hl).mono ?_
    rintro e w' ⟨⟨rfl, hok⟩ | ⟨⟨bs, hb, rfl⟩, hok⟩, hB⟩
    · have hr : rightP b pg fs = true := rightP_iff.2 ⟨hf, hok⟩
      rw [hr]
      exact ⟨⟨_, flg_len _, rfl, fun _ => rfl⟩, hB⟩
    · have hr : rightP b pg fs = false := by
        cases h : rightP b pg fs with
        | false => rfl
        | true => exact absurd (rightP_iff.1 h).2 hok
      rw [hr]
      exact ⟨⟨bs, hb, rfl, fun h => by cases h⟩, hB⟩
end Go.Proofs.Ythjkaabbbhfjhaa
