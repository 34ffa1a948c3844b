/-
  Package reader: the oldest section.
  Conditions: as many of the one row as of the other.
-/
import Derived.Test.YtjfphhemhaphbabYMay
import Derived.Laws.EntriesVeiled
namespace Go.Proofs.Ytjfphhemhaphbab
set_option maxRecDepth 100000
open Go.RowKit Go.Shelf Go.Maps
attribute [local go_sem] Oper.semAt_some

def aheadB (a s : Int) : Bool := decide (a = 0) || decide (s < a)
def oldM (l : List (Int × Int)) : Int := l.foldl (fun a s => if aheadB a s.2 = true then s.2 else a) 0
theorem oldM_snoc (l : List (Int × Int)) (s : Int × Int) : oldM (l ++ [s]) = if aheadB (oldM l) s.2 = true then s.2 else oldM l := by unfold oldM; rw [List.foldl_append]; rfl

set_option maxHeartbeats 4000000 in
theorem ahead_c (s a : Int) (lb : Nat) (W : World) (hc : W.cell? ⟨lb, 0, none⟩ = some (.int .i64 a)) : Calls Try.prog 31 #[.int .i64 s, .pointer (some ⟨lb, 0, none⟩)] W fun e w' => e = .returned (.bool (aheadB a s)) ∧ w' = W := by
  unfold aheadB
  by_cases h : a = 0
  · have hq : (a == 0) = true := by rw [h]; rfl
    rw [decide_eq_true h, Bool.true_or]
    clear h
    go_enter Try.func31, Try.ntmps31
    go_wp2
    go_ret
    exact ⟨rfl, rfl⟩
  · have hq : (a == 0) = false := by rw [beq_eq_false_iff_ne]; exact h
    rw [decide_eq_false h, Bool.false_or]
    clear h
    go_enter Try.func31, Try.ntmps31
    go_wp2
    go_ret
    exact ⟨rfl, rfl⟩

def wO (W : World) (now : Int) (u v : Value) : World := ((W.alloc (.cells #[.int .i64 now, u, v] 24)).alloc (.cells #[.int .i64 0] 3)).alloc (.cells #[.func (.func 31) #[] #[.pointer (some ⟨W.heap.size + 1, 0, none⟩)]] 53)
theorem wO_facts (W : World) (now : Int) (u v : Value) : RBox (wO W now u v) W.heap.size now u v ∧ Boxed (wO W now u v) (W.heap.size + 1) 3 (.int .i64 0) ∧ Boxed (wO W now u v) (W.heap.size + 1 + 1) 53 (.func (.func 31) #[] #[.pointer (some ⟨W.heap.size + 1, 0, none⟩)]) ∧ Below W.heap.size W (wO W now u v) ∧ (wO W now u v).heap.size = W.heap.size + 3 := by
  refine ⟨(((RBox.new W now u v).below (below1 _ _)).below (below1 _ _)), ?_, ?_, below3 _ _ _ _, by unfold wO; simp⟩
  · have := (Boxed.new (W.alloc (.cells #[.int .i64 now, u, v] 24)) 3 (.int .i64 0)).alloc (.cells #[.func (.func 31) #[] #[.pointer (some ⟨W.heap.size + 1, 0, none⟩)]] 53)
    simpa [wO] using this
  · have := Boxed.new ((W.alloc (.cells #[.int .i64 now, u, v] 24)).alloc (.cells #[.int .i64 0] 3)) 53 (.func (.func 31) #[] #[.pointer (some ⟨W.heap.size + 1, 0, none⟩)])
    simpa [wO] using this
/-- Between two rounds. -/
def OI (W : World) (pre : List (Int × Int × Int)) (W' : World) : Prop :=
  Boxed W' (W.heap.size + 1) 3 (.int .i64 (oldM (pre.map (·.2)))) ∧ Boxed W' (W.heap.size + 1 + 1) 53 (.func (.func 31) #[] #[.pointer (some ⟨W.heap.size + 1, 0, none⟩)]) ∧ Below W.heap.size W W'
theorem oi_own (W : World) (z : Nat) (hz : W.heap.size + 4 ≤ z) : OwnFrom z (OI W) := by
  rintro s X Y row ⟨h1, h2, h3⟩ hg hr
  have hr' := fun r e => (hr r e).2
  exact ⟨heap_own h1 hg hr', heap_own h2 hg hr', h3.grown hg h3.size (fun k e => by have := (hr k e).1; omega)⟩

set_option maxHeartbeats 8000000 in
theorem oldest_c (now : Int) (u v : Value) (ns os : List Int) (W : World) (h2 : os.length = ns.length) (h8 : ns.length ≤ 8) (hnn : NumsAt W .i64 u ns) (hoo : NumsAt W .i64 v os) :
    Calls Try.prog 27 #[.agg #[.int .i64 now, u, v]] W fun e w' => e = .returned (.int .i64 (oldM (secs (ns.zip os)))) ∧ Below W.heap.size W w' := by
  obtain ⟨p, c, rfl, hp⟩ := hnn
  obtain ⟨q, d, rfl, hq⟩ := hoo
  rw [h2]
  have hn : RowOut (fun _ => False) W p ns := fun hne => by obtain ⟨b, off, e, hc⟩ := hp hne; exact ⟨b, off, e, fun h => h, hc⟩
  have ho : RowOut (fun _ => False) W q os := fun hne => by obtain ⟨b, off, e, hc⟩ := hq hne; exact ⟨b, off, e, fun h => h, hc⟩
  clear hp hq
  have HF := Lib.hid (wO_facts W now (.slice p ns.length c) (.slice q ns.length d))
  obtain ⟨w0, hw0⟩ : ∃ X, X = wO W now (.slice p ns.length c) (.slice q ns.length d) := ⟨_, rfl⟩
  rw [← hw0] at HF
  unfold wO at hw0
  have hl : ∀ {p : Option Addr} {fs : List Int}, RowOut (fun _ => False) W p fs → RowOut (fun k => k = W.heap.size + 1) w0 p fs := fun {p fs} hl hne => by
    obtain ⟨bb, off, e, -, hcs⟩ := hl hne
    obtain ⟨i0, hi0⟩ : ∃ i : Nat, i < fs.length := ⟨0, by cases fs with | nil => exact absurd rfl hne | cons _ _ => simp⟩
    have hlt := World.block_lt_of_cell? W _ (hcs i0 hi0)
    exact ⟨bb, off, e, (by simp only at hlt; omega), fun i hi => below_cell HF.out.2.2.2.1 (hcs i hi)⟩
  have HL := Lib.hid (And.intro (hl hn) (hl ho))
  have HLEN := Lib.hid h2
  obtain ⟨c0, c1, c2⟩ := HF.out.1.cells
  clear h2 hn ho hl
  refine (callsIn_wide (n := 9)).1 ?_
  refine callsIn_of_wp_marks Try.func27 rfl trivial ?_ rfl
  simp only [Try.ntmps27, List.size_toArray, List.length_cons, List.length_nil, Nat.reduceAdd, Nat.reduceSub, Array.replicate_succ, Array.replicate_zero, List.push_toArray, List.append_toArray, List.nil_append, List.cons_append]
  gi_wp2_with fail
  rw [← hw0]
  clear hw0
  refine ⟨trivial, (callsIn_wide.2 (sections_c now _ _ w0)).mono ?_⟩
  rintro e w2 ⟨rfl, hw2⟩
  have hb12 : Below w0.heap.size w0 w2 := by rw [hw2]; exact below1 _ _
  have HPB := Lib.hid (show RBox w2 w0.heap.size now (.slice p ns.length c) (.slice q ns.length d) by rw [hw2]; exact RBox.new _ _ _ _)
  have HI0 := Lib.hid (show OI W [] w2 from ⟨(hb12.block _ HF.out.2.1.lt).trans HF.out.2.1, (hb12.block _ HF.out.2.2.1.lt).trans HF.out.2.2.1, below_then HF.out.2.2.2.1 HF.out.2.2.2.1.size hb12⟩)
  have HL2 := Lib.hid (And.intro (HL.out.1.below hb12) (HL.out.2.below hb12))
  have hz0 : w0.heap.size = W.heap.size + 3 := HF.out.2.2.2.2
  have hz2 : w2.heap.size = W.heap.size + 4 := by rw [hw2, World.size_alloc, hz0]
  have HZ0 := Lib.hid (And.intro hz0 hz2)
  clear hw2 hb12 c0 c1 c2 HL hz0 hz2
  gi_wp2
  have hOI := oi_own W w2.heap.size (by have := HZ0.out; omega)
  refine wpIn_rangeDeep rfl (by omega) (gf := 32) (lb := #[.pointer (some ⟨w0.heap.size, 0, none⟩)]) rfl trivial (enters_of Try.func32 (by kernel_rfl) rfl)
    (sections_stops 8 (by omega) (fun k => k = W.heap.size + 1) w0.heap.size now p q c d ns os w2 (by have := HZ0.out; omega) HLEN.out (by omega) HPB.out HL2.out.1 HL2.out.2) (fun h k => h.trans k) (fun W l o o' _ => KeepsCells.turn _ W l o o') (Below.refl _ _) (fun _ => rfl)
    (OI W) (fun _ _ _ => False) hOI (fun _ => ownFrom_pure _ _) HI0.out
    (fun x a' X => ∃ k, a' = { tmps := #[.agg #[.int .i64 now, .slice p ns.length c, .slice q ns.length d], .pointer (some ⟨W.heap.size, 0, none⟩), .int .i64 0, .pointer (some ⟨W.heap.size + 1, 0, none⟩), .pointer (some ⟨W.heap.size + 1 + 1, 0, none⟩), undef, .pointer (some ⟨k, 0, none⟩), .func (.func 31) #[] #[.pointer (some ⟨W.heap.size + 1, 0, none⟩)], .agg #[.int .i64 now, .slice p ns.length c, .slice q ns.length d], .func (.func 32) #[] #[.pointer (some ⟨w0.heap.size, 0, none⟩)], .int .i64 x.1, .agg #[.int .i64 x.2.1, .int .i64 x.2.2], undef, undef, undef, undef, undef, undef, undef], defers := [] } ∧ X.heap[k]? = some (.cells #[.int .i64 x.2.1, .int .i64 x.2.2] 59 (0, 0)))
    ?hAx ?assign ?body ?done ?stop
  case hAx =>
    rintro x a' s X Y row ⟨k, ha, hc⟩ hg hr
    exact ⟨k, ha, heap_own hc hg (fun r e => (hr r e).2)⟩
  case assign =>
    rintro l' pre x X K hi hK
    have hi2 := hOI.alloc (.cells #[.int .i64 x.2.1, .int .i64 x.2.2] 59) hi
    clear hi
    gi_wp2
    exact hK _ _ (KeepsFrom.of_grownBy (World.grownBy_alloc _ _ none) (fun j e => by cases e)) (fun b o v _ h => below_cell (below1 _ _) h) hi2 ⟨_, rfl, World.alloc_heap_new _ _⟩
  case body =>
    rintro l' pre x a' X hl' _ hI ⟨k, rfl, hck⟩ hlen -
    obtain ⟨hi1, hi2, hi3⟩ := hI
    obtain ⟨xc, xn, xo⟩ := x
    simp only at hck
    have hk1 : X.cell? ⟨k, 1, none⟩ = some (.int .i64 xo) := by simp [World.cell?, hck]
    have e1 := hi1.cell
    have f1 := hi1.frozen
    have e2 := hi2.cell
    have HSN := Lib.hid (show oldM ((pre ++ [(xc, xn, xo)]).map (·.2)) = if aheadB (oldM (pre.map (·.2))) xo = true then xo else oldM (pre.map (·.2)) by rw [List.map_append, List.map_singleton, oldM_snoc])
    have HI := Lib.hid (And.intro hi1 (And.intro hi2 hi3))
    obtain ⟨m, hm⟩ : ∃ m, m = oldM (pre.map (·.2)) := ⟨_, rfl⟩
    rw [← hm] at e1 HSN HI
    have HC := Lib.hid (ahead_c xo m (W.heap.size + 1) X e1)
    clear hi1 hi2 hi3 hck hlen hOI HI0 HPB HL2 hm
    cases hh : aheadB m xo with
    | false =>
      rw [hh] at HC HSN
      clear hh
      gi_wp2_with fail
      refine ⟨trivial, ((callsIn_wide.2 HC.out).inRound l').mono ?_⟩
      rintro e X2 ⟨rfl, rfl⟩
      gi_wp2
      refine ⟨KeepsFrom.refl _ _, KeepsCells.refl _ _, ?_, HI.out.2.1, HI.out.2.2⟩
      rw [HSN.out]; exact HI.out.1
    | true =>
      rw [hh] at HC HSN
      clear hh
      gi_wp2_with fail
      refine ⟨trivial, ((callsIn_wide.2 HC.out).inRound l').mono ?_⟩
      rintro e X2 ⟨rfl, hX2⟩
      subst hX2
      gi_wp2
      refine ⟨(KeepsOthers.setCell _ _ _).from _, KeepsCells.keeps (Keeps.setCell _ (S := (· = W.heap.size + 1)) (p := ⟨W.heap.size + 1, 0, none⟩) rfl _), ?_, ?_, HI.out.2.2.setCell (p := ⟨W.heap.size + 1, 0, none⟩) (by show W.heap.size ≤ W.heap.size + 1; omega) _⟩
      · rw [HSN.out]; exact HI.out.1.set _
      · exact ((Keeps.setCell _ (S := (· = W.heap.size + 1)) (p := ⟨W.heap.size + 1, 0, none⟩) rfl (.int .i64 xo)).block _ HI.out.2.1.lt (by omega)).trans HI.out.2.1
  case done =>
    rintro D xs X hD ⟨hxs, -⟩ ⟨h1, h2, h3⟩ hK
    rw [hxs] at h1
    have e4 := h1.cell
    have HB := Lib.hid h3
    have HW := Lib.hid (And.intro hD hK)
    have HSZ := Lib.hid (show W.heap.size ≤ w2.heap.size by have := HZ0.out; omega)
    clear h1 h2 h3 hxs hOI HI0 HPB HL2 hD hK
    gi_wp2
    refine leaves_marks (B := W.heap.size) [D] _ ((Marks.nil _ _).cons (Nat.le_trans HSZ.out HW.out.1) (by simp) HW.out.2) fun X' hX' => ⟨_, results_tmp rfl _ _ _, ?_, HB.out.trans hX'⟩
    rfl
  case stop =>
    rintro D cc pre X hD - hF hK
    exact hF.elim

end Go.Proofs.Ytjfphhemhaphbab
