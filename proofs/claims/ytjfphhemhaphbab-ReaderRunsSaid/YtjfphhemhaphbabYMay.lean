/-
  Package reader: which readers may be.
  Conditions: the ranges of Go's types.
-/
import Derived.Test.YtjfphhemhaphbabYMap
namespace Go.Proofs.Ytjfphhemhaphbab
set_option maxRecDepth 100000
open Go.RowKit Go.Shelf Go.Maps
attribute [local go_sem] Oper.semAt_some

def wM (W : World) (now : Int) (u v : Value) : World := (((W.alloc (.cells #[.int .i64 now, u, v] 24)).alloc (.map #[] 0)).alloc (.cells #[.map (some (W.heap.size + 1))] 54)).alloc (.cells #[.bool true] 4)
theorem wM_facts (W : World) (now : Int) (u v : Value) : RBox (wM W now u v) W.heap.size now u v ∧ MapHas (wM W now u v) (W.heap.size + 1) [] ∧ Boxed (wM W now u v) (W.heap.size + 1 + 1) 54 (.map (some (W.heap.size + 1))) ∧ Boxed (wM W now u v) (W.heap.size + 1 + 1 + 1) 4 (.bool true) ∧ Below W.heap.size W (wM W now u v) ∧ (wM W now u v).heap.size = W.heap.size + 4 := by
  refine ⟨((((RBox.new W now u v).below (below1 _ _)).below (below1 _ _)).below (below1 _ _)), ?_, ?_, ?_, below4 _ _ _ _ _, by unfold wM; simp⟩
  · have := MapHas.new (W.alloc (.cells #[.int .i64 now, u, v] 24))
    rw [World.size_alloc] at this
    exact (this.kept (World.grownBy_alloc _ _ none) (by simp)).kept (World.grownBy_alloc _ _ none) (by simp)
  · have := (Boxed.new ((W.alloc (.cells #[.int .i64 now, u, v] 24)).alloc (.map #[] 0)) 54 (.map (some (W.heap.size + 1)))).alloc (.cells #[.bool true] 4)
    simpa [wM] using this
  · have := Boxed.new (((W.alloc (.cells #[.int .i64 now, u, v] 24)).alloc (.map #[] 0)).alloc (.cells #[.map (some (W.heap.size + 1))] 54)) 4 (.bool true)
    simpa [wM] using this

set_option maxHeartbeats 4000000 in
theorem may_no (now : Int) (p q : Option Addr) (k m c d : Nat) (W : World) (h : mayCpus k = false ∨ m ≠ k ∨ now < 0 ∨ 2147483647 < now) (hk : k ≤ 9223372036854775807) (_ : m ≤ 9223372036854775807) :
    Calls Try.prog 22 #[.agg #[.int .i64 now, .slice p k c, .slice q m d]] W fun e w' => e = .returned (.bool false) ∧ Below W.heap.size W w' := by
  have hc : mayCpus k = false ∨ (mayCpus k = true ∧ m ≠ k) ∨ (mayCpus k = true ∧ m = k ∧ now < 0) ∨ (mayCpus k = true ∧ m = k ∧ 0 ≤ now ∧ 2147483647 < now) := by
    cases hh : mayCpus k with
    | false => exact .inl rfl
    | true =>
      rw [hh] at h
      refine .inr ?_
      by_cases h1 : m = k
      · by_cases h2 : now < 0
        · exact .inr (.inl ⟨rfl, h1, h2⟩)
        · refine .inr (.inr ⟨rfl, h1, by omega, ?_⟩)
          rcases h with h | h | h | h
          · cases h
          · exact absurd h1 h
          · omega
          · exact h
      · exact .inl ⟨rfl, h1⟩
  clear h
  have HC := Lib.hid (fun (W : World) => mayBe_c (k : Int) W)
  rcases hc with h1 | ⟨h1, h2⟩ | ⟨h1, h2, h3⟩ | ⟨h1, h2, h3, h4⟩
  all_goals
    rw [h1] at HC
    clear h1
    try subst h2
    try (have h2' : ((m : Int) != (k : Int)) = true := by rw [bne_iff_ne]; omega)
    try clear h2
    go_enter Try.func22, Try.ntmps22
    go_wp2_with fail
    refine (wpIn_wide (n := 9)).1 (wpIn_scope ((wpIn_wide (n := 9)).2 ?_))
    go_wp2_with fail
    refine (HC.out _).mono ?_
    rintro e w1 ⟨rfl, rfl⟩
    go_wp2
    simp only [Exit.noGoto]
    go_ret
    exact ⟨rfl, below1 _ _⟩

theorem MapHas.grown_keeps {W W' : World} {m : Nat} {S : Nat → Prop} (hg : W.grownBy W' (some m)) (hm : S m) : KeepsCells S W W' := fun b o v hb h => by
  have hk : W'.heap[b]? = W.heap[b]? := hg.block b (World.block_lt_of_cell? W _ h) (fun e => by injection e with e; exact hb (e ▸ hm))
  simp only [World.cell?] at h ⊢
  rw [hk]
  exact h
/-- Between two rounds. -/
def MI (W : World) (now : Int) (u v : Value) (pre : List (Int × Int × Int)) (W' : World) : Prop :=
  RBox W' W.heap.size now u v ∧ MapHas W' (W.heap.size + 1) (pre.map (·.2.2)) ∧ Boxed W' (W.heap.size + 1 + 1) 54 (.map (some (W.heap.size + 1))) ∧ Boxed W' (W.heap.size + 1 + 1 + 1) 4 (.bool true) ∧ Below W.heap.size W W' ∧ okS now (pre.map (·.2)) = true
/-- Where a round has left. -/
def MX (W : World) (now : Int) (c : Code) (pre : List (Int × Int × Int)) (W' : World) : Prop :=
  c = .exit 0 ∧ Boxed W' (W.heap.size + 1 + 1 + 1) 4 (.bool false) ∧ Below W.heap.size W W' ∧ okS now (pre.map (·.2)) = false

theorem heap_own {X Y : World} {row : Option Nat} {k : Nat} {cs : Array Value} {T : TypeId} {f : Nat × Nat} (h : X.heap[k]? = some (.cells cs T f)) (hg : X.grownBy Y row) (hr : ∀ r, row = some r → ∃ o : Obj, X.heap[r]? = some o ∧ o.isCells = false) : Y.heap[k]? = some (.cells cs T f) :=
  (hg.block k (Array.getElem?_eq_some_iff.1 h).1 (fun e => by obtain ⟨o, ho, hc⟩ := hr k e.symm; rw [h] at ho; cases ho; cases hc)).trans h
theorem mi_own (W : World) (now : Int) (u v : Value) (z : Nat) (hz : W.heap.size + 5 ≤ z) : OwnFrom z (MI W now u v) := by
  rintro s X Y row ⟨h1, h2, h3, h4, h5, h6⟩ hg hr
  have hr' := fun r e => (hr r e).2
  exact ⟨heap_own h1 hg hr', h2.kept hg (fun e => by have := (hr _ e.symm).1; omega), heap_own h3 hg hr', heap_own h4 hg hr', h5.grown hg h5.size (fun k e => by have := (hr k e).1; omega), h6⟩
theorem mx_own (W : World) (now : Int) (z : Nat) (hz : W.heap.size + 5 ≤ z) (cc : Code) : OwnFrom z (MX W now cc) := by
  rintro s X Y row ⟨h1, h2, h3, h4⟩ hg hr
  have hr' := fun r e => (hr r e).2
  exact ⟨h1, heap_own h2 hg hr', h3.grown hg h3.size (fun k e => by have := (hr k e).1; omega), h4⟩

set_option maxHeartbeats 8000000 in
theorem may_yes (now : Int) (p q : Option Addr) (c d : Nat) (ns os : List Int) (W : World) (h1 : mayCpus ns.length = true) (h2 : os.length = ns.length) (h3 : 0 ≤ now) (h4 : now ≤ 2147483647)
    (hn : RowOut (fun _ => False) W p ns) (ho : RowOut (fun _ => False) W q os) (hr : ∀ x ∈ os, I64 x) :
    Calls Try.prog 22 #[.agg #[.int .i64 now, .slice p ns.length c, .slice q ns.length d]] W fun e w' => e = .returned (.bool (okS now (secs (ns.zip os)))) ∧ Below W.heap.size W w' := by
  have HF := Lib.hid (wM_facts W now (.slice p ns.length c) (.slice q ns.length d))
  obtain ⟨w0, hw0⟩ : ∃ X, X = wM W now (.slice p ns.length c) (.slice q ns.length d) := ⟨_, rfl⟩
  rw [← hw0] at HF
  unfold wM at hw0
  have hk8 : 1 ≤ ns.length ∧ ns.length ≤ 8 := by unfold mayCpus at h1; simp only [Bool.and_eq_true, decide_eq_true_eq] at h1; omega
  have HC := Lib.hid (fun (W : World) => mayBe_c (ns.length : Int) W)
  rw [h1] at HC
  have hl : ∀ {p : Option Addr} {fs : List Int}, RowOut (fun _ => False) W p fs → RowOut (fun k => k = W.heap.size + 1) w0 p fs := fun {p fs} hl hne => by
    obtain ⟨bb, off, e, -, hcs⟩ := hl hne
    obtain ⟨i0, hi0⟩ : ∃ i : Nat, i < fs.length := ⟨0, by cases fs with | nil => exact absurd rfl hne | cons _ _ => simp⟩
    have hlt := World.block_lt_of_cell? W _ (hcs i0 hi0)
    exact ⟨bb, off, e, (by simp only at hlt; omega), fun i hi => below_cell HF.out.2.2.2.2.1 (hcs i hi)⟩
  have HL := Lib.hid (And.intro (hl hn) (hl ho))
  have HR := Lib.hid hr
  have HLEN := Lib.hid h2
  obtain ⟨c0, c1, c2⟩ := HF.out.1.cells
  have hmm := @run_makeMap Try.prog
  have hq : ((ns.length : Int) != (ns.length : Int)) = false := by simp
  have hd1 : decide (now < 0) = false := by simp; omega
  have hd2 : decide (2147483647 < now) = false := by simp; omega
  clear h1 h2 hn ho hr hl
  refine (callsIn_wide (n := 9)).1 ?_
  refine callsIn_of_wp_marks Try.func22 rfl trivial ?_ rfl
  simp only [Try.ntmps22, List.size_toArray, List.length_cons, List.length_nil, Nat.reduceAdd, Nat.reduceSub, Array.replicate_succ, Array.replicate_zero, List.push_toArray, List.append_toArray, List.nil_append, List.cons_append]
  gi_wp2_with fail
  refine wpIn_scope ?_
  gi_wp2_with fail
  refine ⟨trivial, (callsIn_wide.2 (HC.out _)).mono ?_⟩
  rintro e w1 ⟨rfl, rfl⟩
  gi_wp2
  refine wpIn_label ?_
  rw [← hw0]
  clear hw0 hq hd1 hd2 hmm HC
  gi_wp2_with fail
  refine ⟨trivial, (callsIn_wide.2 (sections_c now _ _ w0)).mono ?_⟩
  rintro e w2 ⟨rfl, hw2⟩
  have hb12 : Below w0.heap.size w0 w2 := by rw [hw2]; exact below1 _ _
  have HPB := Lib.hid (show RBox w2 w0.heap.size now (.slice p ns.length c) (.slice q ns.length d) by rw [hw2]; exact RBox.new _ _ _ _)
  have HI0 := Lib.hid (show MI W now (.slice p ns.length c) (.slice q ns.length d) [] w2 from ⟨HF.out.1.below hb12, HF.out.2.1.kept (row := none) (by rw [hw2]; exact World.grownBy_alloc _ _ none) (by simp), (hb12.block _ HF.out.2.2.1.lt).trans HF.out.2.2.1, (hb12.block _ HF.out.2.2.2.1.lt).trans HF.out.2.2.2.1, below_then HF.out.2.2.2.2.1 HF.out.2.2.2.2.1.size hb12, rfl⟩)
  have HL2 := Lib.hid (And.intro (HL.out.1.below hb12) (HL.out.2.below hb12))
  have hz0 : w0.heap.size = W.heap.size + 4 := HF.out.2.2.2.2.2
  have hz2 : w2.heap.size = W.heap.size + 5 := by rw [hw2, World.size_alloc, hz0]
  have HZ0 := Lib.hid (And.intro hz0 hz2)
  clear hw2 hb12 c0 c1 c2 HL hz0 hz2
  gi_wp2
  have hMI := mi_own W now (.slice p ns.length c) (.slice q ns.length d) w2.heap.size (by have := HZ0.out; omega)
  refine wpIn_rangeDeep rfl (by omega) (gf := 32) (lb := #[.pointer (some ⟨w0.heap.size, 0, none⟩)]) rfl trivial (enters_of Try.func32 (by kernel_rfl) rfl)
    (sections_stops 8 (by omega) (fun k => k = W.heap.size + 1) w0.heap.size now p q c d ns os w2 (by have := HZ0.out; omega) HLEN.out (by omega) HPB.out HL2.out.1 HL2.out.2) (fun h k => h.trans k) (fun W l o o' _ => KeepsCells.turn _ W l o o') (Below.refl _ _) (fun _ => rfl)
    (MI W now (.slice p ns.length c) (.slice q ns.length d)) (MX W now) hMI (mx_own W now _ (by have := HZ0.out; omega)) HI0.out
    (fun x a' X => ∃ k, a' = { tmps := #[.agg #[.int .i64 now, .slice p ns.length c, .slice q ns.length d], .pointer (some ⟨W.heap.size, 0, none⟩), .bool false, .int .i64 (ns.length : Int), .pointer (some ⟨W.heap.size + 1 + 1, 0, none⟩), .pointer (some ⟨W.heap.size + 1 + 1 + 1, 0, none⟩), .int .i64 x.1, .pointer (some ⟨k, 0, none⟩), undef, undef, .pointer (some ⟨W.heap.size, 1, none⟩), .slice p ns.length c, .int .i64 (ns.length : Int), .int .i64 (ns.length : Int), .bool true, .bool false, .bool false, .pointer (some ⟨W.heap.size, 2, none⟩), .slice q ns.length d, .int .i64 (ns.length : Int), .int .i64 (ns.length : Int), .bool false, .bool false, .bool false, .pointer (some ⟨W.heap.size, 0, none⟩), .int .i64 now, .bool false, .bool false, .bool false, .pointer (some ⟨W.heap.size, 0, none⟩), .int .i64 now, .bool false, .bool false, .map (some (W.heap.size + 1)), .agg #[.int .i64 now, .slice p ns.length c, .slice q ns.length d], .func (.func 32) #[] #[.pointer (some ⟨w0.heap.size, 0, none⟩)], .int .i64 x.1, .agg #[.int .i64 x.2.1, .int .i64 x.2.2], undef, undef, undef, undef, undef, undef, undef, undef, undef, undef, undef, undef, undef, undef, undef, undef, undef, undef, undef, undef, undef, undef, undef, undef, undef, undef, undef, undef], defers := [] } ∧ X.heap[k]? = some (.cells #[.int .i64 x.2.1, .int .i64 x.2.2] 59 (0, 0)))
    ?hAx ?assign ?body ?done ?stop
  case hAx =>
    rintro x a' s X Y row ⟨k, ha, hc⟩ hg hr
    exact ⟨k, ha, heap_own hc hg (fun r e => (hr r e).2)⟩
  case assign =>
    rintro l' pre x X K hi hK
    have hi2 := hMI.alloc (.cells #[.int .i64 x.2.1, .int .i64 x.2.2] 59) hi
    clear hi
    gi_wp2
    exact hK _ _ (KeepsFrom.of_grownBy (World.grownBy_alloc _ _ none) (fun j e => by cases e)) (fun b o v _ h => below_cell (below1 _ _) h) hi2 ⟨_, rfl, World.alloc_heap_new _ _⟩
  case body =>
    rintro l' pre x a' X hl' _ hI ⟨k, rfl, hck⟩ hlen ⟨⟨j, hj⟩, hsm⟩
    obtain ⟨hi1, hi2, hi3, hi4, hi5, hi6⟩ := hI
    have hmem : x.2 ∈ secs ((ns.zip os).take j) := by rw [← hj]; simp
    have hox : I64 x.2.2 := HR.out _ (List.of_mem_zip (List.mem_of_mem_take (List.mem_filter.1 hmem).1)).2
    have hcx : I64 x.1 := by have := hsm x (by simp); unfold I64; omega
    obtain ⟨cc, hlook⟩ := hi2.look x.2.2 hox
    obtain ⟨X2, hupd, hm2, hg2⟩ := hi2.one x.2.2 x.1 hox hcx (by rw [List.length_map]; omega)
    obtain ⟨xc, xn, xo⟩ := x
    simp only at hlook hupd hm2 hck
    have hk0 : X.cell? ⟨k, 0, none⟩ = some (.int .i64 xn) := by simp [World.cell?, hck]
    have hk1 : X.cell? ⟨k, 1, none⟩ = some (.int .i64 xo) := by simp [World.cell?, hck]
    obtain ⟨d0, d1, d2⟩ := hi1.cells
    have e3 := hi3.cell
    have e4 := hi4.cell
    have f4 := hi4.frozen
    have HSN := Lib.hid (okS_snoc now (pre.map (·.2)) (xn, xo))
    have HEQ := Lib.hid (show (pre ++ [(xc, xn, xo)]).map (·.2) = pre.map (·.2) ++ [(xn, xo)] by simp)
    have HI5 := Lib.hid (show Below W.heap.size W (X.setCell ⟨W.heap.size + 1 + 1 + 1, 0, none⟩ (.bool false)) ∧ Boxed (X.setCell ⟨W.heap.size + 1 + 1 + 1, 0, none⟩ (.bool false)) (W.heap.size + 1 + 1 + 1) 4 (.bool false) from ⟨hi5.setCell (p := ⟨W.heap.size + 1 + 1 + 1, 0, none⟩) (by show W.heap.size ≤ W.heap.size + 1 + 1 + 1; omega) _, hi4.set _⟩)
    have HI2 := Lib.hid (show KeepsFrom w2.heap.size X X2 ∧ KeepsCells (fun k => k = W.heap.size + 1) X X2 ∧ (okS now ((pre ++ [(xc, xn, xo)]).map (·.2)) = true → MI W now (.slice p ns.length c) (.slice q ns.length d) (pre ++ [(xc, xn, xo)]) X2) from ⟨KeepsFrom.of_grownBy hg2 (fun j e => by cases e; have := HZ0.out; omega), MapHas.grown_keeps hg2 rfl, fun hok =>
      ⟨(hg2.block _ hi1.lt (by intro e; injection e with e; omega)).trans hi1, by simpa using hm2, (hg2.block _ hi3.lt (by intro e; injection e with e; omega)).trans hi3, (hg2.block _ hi4.lt (by intro e; injection e with e; omega)).trans hi4, hi5.grown hg2 hi5.size (fun k e => by cases e; omega), hok⟩⟩)
    have HI6 := Lib.hid hi6
    clear hi1 hi2 hi3 hi4 hi5 hi6 hm2 hg2 hck hmem hj hsm hox hcx hlen hMI HI0 HPB HL2
    by_cases hm : xo ∈ pre.map (·.2.2)
    · have HM := Lib.hid hm
      rw [decide_eq_true hm] at hlook
      clear hm
      gi_wp2
      refine ⟨(KeepsOthers.setCell _ _ _).from _, rfl, HI5.out.2, HI5.out.1, ?_⟩
      rw [HEQ.out, HSN.out, HI6.out, Bool.true_and, decide_eq_false (fun h => h (by simpa using HM.out)), Bool.and_false]
    · have HM := Lib.hid hm
      rw [decide_eq_false hm] at hlook
      clear hm
      by_cases c1 : xn < 1
      · gi_wp2
        refine ⟨(KeepsOthers.setCell _ _ _).from _, rfl, HI5.out.2, HI5.out.1, ?_⟩
        rw [HEQ.out, HSN.out, show okOne now (xn, xo) = false by unfold okOne; rw [decide_eq_false (show ¬ 1 ≤ (xn, xo).1 by simp only; omega)]; rfl]
        simp
      · by_cases c2 : 8 < xn
        · gi_wp2
          refine ⟨(KeepsOthers.setCell _ _ _).from _, rfl, HI5.out.2, HI5.out.1, ?_⟩
          rw [HEQ.out, HSN.out, show okOne now (xn, xo) = false by unfold okOne; rw [decide_eq_false (show ¬ (xn, xo).1 ≤ 8 by simp only; omega)]; simp]
          simp
        · by_cases c3 : xo < 1
          · gi_wp2
            refine ⟨(KeepsOthers.setCell _ _ _).from _, rfl, HI5.out.2, HI5.out.1, ?_⟩
            rw [HEQ.out, HSN.out, show okOne now (xn, xo) = false by unfold okOne; rw [decide_eq_false (show ¬ 1 ≤ (xn, xo).2 by simp only; omega)]; simp]
            simp
          · by_cases c4 : now < xo
            · gi_wp2
              refine ⟨(KeepsOthers.setCell _ _ _).from _, rfl, HI5.out.2, HI5.out.1, ?_⟩
              rw [HEQ.out, HSN.out, show okOne now (xn, xo) = false by unfold okOne; rw [decide_eq_false (show ¬ (xn, xo).2 ≤ now by simp only; omega)]; simp]
              simp
            · gi_wp2
              refine ⟨HI2.out.1, HI2.out.2.1, HI2.out.2.2 ?_⟩
              rw [HEQ.out, HSN.out, HI6.out, show okOne now (xn, xo) = true by unfold okOne; simp only [Bool.and_eq_true, decide_eq_true_eq]; omega, decide_eq_true (show (xn, xo).2 ∉ (pre.map (·.2)).map (·.2) from fun h => HM.out (by simpa using h))]
              rfl
  case done =>
    rintro D xs X hD ⟨hxs, -⟩ ⟨h1, h2, h3, h4, h5, h6⟩ hK
    rw [hxs] at h6
    have e4 := h4.cell
    have HB := Lib.hid h5
    have HW := Lib.hid (And.intro hD hK)
    have HR6 := Lib.hid h6
    have HSZ := Lib.hid (show W.heap.size ≤ w2.heap.size by have := HZ0.out; omega)
    clear h1 h2 h3 h4 h5 h6 hxs hMI HI0 HPB HL2 hD hK
    gi_wp2
    refine leaves_marks (B := W.heap.size) [D] _ ((Marks.nil _ _).cons (Nat.le_trans HSZ.out HW.out.1) (by simp) HW.out.2) fun X' hX' => ⟨_, results_tmp rfl _ _ _, ?_, HB.out.trans hX'⟩
    exact ret_bool HR6.out.symm
  case stop =>
    rintro D cc pre X hD ⟨⟨j, hj⟩, -⟩ ⟨rfl, h2, h3, h4⟩ hK
    have h5 : okS now (secs (ns.zip os)) = false := by
      cases hh : okS now (secs (ns.zip os)) with
      | false => rfl
      | true =>
        have e : secs (ns.zip os) = secs ((ns.zip os).take j) ++ secs ((ns.zip os).drop j) := by unfold secs; rw [← List.filter_append, List.take_append_drop]
        rw [e] at hh
        have := okS_pre now _ _ hh
        rw [← hj, h4] at this
        cases this
    have e4 := h2.cell
    have HB := Lib.hid h3
    have HW := Lib.hid (And.intro hD hK)
    have HR6 := Lib.hid h5
    have HSZ := Lib.hid (show W.heap.size ≤ w2.heap.size by have := HZ0.out; omega)
    clear h2 h3 h4 h5 hj hMI HI0 HPB HL2 hD hK
    gi_wp2
    refine leaves_marks (B := W.heap.size) [D] _ ((Marks.nil _ _).cons (Nat.le_trans HSZ.out HW.out.1) (by simp) HW.out.2) fun X' hX' => ⟨_, results_tmp rfl _ _ _, ?_, HB.out.trans hX'⟩
    exact ret_bool HR6.out.symm

/-- Which readers may be. -/
theorem may_c (now : Int) (u v : Value) (ns os : List Int) (W : World) (hn : NumsAt W .i64 u ns) (ho : NumsAt W .i64 v os) (h1 : ns.length ≤ 9223372036854775807) (h2 : os.length ≤ 9223372036854775807) (hr : ∀ x ∈ os, I64 x) :
    Calls Try.prog 22 #[.agg #[.int .i64 now, u, v]] W fun e w' => e = .returned (.bool (mayB now ns os)) ∧ Below W.heap.size W w' := by
  obtain ⟨p, c, rfl, hp⟩ := hn
  obtain ⟨q, d, rfl, hq⟩ := ho
  unfold mayB
  by_cases c1 : mayCpus ns.length = true
  · by_cases c2 : os.length = ns.length
    · by_cases c3 : 0 ≤ now
      · by_cases c4 : now ≤ 2147483647
        · rw [c1, decide_eq_true c2, decide_eq_true c3, decide_eq_true c4, Bool.true_and, Bool.true_and, Bool.true_and, Bool.true_and]
          have := may_yes now p q c d ns os W c1 c2 c3 c4 (fun hne => by obtain ⟨b, off, e, hc⟩ := hp hne; exact ⟨b, off, e, fun h => h, hc⟩) (fun hne => by obtain ⟨b, off, e, hc⟩ := hq hne; exact ⟨b, off, e, fun h => h, hc⟩) hr
          rwa [c2]
        · rw [decide_eq_false c4, Bool.false_and, Bool.and_false, Bool.and_false, Bool.and_false]
          exact may_no now p q _ _ c d W (.inr (.inr (.inr (by omega)))) h1 h2
      · rw [decide_eq_false c3, Bool.false_and, Bool.and_false, Bool.and_false]
        exact may_no now p q _ _ c d W (.inr (.inr (.inl (by omega)))) h1 h2
    · rw [decide_eq_false c2, Bool.false_and, Bool.and_false]
      exact may_no now p q _ _ c d W (.inr (.inl c2)) h1 h2
  · have c1' : mayCpus ns.length = false := by cases h : mayCpus ns.length <;> simp_all
    rw [c1', Bool.false_and]
    exact may_no now p q _ _ c d W (.inl c1') h1 h2

end Go.Proofs.Ytjfphhemhaphbab
