/-
  Package pool: Take.
  Conditions: a row has at most 2 to the power 62 numbers.
-/
import Derived.Test.YthjkaabbbhfjhaaPMoves
import Derived.Test.YthjkaabbbhfjhaaPWord
import Derived.Laws.EntriesVeiled
namespace Go.Proofs.Ythjkaabbbhfjhaa
open Go.RowKit Go.Shelf
attribute [local go_sem] Oper.semAt_some

def zeroP : Value := .agg #[.int .i64 0, .int .i64 0, .slice none 0 0]
def wT (W : World) (b pg : Int) (v : Value) : World := (((W.alloc (.cells #[.int .i64 b, .int .i64 pg, v] 24)).alloc (.cells #[.int .i64 0, .int .i64 0, .slice none 0 0] 24)).alloc (.cells #[.int .i64 0] 3)).alloc (.cells #[.int .i64 0] 28)
/-- The results' cells. -/
def TR (W : World) (z : Nat) (b p : Int) (v : Value) (n e : Int) : Prop := PBox W (z + 1) b p v ∧ Boxed W (z + 1 + 1) 3 (.int .i64 n) ∧ Boxed W (z + 1 + 1 + 1) 28 (.int .i64 e)
theorem TR.below {W W' : World} {z : Nat} {b p : Int} {v : Value} {n e : Int} (h : TR W z b p v n e) (hb : Below W.heap.size W W') : TR W' z b p v n e := ⟨h.1.below hb, (hb.block _ h.2.1.lt).trans h.2.1, (hb.block _ h.2.2.lt).trans h.2.2⟩
theorem TR.keeps {S : Nat → Prop} {W W' : World} {z : Nat} {b p : Int} {v : Value} {n e : Int} (h : TR W z b p v n e) (hk : Keeps S W W') (h1 : ¬ S (z + 1)) (h2 : ¬ S (z + 1 + 1)) (h3 : ¬ S (z + 1 + 1 + 1)) : TR W' z b p v n e := ⟨h.1.keeps hk h1, (hk.block _ h.2.1.lt h2).trans h.2.1, (hk.block _ h.2.2.lt h3).trans h.2.2⟩
theorem wT_facts (W : World) (b pg : Int) (v : Value) : PBox (wT W b pg v) W.heap.size b pg v ∧ TR (wT W b pg v) W.heap.size 0 0 (.slice none 0 0) 0 0 ∧ Below W.heap.size W (wT W b pg v) ∧ (wT W b pg v).heap.size = W.heap.size + 4 := by
  have e1 := World.alloc_heap_new (W.alloc (.cells #[.int .i64 b, .int .i64 pg, v] 24)) (.cells #[.int .i64 0, .int .i64 0, .slice none 0 0] 24)
  have e2 := World.alloc_heap_new ((W.alloc (.cells #[.int .i64 b, .int .i64 pg, v] 24)).alloc (.cells #[.int .i64 0, .int .i64 0, .slice none 0 0] 24)) (.cells #[.int .i64 0] 3)
  have e3 := World.alloc_heap_new (((W.alloc (.cells #[.int .i64 b, .int .i64 pg, v] 24)).alloc (.cells #[.int .i64 0, .int .i64 0, .slice none 0 0] 24)).alloc (.cells #[.int .i64 0] 3)) (.cells #[.int .i64 0] 28)
  simp only [World.size_alloc] at e1 e2 e3
  have f1 : PBox _ (W.heap.size + 1) 0 0 (.slice none 0 0) := e1
  have f2 : Boxed _ (W.heap.size + 1 + 1) 3 (.int .i64 0) := e2
  exact ⟨((((PBox.new W b pg v).below (below1 _ _)).below (below1 _ _)).below (below1 _ _)), ⟨(f1.below (below1 _ _)).below (below1 _ _), f2.alloc _, e3⟩, below4 _ _ _ _ _, by unfold wT; simp⟩
/-- The results are stored. -/
def stR (W : World) (z : Nat) (b p : Int) (v : Value) (n e : Int) : World := ((((W.setCell ⟨z + 1, 0, none⟩ (.int .i64 b)).setCell ⟨z + 1, 1, none⟩ (.int .i64 p)).setCell ⟨z + 1, 2, none⟩ v).setCell ⟨z + 1 + 1, 0, none⟩ (.int .i64 n)).setCell ⟨z + 1 + 1 + 1, 0, none⟩ (.int .i64 e)
theorem stR_facts {W : World} {z : Nat} {b0 p0 : Int} {v0 : Value} {n0 e0 : Int} (h : TR W z b0 p0 v0 n0 e0) (b p : Int) (v : Value) (n e : Int) : TR (stR W z b p v n e) z b p v n e ∧ Keeps (fun k => k = z + 1 ∨ k = z + 1 + 1 ∨ k = z + 1 + 1 + 1) W (stR W z b p v n e) := by
  have k1 := PBox.putK W (z + 1) b p v
  have f1 := h.1.put b p v
  have k2 := Keeps.setCell (((W.setCell ⟨z + 1, 0, none⟩ (.int .i64 b)).setCell ⟨z + 1, 1, none⟩ (.int .i64 p)).setCell ⟨z + 1, 2, none⟩ v) (S := (· = z + 1 + 1)) (p := ⟨z + 1 + 1, 0, none⟩) rfl (.int .i64 n)
  have f2 : Boxed _ (z + 1 + 1) 3 (.int .i64 n) := Boxed.set (.int .i64 n) ((k1.block _ h.2.1.lt (by omega)).trans h.2.1)
  have k3 := Keeps.setCell ((((W.setCell ⟨z + 1, 0, none⟩ (.int .i64 b)).setCell ⟨z + 1, 1, none⟩ (.int .i64 p)).setCell ⟨z + 1, 2, none⟩ v).setCell ⟨z + 1 + 1, 0, none⟩ (.int .i64 n)) (S := (· = z + 1 + 1 + 1)) (p := ⟨z + 1 + 1 + 1, 0, none⟩) rfl (.int .i64 e)
  have f3 : Boxed _ (z + 1 + 1 + 1) 28 (.int .i64 e) := Boxed.set (.int .i64 e) ((k2.block _ (by rw [show (((W.setCell ⟨z + 1, 0, none⟩ (.int .i64 b)).setCell ⟨z + 1, 1, none⟩ (.int .i64 p)).setCell ⟨z + 1, 2, none⟩ v).heap.size = W.heap.size by simp [World.setCell]]; exact h.2.2.lt) (by omega)).trans ((k1.block _ h.2.2.lt (by omega)).trans h.2.2))
  exact ⟨⟨(f1.keeps k2 (by omega)).keeps k3 (by omega), (k3.block _ f2.lt (by omega)).trans f2, f3⟩, ((k1.sub fun k _ e => .inl e).trans (k2.sub fun k _ e => .inr (.inl e))).trans (k3.sub fun k _ e => .inr (.inr e))⟩
theorem TR.results {fn : Func} {W : World} {z : Nat} {b p : Int} {v : Value} {n e : Int} (h : TR W z b p v n e) (hf : fn.results = #[.cell 2 24, .cell 3 3, .cell 4 28]) (tmps : Array Value) (h2 : tmps.getD 2 undef = .pointer (some ⟨z + 1, 0, none⟩)) (h3 : tmps.getD 3 undef = .pointer (some ⟨z + 1 + 1, 0, none⟩)) (h4 : tmps.getD 4 undef = .pointer (some ⟨z + 1 + 1 + 1, 0, none⟩)) :
    (results fn tmps).run Try.prog W = .ok (.tuple #[.agg #[.int .i64 b, .int .i64 p, v], .int .i64 n, .int .i64 e]) W :=
  results_cell3 hf tmps _ _ h2 h3 h4 (pool_load h.1) (int_load h.2.1) (errno_load h.2.2)

set_option maxRecDepth 100000 in
set_option maxHeartbeats 4000000 in
theorem take_no (b pg : Int) (p : Option Addr) (c : Nat) (fs : List Int) (W : World) (hmax : fs.length ≤ 4611686018427387904) (hl : NumsAt W .i64 (.slice p fs.length c) fs) (hr : rightP b pg fs = false) :
    Calls Try.prog 10 #[.agg #[.int .i64 b, .int .i64 pg, .slice p fs.length c]] W fun e w' => e = .returned (.tuple #[zeroP, .int .i64 0, .int .i64 170]) ∧ Below W.heap.size W w' := by
  have HT := Lib.hid (wT_facts W b pg (.slice p fs.length c))
  obtain ⟨w0, hw0⟩ : ∃ X, X = wT W b pg (.slice p fs.length c) := ⟨_, rfl⟩
  rw [← hw0] at HT
  unfold wT at hw0
  obtain ⟨c0, c1, c2⟩ := HT.out.1.cells
  have HC := Lib.hid (begin_no b pg p c fs w0 hmax (nums_below hl HT.out.2.2.1) hr)
  clear hl hr
  go_enter Try.func10, Try.ntmps10
  go_wp2_with fail
  rw [← hw0]
  clear hw0
  refine HC.out.mono ?_
  rintro e w1 ⟨rfl, hb1⟩
  obtain ⟨w2, hw2⟩ : ∃ X : World, X = w1.alloc (.cells #[.pointer none] 53) := ⟨_, rfl⟩
  have hb2 : Below w0.heap.size w0 w2 := by rw [hw2]; exact hb1.trans ((below1 w1 _).mono hb1.size)
  have HR2 := Lib.hid (HT.out.2.1.below hb2)
  have HB2 := Lib.hid (below_then HT.out.2.2.1 HT.out.2.2.1.size hb2)
  have HW2 := Lib.hid hw2
  clear hw2 hb1 hb2 c0 c1 c2 HC
  go_upto_region 3 with fail
  rw [← HW2.out]
  obtain ⟨d0, d1, d2⟩ := HR2.out.1.cells
  have m0 := HR2.out.1.marks 0
  have m1 := HR2.out.1.marks 1
  have m2 := HR2.out.1.marks 2
  have d3 := HR2.out.2.1.cell
  have m3 := HR2.out.2.1.frozen
  have d4 := HR2.out.2.2.cell
  have m4 := HR2.out.2.2.frozen
  obtain ⟨w3, hw3⟩ : ∃ X, X = stR w2 W.heap.size 0 0 (.slice none 0 0) 0 170 := ⟨_, rfl⟩
  have HF := Lib.hid (stR_facts HR2.out 0 0 (.slice none 0 0) 0 170)
  rw [← hw3] at HF
  unfold stR at hw3
  have HW3 := Lib.hid hw3
  clear hw3 HW2
  go_wp2
  rw [← HW3.out]
  exact bodyPost_ret (v := .tuple #[zeroP, .int .i64 0, .int .i64 170]) (HF.out.1.results rfl _ rfl rfl rfl) rfl ⟨rfl, HB2.out.trans (HF.out.2.below HB2.out.size (fun k e => by omega))⟩

/-- What lies there as the pages are told. -/
def TI (W : World) (z zc y : Nat) (b pg : Int) (p' : Option Addr) (c' : Nat) (fs : List Int) (pre : List Int) (W' : World) : Prop :=
  TR W' z 0 0 (.slice none 0 0) 0 0 ∧ Boxed W' y 53 (.pointer (some ⟨zc, 0, none⟩)) ∧ Boxed W' (y + 1) 56 (.func (.func 29) #[.pointer (some ⟨zc, 0, none⟩)] #[]) ∧
  ChBox W' zc b pg (.slice p' fs.length c') (flg fs) ∧ W'.ownsRow (z + 4) 3 1 (.slice p' fs.length c') fs.length (fs.map (Value.int .i64)) ∧ Below z W W' ∧ pre = []
def TX (W : World) (z : Nat) (b pg : Int) (fs : List Int) (c : Code) (_ : List Int) (W' : World) : Prop :=
  c = .ret ∧ ∃ gs x p', fs = gs ++ [x] ∧ TR W' z b pg (.slice p' gs.length gs.length) x 0 ∧ RowS W' z p' gs.length gs.length gs ∧ Below z W W'
theorem row_own {X Y : World} {row : Option Nat} {B : Nat} {E : TypeId} {n : Nat} {v : Value} {xs : List Value} (h : X.ownsRow B E 1 v n xs) (hg : X.grownBy Y row) (hr : ∀ r, row = some r → ∃ o : Obj, X.heap[r]? = some o ∧ o.isCells = false) : Y.ownsRow B E 1 v n xs := by
  refine h.kept hg ?_
  cases hv : v.ownBlock with
  | none => exact .inl rfl
  | some g =>
    refine .inr fun e => ?_
    obtain ⟨o, ho, hc⟩ := hr g e.symm
    obtain ⟨cc, f, h1⟩ := Lib.ownsRow_kind h _ hv
    rw [h1] at ho
    cases ho
    cases hc
theorem rowS_own {X Y : World} {row : Option Nat} {B : Nat} {n c : Nat} {p : Option Addr} {xs : List Int} (h : RowS X B p n c xs) (hg : X.grownBy Y row) (hr : ∀ r, row = some r → ∃ o : Obj, X.heap[r]? = some o ∧ o.isCells = false) : RowS Y B p n c xs := by
  refine ⟨h.1, ?_⟩
  rcases h.2 with h | ⟨g, cur, e, h1, h2, h3⟩
  · exact .inl h
  · exact .inr ⟨g, cur, e, h1, heap_own h2 hg hr, h3⟩

theorem owns_cap {W : World} {B : Nat} {E : TypeId} {s n c : Nat} {p : Option Addr} {xs : List Value} (h : W.ownsRow B E s (.slice p n c) n xs) : n ≤ c := by
  rcases h.2 with ⟨e, h0⟩ | ⟨g, cap, cur, e, h1, h2, h3, h4, h5, h6⟩
  · omega
  · injection e with e1 e2 e3; omega
theorem last_of {fs : List Int} {x : Int} {j : Nat} (h : [x] = (fs.drop j).reverse) : fs = fs.take j ++ [x] ∧ (fs.take j).length = j ∧ fs.length = j + 1 := by
  have h1 : fs.drop j = [x] := by rw [← List.reverse_reverse (fs.drop j), ← h]; rfl
  have h2 := congrArg List.length h1
  simp only [List.length_drop, List.length_singleton] at h2
  exact ⟨by rw [← h1, List.take_append_drop], by rw [List.length_take]; omega, by omega⟩
theorem stR_others (W : World) (z : Nat) (b p : Int) (v : Value) (n e : Int) : KeepsOthers W (stR W z b p v n e) :=
  ((((KeepsOthers.setCell W _ _).trans (KeepsOthers.setCell _ _ _)).trans (KeepsOthers.setCell _ _ _)).trans (KeepsOthers.setCell _ _ _)).trans (KeepsOthers.setCell _ _ _)
set_option maxRecDepth 100000 in
set_option maxHeartbeats 4000000 in
theorem take_yes (b pg : Int) (p : Option Addr) (c : Nat) (fs : List Int) (W : World) (hmax : fs.length ≤ 4611686018427387904) (hl : NumsAt W .i64 (.slice p fs.length c) fs) (hv : p = none → c = 0) (hr : rightP b pg fs = true) :
    Calls Try.prog 10 #[.agg #[.int .i64 b, .int .i64 pg, .slice p fs.length c]] W fun e w' => ((fs = [] ∧ e = .returned (.tuple #[zeroP, .int .i64 0, .int .i64 6])) ∨ ∃ gs x p', fs = gs ++ [x] ∧ e = .returned (.tuple #[.agg #[.int .i64 b, .int .i64 pg, .slice p' gs.length gs.length], .int .i64 x, .int .i64 0]) ∧ RowS w' W.heap.size p' gs.length gs.length gs) ∧ Below W.heap.size W w' := by
  have HT := Lib.hid (wT_facts W b pg (.slice p fs.length c))
  obtain ⟨w0, hw0⟩ : ∃ X, X = wT W b pg (.slice p fs.length c) := ⟨_, rfl⟩
  rw [← hw0] at HT
  unfold wT at hw0
  obtain ⟨c0, c1, c2⟩ := HT.out.1.cells
  have HC := Lib.hid (begin_yes b pg p c fs w0 hmax (nums_below hl HT.out.2.2.1) hv hr)
  have HOK := Lib.hid (show (∀ x ∈ fs, ∃ i : Nat, x = (i : Int) ∧ i < 64) ∧ fs.length ≤ 64 from ⟨fun x hx => by
    have h1 := fits_parts (rightP_iff.1 hr).1
    obtain ⟨h2, h3⟩ := has_parts ((rightP_iff.1 hr).2.2 x hx)
    obtain ⟨i, rfl⟩ := Int.eq_ofNat_of_zero_le h2
    exact ⟨i, rfl, by omega⟩, rightP_len hr⟩)
  clear hl hr hv
  refine (callsIn_wide (n := 9)).1 ?_
  refine callsIn_of_wp_marks Try.func10 rfl trivial ?_ rfl
  simp only [Try.ntmps10, List.size_toArray, List.length_cons, List.length_nil, Nat.reduceAdd, Nat.reduceSub, Array.replicate_succ, Array.replicate_zero, List.push_toArray, List.append_toArray, List.nil_append, List.cons_append]
  gi_wp2_with fail
  rw [← hw0]
  clear hw0
  refine ⟨trivial, (callsIn_wide.2 HC.out).mono ?_⟩
  rintro e w1 ⟨⟨zc, p', c', rfl, hzc, hX, hO⟩, hb1⟩
  obtain ⟨w3, hw3⟩ : ∃ X : World, X = (w1.alloc (.cells #[.pointer (some ⟨zc, 0, none⟩)] 53)).alloc (.cells #[.func (.func 29) #[.pointer (some ⟨zc, 0, none⟩)] #[]] 56) := ⟨_, rfl⟩
  have hbw : Below w1.heap.size w1 w3 := by rw [hw3]; exact below2 w1 _ _
  have hb3 : Below w0.heap.size w0 w3 := hb1.trans (hbw.mono hb1.size)
  have HI3 := Lib.hid (show TI W W.heap.size zc w1.heap.size b pg p' c' fs [] w3 from ⟨HT.out.2.1.below hb3, by rw [hw3]; exact (Boxed.new w1 _ _).alloc _, by
      rw [hw3]
      have h := Boxed.new (w1.alloc (.cells #[.pointer (some ⟨zc, 0, none⟩)] 53)) 56 (.func (.func 29) #[.pointer (some ⟨zc, 0, none⟩)] #[])
      rw [World.size_alloc] at h
      exact h, hX.below hbw, owns_below (hO.mono (Nat.le_of_eq HT.out.2.2.2.symm)) hbw, below_then HT.out.2.2.1 HT.out.2.2.1.size hb3, rfl⟩)
  have HZ := Lib.hid (show W.heap.size + 4 ≤ zc ∧ zc < w1.heap.size ∧ W.heap.size + 4 ≤ w1.heap.size by have := HT.out.2.2.2; have := hX.lt; omega)
  have HW3 := Lib.hid hw3
  have HDC := Lib.hid ((hX.below hbw).cells)
  clear hw3 hb1 hb3 hbw hX hO c0 c1 c2 HC hzc
  have d0 := HDC.out.1
  have d1 := HDC.out.2.1
  have d2 := HDC.out.2.2
  have d3 := HI3.out.2.1.cell
  rw [HW3.out] at d0 d1 d2 d3
  gi_wp2_with fail
  rw [← HW3.out]
  clear d0 d1 d2 d3 HW3 HDC
  have HN3 := Lib.hid HI3.out.2.2.2.2.2.1
  refine ⟨trivial, (callsIn_wide.2 (next_c b pg _ w3)).mono ?_⟩
  rintro e w4 ⟨rfl, hw4⟩
  have hb34 : Below w3.heap.size w3 w4 := by rw [hw4]; exact below1 _ _
  have HPB := Lib.hid (show PBox w4 w3.heap.size b pg (.slice p' fs.length c') by rw [hw4]; exact PBox.new _ _ _ _)
  have hz4 : w4.heap.size = w3.heap.size + 1 := by rw [hw4, World.size_alloc]
  have HI4 := Lib.hid (show TI W W.heap.size zc w1.heap.size b pg p' c' fs [] w4 by
    obtain ⟨h1, h2, h3, h4, h5, h6, h7⟩ := HI3.out
    exact ⟨h1.below hb34, (hb34.block _ h2.lt).trans h2, (hb34.block _ h3.lt).trans h3, h4.below hb34, owns_below h5 hb34, below_then h6 h6.size hb34, h7⟩)
  clear hw4 hb34
  gi_wp2
  refine wpIn_rangeDeep rfl (by omega) (gf := 40) (lb := #[.pointer (some ⟨w3.heap.size, 0, none⟩)]) rfl trivial (enters_of Try.func40 (by kernel_rfl) rfl)
    (next_stops 8 (by omega) (fun _ => False) w3.heap.size c' b pg p' fs w4 (fun k e => e.elim) hmax HPB.out (rowOut_of_nums (nums_of_owns rfl HI4.out.2.2.2.2.1))) (fun h k => h.trans k) (fun W l o o' _ => KeepsCells.turn _ W l o o') (Below.refl _ _) (fun _ => rfl)
    (TI W W.heap.size zc w1.heap.size b pg p' c' fs) (TX W W.heap.size b pg fs) ?hI ?hIx HI4.out
    (fun x a' _ => a' = { tmps := #[.agg #[.int .i64 b, .int .i64 pg, .slice p fs.length c], .pointer (some ⟨W.heap.size, 0, none⟩), .pointer (some ⟨W.heap.size + 1, 0, none⟩), .pointer (some ⟨W.heap.size + 1 + 1, 0, none⟩), .pointer (some ⟨W.heap.size + 1 + 1 + 1, 0, none⟩),
      .pointer (some ⟨w1.heap.size, 0, none⟩), .int .i64 0, .pointer (some ⟨w1.heap.size + 1, 0, none⟩), .int .i64 x, .tuple #[.pointer (some ⟨zc, 0, none⟩), .int .i64 0], .agg #[.int .i64 b, .int .i64 pg, .slice p fs.length c], .tuple #[.pointer (some ⟨zc, 0, none⟩), .int .i64 0], .pointer (some ⟨zc, 0, none⟩), .int .i64 0, .int .i64 0, .bool false, undef, undef,
      .pointer (some ⟨zc, 0, none⟩), .func (.func 29) #[.pointer (some ⟨zc, 0, none⟩)] #[], .pointer (some ⟨zc, 0, none⟩), .pointer (some ⟨zc, 0, none⟩), .pointer (some ⟨zc, 0, none⟩), .agg #[.int .i64 b, .int .i64 pg, .slice p' fs.length c'], .func (.func 40) #[] #[.pointer (some ⟨w3.heap.size, 0, none⟩)], .int .i64 x, undef, undef, undef, undef, undef, undef, undef, undef, undef], defers := [] })
    (fun _ _ => ownFrom_pure _ _) ?assign ?body ?done ?stop
  case hI =>
    rintro s X Y row ⟨⟨h1, h1', h1''⟩, h2, h3, h4, h5, h6, h7⟩ hg hr
    have hr' := fun r e => (hr r e).2
    exact ⟨⟨heap_own h1 hg hr', heap_own h1' hg hr', heap_own h1'' hg hr'⟩, heap_own h2 hg hr', heap_own h3 hg hr', ⟨h4.1, heap_own h4.2 hg hr'⟩, row_own h5 hg hr', h6.grown hg h6.size (fun k e => by have := (hr k e).1; have := HN3.out.size; omega), h7⟩
  case hIx =>
    rintro cc s X Y row ⟨h0, gs, x, q, h1, ⟨h2, h2', h2''⟩, h3, h4⟩ hg hr
    have hr' := fun r e => (hr r e).2
    exact ⟨h0, gs, x, q, h1, ⟨heap_own h2 hg hr', heap_own h2' hg hr', heap_own h2'' hg hr'⟩, rowS_own h3 hg hr', h4.grown hg h4.size (fun k e => by have := (hr k e).1; have := HN3.out.size; omega)⟩
  case assign =>
    rintro l' pre x W' K hi hK
    gi_wp2
    exact hK _ _ (KeepsFrom.refl _ _) (KeepsCells.refl _ _) hi rfl
  case body =>
    rintro l' pre x a' W' hl' _ hI rfl hlen ⟨j, hj⟩
    obtain ⟨h1, h2, h3, h4, h5, h6, rfl⟩ := hI
    obtain ⟨g1, g2, g3⟩ := last_of hj
    obtain ⟨gs, hgs⟩ : ∃ gs, gs = fs.take j := ⟨_, rfl⟩
    rw [← hgs] at g1 g2
    obtain ⟨i, rfl, hi⟩ := HOK.out.1 x (by rw [g1]; simp)
    have hX := h4
    rw [g3] at hX
    have HCT := Lib.hid (ctake_c zc i j c' b pg p' (flg fs) W' hi (by have := owns_cap h5; omega) (by have := HOK.out.2; omega) hX)
    obtain ⟨w5, hw5⟩ : ∃ X : World, X = (W'.setCell ⟨zc, 2, none⟩ (.slice p' j j)).setCell ⟨zc, 3 + i, none⟩ (.bool false) := ⟨_, rfl⟩
    rw [← hw5] at HCT
    have hk5 : Keeps (fun k => k = zc) W' w5 := by
      rw [hw5]; exact (Keeps.setCell W' (S := (· = zc)) (p := ⟨zc, 2, none⟩) rfl _).trans (Keeps.setCell _ (S := (· = zc)) (p := ⟨zc, 3 + i, none⟩) rfl _)
    have ho5 : KeepsOthers W' w5 := by rw [hw5]; exact (KeepsOthers.setCell _ _ _).trans (KeepsOthers.setCell _ _ _)
    have hX5 : ChBox w5 zc b pg (.slice p' j j) ((flg fs).set i false) := by rw [hw5]; exact (hX.setV _).setF i false
    have hz := HZ.out
    have hr5 := h1.keeps hk5 (by omega) (by omega) (by omega)
    have hrow := ((RowS.of_owns rfl h5).keeps hk5 (fun g hg e => by subst e; exact hX.row h5 (by rw [hg]; rfl) rfl)).cut j (by omega)
    have hb5 := h6.trans (hk5.below h6.size (fun k e => by omega))
    have e0 := h3.cell
    have e1 := Boxed.cell (show Boxed w5 w1.heap.size 53 (.pointer (some ⟨zc, 0, none⟩)) from (hk5.block _ h2.lt (by omega)).trans h2)
    obtain ⟨d0, d1, d2⟩ := hX5.cells
    obtain ⟨f0, f1, f2⟩ := hr5.1.cells
    have m0 := hr5.1.marks 0
    have m1 := hr5.1.marks 1
    have m2 := hr5.1.marks 2
    have f3 := hr5.2.1.cell
    have m3 := hr5.2.1.frozen
    have f4 := hr5.2.2.cell
    have m4 := hr5.2.2.frozen
    obtain ⟨w6, hw6⟩ : ∃ X, X = stR w5 W.heap.size b pg (.slice p' j j) (i : Int) 0 := ⟨_, rfl⟩
    have hF := stR_facts hr5 b pg (.slice p' j j) (i : Int) 0
    have hO6 := stR_others w5 W.heap.size b pg (.slice p' j j) (i : Int) 0
    rw [← hw6] at hF hO6
    have HFIN := Lib.hid (show KeepsFrom w4.heap.size W' w6 ∧ TX W W.heap.size b pg fs .ret [(i : Int)] w6 from ⟨(ho5.trans hO6).from _, rfl, gs, i, p', g1, by rw [g2]; exact hF.1, by
      rw [g2, hgs]
      refine (hrow.keeps hF.2 (fun g hg e => ?_)).mono (by omega)
      have hg1 := (h5.lt g (by rw [hg]; rfl)).1
      omega, hb5.trans (hF.2.below hb5.size (fun k e => by omega))⟩)
    unfold stR at hw6
    have HW6 := Lib.hid hw6
    clear h1 h2 h3 h4 h5 h6 hX hw5 hk5 ho5 hX5 hr5 hrow hb5 hF hO6 hw6 hgs g1 g2 g3 hj hz
    gi_wp2_with fail
    refine ⟨trivial, ((callsIn_wide.2 HCT.out).inRound l').mono ?_⟩
    rintro e wq ⟨rfl, rfl⟩
    gi_wp2
    rw [← HW6.out]
    exact HFIN.out
  case done =>
    rintro D xs W' hD rfl hI hK
    obtain ⟨h1, h2, h3, h4, h5, h6, h7⟩ := hI
    have HE := Lib.hid (show fs = [] from List.reverse_eq_nil_iff.1 h7)
    obtain ⟨f0, f1, f2⟩ := h1.1.cells
    have m0 := h1.1.marks 0
    have m1 := h1.1.marks 1
    have m2 := h1.1.marks 2
    have f3 := h1.2.1.cell
    have m3 := h1.2.1.frozen
    have f4 := h1.2.2.cell
    have m4 := h1.2.2.frozen
    obtain ⟨w6, hw6⟩ : ∃ X, X = stR W' W.heap.size 0 0 (.slice none 0 0) 0 6 := ⟨_, rfl⟩
    have hF := stR_facts h1 0 0 (.slice none 0 0) 0 6
    have hO6 := stR_others W' W.heap.size 0 0 (.slice none 0 0) 0 6
    rw [← hw6] at hF hO6
    have hDN : W.heap.size + 4 ≤ D := by have := HZ.out; have := HI4.out.2.1.lt; omega
    have HK6 := Lib.hid (show w6.heap[D]? = some (.deferred (some [])) from hO6.same D _ hK rfl)
    have HB6 := Lib.hid (h6.trans (hF.2.below h6.size (fun k e => by omega)))
    have HR6 := Lib.hid hF.1
    have HDN := Lib.hid hDN
    unfold stR at hw6
    have HW6 := Lib.hid hw6
    clear h1 h2 h3 h4 h5 h6 h7 hF hO6 hw6 hK hDN hD
    gi_wp2
    rw [← HW6.out]
    refine ⟨by simp, .inl ⟨_, _, rfl, run_takeDeferred HK6.out, ?_⟩⟩
    have hr : TR (w6.putObj D (.deferred none)) W.heap.size 0 0 (.slice none 0 0) 0 6 := ⟨(World.putObj_heap_other (by have := HDN.out; omega)).trans HR6.out.1, (World.putObj_heap_other (by have := HDN.out; omega)).trans HR6.out.2.1, (World.putObj_heap_other (by have := HDN.out; omega)).trans HR6.out.2.2⟩
    exact ⟨_, hr.results rfl _ rfl rfl rfl, .inl ⟨HE.out, rfl⟩, HB6.out.grown (grownBy_putObj' _ D _) HB6.out.size (fun k e => by cases e; have := HDN.out; omega)⟩
  case stop =>
    rintro D cc pre W' hD _ ⟨rfl, gs, x, q, h1, h2, h3, h4⟩ hK
    have HDN := Lib.hid (show W.heap.size + 4 ≤ D by have := HZ.out; have := HI4.out.2.1.lt; omega)
    have HH := Lib.hid (And.intro h1 (And.intro h2 (And.intro h3 h4)))
    clear h1 h2 h3 h4 hD
    gi_wp2
    refine ⟨by simp, .inl ⟨_, _, rfl, run_takeDeferred hK, ?_⟩⟩
    obtain ⟨h1, h2, h3, h4⟩ := HH.out
    have hr : TR (W'.putObj D (.deferred none)) W.heap.size b pg (.slice q gs.length gs.length) x 0 := ⟨(World.putObj_heap_other (by have := HDN.out; omega)).trans h2.1, (World.putObj_heap_other (by have := HDN.out; omega)).trans h2.2.1, (World.putObj_heap_other (by have := HDN.out; omega)).trans h2.2.2⟩
    exact ⟨_, hr.results rfl _ rfl rfl rfl, .inr ⟨gs, x, q, h1, rfl, rowS_own h3 (grownBy_putObj' _ D _) (fun r e => by cases e; exact ⟨_, hK, rfl⟩)⟩, h4.grown (grownBy_putObj' _ D _) h4.size (fun k e => by cases e; have := HDN.out; omega)⟩

end Go.Proofs.Ythjkaabbbhfjhaa
