/-
  A region whose operations call nothing may be walked inside a fence as it is outside of one.
  Conditions: each operation copies, loads, reckons an address or a number, or asks for a length, the lesser or the greater.
-/
import Derived.Test.YtaljpggajpoalaaSB1
import Derived.Test.YtaljpggajpoalaaSB2
import Derived.RangeFuncNested
import Derived.RangeFuncBound
import Derived.RangeFuncCalls
import Derived.RangeFuncLeaves
import Derived.Scope
import Derived.Shelf.RegionOpen
import Derived.WalkKit
import Derived.OwnWalkIn
import Derived.TacticsInMore
import Derived.LoopNIn
import Derived.LoopIn
import Derived.Deep.RegionHeld
import Derived.Lib.Hide
import Derived.OrdersHeld
import Derived.OrdersIn
/-
  Which reads and writes may be: CheckRead, CheckWrite, and the document's answers.
  Conditions: the ranges of Go's types.
-/
namespace Go.Proofs.Ytaljpggajpoalaa
open Go.RowKit Go.Shelf
attribute [local go_sem] Oper.semAt_some

theorem below1 (W : World) (o1 : Obj) : Below W.heap.size W (W.alloc o1) := (Below.refl _ _).alloc (Nat.le_refl _) _
theorem below2 (W : World) (o1 o2 : Obj) : Below W.heap.size W ((W.alloc o1).alloc o2) := (below1 W o1).alloc (by simp) _
theorem below3 (W : World) (o1 o2 o3 : Obj) : Below W.heap.size W (((W.alloc o1).alloc o2).alloc o3) := (below2 W o1 o2).alloc (by simp; omega) _
theorem below4 (W : World) (o1 o2 o3 o4 : Obj) : Below W.heap.size W ((((W.alloc o1).alloc o2).alloc o3).alloc o4) := (below3 W o1 o2 o3).alloc (by simp; omega) _

/-- A read: the counter's place, the words', how many, the phase, what the counter was, how often it began anew; and how many values it has. -/
structure RdM where
  a : Int
  f : Int
  m : Int
  p : Int
  b : Int
  t : Int
/-- A write: the counter's place, the words', the phase, what the counter was, how many are written. -/
structure WrM where
  a : Int
  f : Int
  p : Int
  b : Int
  w : Int
def rdV (s : RdM) (v : Value) : Value := .agg #[.int .i64 s.a, .int .i64 s.f, .int .i64 s.m, .int .i64 s.p, .int .u64 s.b, v, .int .i64 s.t]
def wrV (s : WrM) (v : Value) : Value := .agg #[.int .i64 s.a, .int .i64 s.f, v, .int .i64 s.p, .int .u64 s.b, .int .i64 s.w]
/-- The counter is none of the words. -/
def apartB (a f m : Int) : Bool := decide (0 ≤ a) && decide (a ≤ 4096) && decide (0 ≤ f) && decide (f ≤ 4096) && (decide (a < f) || decide (f + m ≤ a))
def fitsRB (p t m : Int) (n : Nat) : Bool :=
  if p = 0 then (if t = 0 then decide (n = 0) else decide ((n : Int) = m)) else if p = 2 then decide ((n : Int) < m) else if p = 3 ∨ p = 4 then decide ((n : Int) = m) else if p = 5 then decide ((n : Int) ≤ m) else false
def fitsWB (p w : Int) (n : Nat) : Bool :=
  if p = 0 ∨ p = 1 then decide (w = 0) else if p = 2 then decide (0 ≤ w) && decide (w < (n : Int)) else if p = 3 ∨ p = 4 then decide (w = (n : Int)) else if p = 5 then decide (0 ≤ w) && decide (w ≤ (n : Int)) else false
def rightRB (s : RdM) (n : Nat) : Bool := decide (0 ≤ s.m) && decide (s.m ≤ 16) && apartB s.a s.f s.m && decide (s.b % 2 = 0) && decide (0 ≤ s.t) && decide (s.t ≤ 1073741824) && fitsRB s.p s.t s.m n
def rightWB (s : WrM) (n : Nat) : Bool := decide (1 ≤ n) && decide (n ≤ 16) && apartB s.a s.f (n : Int) && decide (s.b % 2 = 0) && fitsWB s.p s.w n
theorem ret_b {b c : Bool} (h : b = c) : Ending.returned (.bool b) = Ending.returned (.bool c) := by rw [h]

set_option maxRecDepth 100000 in
set_option maxHeartbeats 4000000 in
theorem odd_c (c : Int) (hc : 0 ≤ c ∧ c ≤ 18446744073709551615) (W : World) : Calls Try.prog 43 #[.int .u64 c] W fun e w' => e = .returned (.bool (!decide (c % 2 = 0))) ∧ Below W.heap.size W w' := by
  obtain ⟨h0, h1⟩ := hc
  by_cases h : c % 2 = 0
  · have hz : (c % 2 != 0) = false := by rw [h]; rfl
    have hr : (!decide (c % 2 = 0)) = false := by simp [h]
    rw [hr]
    clear h hr
    go_enter Try.func43, Try.ntmps43
    go_wp2
    go_ret
    exact ⟨rfl, by first | exact Below.refl _ _ | exact below1 _ _ | exact below2 _ _ _ | exact below3 _ _ _ _ | exact below4 _ _ _ _ _⟩
  · have hz : (c % 2 != 0) = true := by rw [bne_iff_ne]; exact h
    have hr : (!decide (c % 2 = 0)) = true := by simp [h]
    rw [hr]
    clear h hr
    go_enter Try.func43, Try.ntmps43
    go_wp2
    go_ret
    exact ⟨rfl, by first | exact Below.refl _ _ | exact below1 _ _ | exact below2 _ _ _ | exact below3 _ _ _ _ | exact below4 _ _ _ _ _⟩

set_option maxRecDepth 100000 in
set_option maxHeartbeats 4000000 in
theorem apart_c (a f m : Int) (hm : 0 ≤ m ∧ m ≤ 1000) (W : World) : Calls Try.prog 42 #[.int .i64 a, .int .i64 f, .int .i64 m] W fun e w' => e = .returned (.bool (apartB a f m)) ∧ Below W.heap.size W w' := by
  have hc : (a < 0 ∧ (apartB a f m) = false) ∨ (0 ≤ a ∧ 4096 < a ∧ (apartB a f m) = false) ∨ (0 ≤ a ∧ a ≤ 4096 ∧ f < 0 ∧ (apartB a f m) = false) ∨ (0 ≤ a ∧ a ≤ 4096 ∧ 0 ≤ f ∧ 4096 < f ∧ (apartB a f m) = false) ∨ (0 ≤ a ∧ a ≤ 4096 ∧ 0 ≤ f ∧ f ≤ 4096 ∧ a < f ∧ (apartB a f m) = true) ∨ (0 ≤ a ∧ a ≤ 4096 ∧ 0 ≤ f ∧ f ≤ 4096 ∧ f ≤ a ∧ f + m ≤ a ∧ (apartB a f m) = true) ∨ (0 ≤ a ∧ a ≤ 4096 ∧ 0 ≤ f ∧ f ≤ 4096 ∧ f ≤ a ∧ a < f + m ∧ (apartB a f m) = false) := by
    unfold apartB
    simp only [Bool.and_eq_true, Bool.or_eq_true, decide_eq_true_eq, Bool.and_eq_false_iff, Bool.or_eq_false_iff, decide_eq_false_iff_not]
    omega
  obtain ⟨hm0, hm1⟩ := hm
  rcases hc with ⟨h0, hr⟩ | ⟨h0, h1, hr⟩ | ⟨h0, h1, h2, hr⟩ | ⟨h0, h1, h2, h3, hr⟩ | ⟨h0, h1, h2, h3, h4, hr⟩ | ⟨h0, h1, h2, h3, h4, h5, hr⟩ | ⟨h0, h1, h2, h3, h4, h5, hr⟩
  all_goals
    rw [hr]
    clear hr
    go_enter Try.func42, Try.ntmps42
    go_wp2
    go_ret
    exact ⟨by first | rfl | exact ret_b (by simp; omega), by first | exact Below.refl _ _ | exact below1 _ _ | exact below2 _ _ _ | exact below3 _ _ _ _ | exact below4 _ _ _ _ _⟩

set_option maxRecDepth 100000 in
set_option maxHeartbeats 4000000 in
theorem words_c (a f m : Int) (hm : 0 ≤ m) (W : World) : Calls Try.prog 40 #[.int .i64 a, .int .i64 f, .int .i64 m] W fun e w' => e = .returned (.bool (decide (m ≤ 16) && apartB a f m)) ∧ Below W.heap.size W w' := by
  have hc : (a < 0 ∧ (decide (m ≤ 16) && apartB a f m) = false) ∨ (0 ≤ a ∧ 4096 < a ∧ (decide (m ≤ 16) && apartB a f m) = false) ∨ (0 ≤ a ∧ a ≤ 4096 ∧ f < 0 ∧ (decide (m ≤ 16) && apartB a f m) = false) ∨ (0 ≤ a ∧ a ≤ 4096 ∧ 0 ≤ f ∧ 4096 < f ∧ (decide (m ≤ 16) && apartB a f m) = false) ∨ (0 ≤ a ∧ a ≤ 4096 ∧ 0 ≤ f ∧ f ≤ 4096 ∧ 16 < m ∧ (decide (m ≤ 16) && apartB a f m) = false) ∨ (0 ≤ a ∧ a ≤ 4096 ∧ 0 ≤ f ∧ f ≤ 4096 ∧ m ≤ 16 ∧ a < f ∧ (decide (m ≤ 16) && apartB a f m) = true) ∨ (0 ≤ a ∧ a ≤ 4096 ∧ 0 ≤ f ∧ f ≤ 4096 ∧ m ≤ 16 ∧ f ≤ a ∧ f + m ≤ a ∧ (decide (m ≤ 16) && apartB a f m) = true) ∨ (0 ≤ a ∧ a ≤ 4096 ∧ 0 ≤ f ∧ f ≤ 4096 ∧ m ≤ 16 ∧ f ≤ a ∧ a < f + m ∧ (decide (m ≤ 16) && apartB a f m) = false) := by
    unfold apartB
    simp only [Bool.and_eq_true, Bool.or_eq_true, decide_eq_true_eq, Bool.and_eq_false_iff, Bool.or_eq_false_iff, decide_eq_false_iff_not]
    omega
  rcases hc with ⟨h0, hr⟩ | ⟨h0, h1, hr⟩ | ⟨h0, h1, h2, hr⟩ | ⟨h0, h1, h2, h3, hr⟩ | ⟨h0, h1, h2, h3, h4, hr⟩ | ⟨h0, h1, h2, h3, h4, h5, hr⟩ | ⟨h0, h1, h2, h3, h4, h5, h6, hr⟩ | ⟨h0, h1, h2, h3, h4, h5, h6, hr⟩
  all_goals
    rw [hr]
    clear hr
    go_enter Try.func40, Try.ntmps40
    go_wp2
    go_ret
    exact ⟨by first | rfl | exact ret_b (by simp; omega), by first | exact Below.refl _ _ | exact below1 _ _ | exact below2 _ _ _ | exact below3 _ _ _ _ | exact below4 _ _ _ _ _⟩

end Go.Proofs.Ytaljpggajpoalaa
/-
  Opening arguments of layer 6: a read, a write.
  Conditions: none.
-/
namespace Go.Proofs.Ytaljpggajpoalaa
open Go.ChangeShapes Go.WideShapes Go.ChangeAt Go.RowKit Go.Deep Go.Joins

theorem earray6 {cs : Array Value} (h : cs.size = 6) : ∃ c0 c1 c2 c3 c4 c5, cs = #[c0, c1, c2, c3, c4, c5] := by
  obtain ⟨l⟩ := cs
  match l, h with
  | [c0, c1, c2, c3, c4, c5], _ => exact ⟨c0, c1, c2, c3, c4, c5, rfl⟩
theorem etrod_struct6 {H : Type} {enc : TypeId × Value → H} {P : Program} {w : World} {base : Nat} {spare : Nat → Bool} {held : Bool} {t : TypeId} {f0 f1 f2 f3 f4 f5 : Field} {fuel : Nat} {cs : List Value} {x : DataW H × List MemPlace} (ht : P.underlying t = some (.struct #[f0, f1, f2, f3, f4, f5])) (h : DataW.trod enc P w base spare held fuel t cs = some x) :
    ∃ (y0 y1 y2 y3 y4 y5 : DataW H × List MemPlace) (n : Nat), DataW.trod enc P w base spare held n f0.type ((cs.drop f0.offset).take (P.cellsOf f0.type)) = some y0 ∧ DataW.trod enc P w base spare held n f1.type ((cs.drop f1.offset).take (P.cellsOf f1.type)) = some y1 ∧ DataW.trod enc P w base spare held n f2.type ((cs.drop f2.offset).take (P.cellsOf f2.type)) = some y2 ∧ DataW.trod enc P w base spare held n f3.type ((cs.drop f3.offset).take (P.cellsOf f3.type)) = some y3 ∧ DataW.trod enc P w base spare held n f4.type ((cs.drop f4.offset).take (P.cellsOf f4.type)) = some y4 ∧ DataW.trod enc P w base spare held n f5.type ((cs.drop f5.offset).take (P.cellsOf f5.type)) = some y5 := by
  obtain ⟨xs, n, _, rfl, hl, hlen, hf⟩ := DataW.trod_struct ht h
  match xs, hlen with
  | [y0, y1, y2, y3, y4, y5], _ => exact ⟨y0, y1, y2, y3, y4, y5, n, by simpa using hf 0 f0 rfl, by simpa using hf 1 f1 rfl, by simpa using hf 2 f2 rfl, by simpa using hf 3 f3 rfl, by simpa using hf 4 f4 rfl, by simpa using hf 5 f5 rfl⟩
theorem eopen_agg6 {H : Type} {enc : TypeId × Value → H} {P : Program} {w : World} {base : Nat} {spare : Nat → Bool} {held : Bool} {r : Reach} {b0 : Nat} {t : TypeId} {f0 f1 f2 f3 f4 f5 : Field} {v : Value} {d : DataW H} {p : List MemPlace} (hs : P.underlying t = some (.struct #[f0, f1, f2, f3, f4, f5])) (hone : oneCellFields P #[f0, f1, f2, f3, f4, f5] = true) (hC : P.cellsOf t = 6)
    (hv : Value.okWide P w r b0 t v) (h : DataW.Trod enc P w base spare held t v d p) :
    ∃ (v0 v1 v2 v3 v4 v5 : Value) (y0 y1 y2 y3 y4 y5 : DataW H × List MemPlace) (n : Nat), v = .agg #[v0, v1, v2, v3, v4, v5] ∧ DataW.trod enc P w base spare held n f0.type [v0] = some y0 ∧ DataW.trod enc P w base spare held n f1.type [v1] = some y1 ∧ DataW.trod enc P w base spare held n f2.type [v2] = some y2 ∧ DataW.trod enc P w base spare held n f3.type [v3] = some y3 ∧ DataW.trod enc P w base spare held n f4.type [v4] = some y4 ∧ DataW.trod enc P w base spare held n f5.type [v5] = some y5 := by
  obtain ⟨cs, rfl, hsz⟩ := okWide_struct hs hv
  obtain ⟨c0, c1, c2, c3, c4, c5, rfl⟩ := earray6 (hsz.trans hC)
  obtain ⟨fuel, hf⟩ := h
  obtain ⟨y0, y1, y2, y3, y4, y5, n, h0, h1, h2, h3, h4, h5⟩ := etrod_struct6 hs hf
  obtain ⟨o0, k0⟩ := hone_of hone 0 f0 rfl
  obtain ⟨o1, k1⟩ := hone_of hone 1 f1 rfl
  obtain ⟨o2, k2⟩ := hone_of hone 2 f2 rfl
  obtain ⟨o3, k3⟩ := hone_of hone 3 f3 rfl
  obtain ⟨o4, k4⟩ := hone_of hone 4 f4 rfl
  obtain ⟨o5, k5⟩ := hone_of hone 5 f5 rfl
  exact ⟨c0, c1, c2, c3, c4, c5, y0, y1, y2, y3, y4, y5, n, rfl, by simpa [Value.cells, o0, k0] using h0, by simpa [Value.cells, o1, k1] using h1, by simpa [Value.cells, o2, k2] using h2, by simpa [Value.cells, o3, k3] using h3, by simpa [Value.cells, o4, k4] using h4, by simpa [Value.cells, o5, k5] using h5⟩
theorem earray7 {cs : Array Value} (h : cs.size = 7) : ∃ c0 c1 c2 c3 c4 c5 c6, cs = #[c0, c1, c2, c3, c4, c5, c6] := by
  obtain ⟨l⟩ := cs
  match l, h with
  | [c0, c1, c2, c3, c4, c5, c6], _ => exact ⟨c0, c1, c2, c3, c4, c5, c6, rfl⟩
theorem etrod_struct7 {H : Type} {enc : TypeId × Value → H} {P : Program} {w : World} {base : Nat} {spare : Nat → Bool} {held : Bool} {t : TypeId} {f0 f1 f2 f3 f4 f5 f6 : Field} {fuel : Nat} {cs : List Value} {x : DataW H × List MemPlace} (ht : P.underlying t = some (.struct #[f0, f1, f2, f3, f4, f5, f6])) (h : DataW.trod enc P w base spare held fuel t cs = some x) :
    ∃ (y0 y1 y2 y3 y4 y5 y6 : DataW H × List MemPlace) (n : Nat), DataW.trod enc P w base spare held n f0.type ((cs.drop f0.offset).take (P.cellsOf f0.type)) = some y0 ∧ DataW.trod enc P w base spare held n f1.type ((cs.drop f1.offset).take (P.cellsOf f1.type)) = some y1 ∧ DataW.trod enc P w base spare held n f2.type ((cs.drop f2.offset).take (P.cellsOf f2.type)) = some y2 ∧ DataW.trod enc P w base spare held n f3.type ((cs.drop f3.offset).take (P.cellsOf f3.type)) = some y3 ∧ DataW.trod enc P w base spare held n f4.type ((cs.drop f4.offset).take (P.cellsOf f4.type)) = some y4 ∧ DataW.trod enc P w base spare held n f5.type ((cs.drop f5.offset).take (P.cellsOf f5.type)) = some y5 ∧ DataW.trod enc P w base spare held n f6.type ((cs.drop f6.offset).take (P.cellsOf f6.type)) = some y6 := by
  obtain ⟨xs, n, _, rfl, hl, hlen, hf⟩ := DataW.trod_struct ht h
  match xs, hlen with
  | [y0, y1, y2, y3, y4, y5, y6], _ => exact ⟨y0, y1, y2, y3, y4, y5, y6, n, by simpa using hf 0 f0 rfl, by simpa using hf 1 f1 rfl, by simpa using hf 2 f2 rfl, by simpa using hf 3 f3 rfl, by simpa using hf 4 f4 rfl, by simpa using hf 5 f5 rfl, by simpa using hf 6 f6 rfl⟩
theorem eopen_agg7 {H : Type} {enc : TypeId × Value → H} {P : Program} {w : World} {base : Nat} {spare : Nat → Bool} {held : Bool} {r : Reach} {b0 : Nat} {t : TypeId} {f0 f1 f2 f3 f4 f5 f6 : Field} {v : Value} {d : DataW H} {p : List MemPlace} (hs : P.underlying t = some (.struct #[f0, f1, f2, f3, f4, f5, f6])) (hone : oneCellFields P #[f0, f1, f2, f3, f4, f5, f6] = true) (hC : P.cellsOf t = 7)
    (hv : Value.okWide P w r b0 t v) (h : DataW.Trod enc P w base spare held t v d p) :
    ∃ (v0 v1 v2 v3 v4 v5 v6 : Value) (y0 y1 y2 y3 y4 y5 y6 : DataW H × List MemPlace) (n : Nat), v = .agg #[v0, v1, v2, v3, v4, v5, v6] ∧ DataW.trod enc P w base spare held n f0.type [v0] = some y0 ∧ DataW.trod enc P w base spare held n f1.type [v1] = some y1 ∧ DataW.trod enc P w base spare held n f2.type [v2] = some y2 ∧ DataW.trod enc P w base spare held n f3.type [v3] = some y3 ∧ DataW.trod enc P w base spare held n f4.type [v4] = some y4 ∧ DataW.trod enc P w base spare held n f5.type [v5] = some y5 ∧ DataW.trod enc P w base spare held n f6.type [v6] = some y6 := by
  obtain ⟨cs, rfl, hsz⟩ := okWide_struct hs hv
  obtain ⟨c0, c1, c2, c3, c4, c5, c6, rfl⟩ := earray7 (hsz.trans hC)
  obtain ⟨fuel, hf⟩ := h
  obtain ⟨y0, y1, y2, y3, y4, y5, y6, n, h0, h1, h2, h3, h4, h5, h6⟩ := etrod_struct7 hs hf
  obtain ⟨o0, k0⟩ := hone_of hone 0 f0 rfl
  obtain ⟨o1, k1⟩ := hone_of hone 1 f1 rfl
  obtain ⟨o2, k2⟩ := hone_of hone 2 f2 rfl
  obtain ⟨o3, k3⟩ := hone_of hone 3 f3 rfl
  obtain ⟨o4, k4⟩ := hone_of hone 4 f4 rfl
  obtain ⟨o5, k5⟩ := hone_of hone 5 f5 rfl
  obtain ⟨o6, k6⟩ := hone_of hone 6 f6 rfl
  exact ⟨c0, c1, c2, c3, c4, c5, c6, y0, y1, y2, y3, y4, y5, y6, n, rfl, by simpa [Value.cells, o0, k0] using h0, by simpa [Value.cells, o1, k1] using h1, by simpa [Value.cells, o2, k2] using h2, by simpa [Value.cells, o3, k3] using h3, by simpa [Value.cells, o4, k4] using h4, by simpa [Value.cells, o5, k5] using h5, by simpa [Value.cells, o6, k6] using h6⟩
set_option maxRecDepth 100000 in
theorem read_open {H : Type} {enc : TypeId × Value → H} {W : World} {base : Nat} {v : Value} {d : DataW H} {ps : List MemPlace}
    (hval : Value.okWide Try.prog W .any base 29 v) (h : DataW.Trod enc Try.prog W 0 (fun _ => true) true 29 v d ps) :
    ∃ (s : RdM) (sv : Value) (vs : List Int), v = rdV s sv ∧ ArgR W sv (vs.map (Value.int .u64)) ∧ WRange vs ∧ vs.length ≤ 9223372036854775807 ∧ (0 ≤ s.b ∧ s.b ≤ 18446744073709551615) := by
  obtain ⟨v0, v1, v2, v3, v4, v5, v6, y0, y1, y2, y3, y4, y5, y6, n, rfl, h0, h1, h2, h3, h4, h5, h6⟩ := eopen_agg7 Try.underlying29 (by kernel_rfl) (by kernel_rfl) hval h
  obtain ⟨a, e0, _, w0⟩ := DataW.trod_int (t := 3) Try.underlying3 h0
  obtain ⟨f, e1, _, w1⟩ := DataW.trod_int (t := 3) Try.underlying3 h1
  obtain ⟨m, e2, _, w2⟩ := DataW.trod_int (t := 3) Try.underlying3 h2
  obtain ⟨p, e3, _, w3⟩ := DataW.trod_int (t := 3) Try.underlying3 h3
  obtain ⟨b, e4, _, w4⟩ := DataW.trod_int (t := 27) Try.underlying27 h4
  obtain ⟨t, e6, _, w6⟩ := DataW.trod_int (t := 3) Try.underlying3 h6
  obtain ⟨vs, hs, hsr, hsl⟩ := words_argr (t := 24) Try.underlying24 Try.underlying27 (by kernel_rfl) h5
  simp only [List.cons.injEq, and_true] at e0 e1 e2 e3 e4 e6
  subst e0 e1 e2 e3 e4 e6
  exact ⟨⟨a, f, m, p, b, t⟩, v5, vs, rfl, hs, hsr, hsl, by simpa [Lit.wf, IntKind.min, IntKind.max, IntKind.signed, IntKind.bits] using w4⟩
set_option maxRecDepth 100000 in
theorem write_open {H : Type} {enc : TypeId × Value → H} {W : World} {base : Nat} {v : Value} {d : DataW H} {ps : List MemPlace}
    (hval : Value.okWide Try.prog W .any base 34 v) (h : DataW.Trod enc Try.prog W 0 (fun _ => true) true 34 v d ps) :
    ∃ (s : WrM) (sv : Value) (vs : List Int), v = wrV s sv ∧ ArgR W sv (vs.map (Value.int .u64)) ∧ WRange vs ∧ vs.length ≤ 9223372036854775807 ∧ (0 ≤ s.b ∧ s.b ≤ 18446744073709551615) := by
  obtain ⟨v0, v1, v2, v3, v4, v5, y0, y1, y2, y3, y4, y5, n, rfl, h0, h1, h2, h3, h4, h5⟩ := eopen_agg6 Try.underlying34 (by kernel_rfl) (by kernel_rfl) hval h
  obtain ⟨a, e0, _, w0⟩ := DataW.trod_int (t := 3) Try.underlying3 h0
  obtain ⟨f, e1, _, w1⟩ := DataW.trod_int (t := 3) Try.underlying3 h1
  obtain ⟨p, e3, _, w3⟩ := DataW.trod_int (t := 3) Try.underlying3 h3
  obtain ⟨b, e4, _, w4⟩ := DataW.trod_int (t := 27) Try.underlying27 h4
  obtain ⟨w, e5, _, w5⟩ := DataW.trod_int (t := 3) Try.underlying3 h5
  obtain ⟨vs, hs, hsr, hsl⟩ := words_argr (t := 24) Try.underlying24 Try.underlying27 (by kernel_rfl) h2
  simp only [List.cons.injEq, and_true] at e0 e1 e3 e4 e5
  subst e0 e1 e3 e4 e5
  exact ⟨⟨a, f, p, b, w⟩, v2, vs, rfl, hs, hsr, hsl, by simpa [Lit.wf, IntKind.min, IntKind.max, IntKind.signed, IntKind.bits] using w4⟩

end Go.Proofs.Ytaljpggajpoalaa
/-
  memory.Step: what one access comes to; what was in memory stays.
  Conditions: the memory reads as these lists.
-/
namespace Go.Proofs.Ytaljpggajpoalaa
open Go.RowKit Go.Shelf

/-- What Step hands over. -/
def StepOk (B : Nat) (ls : List Bool) (r : List Int × Bool × (Int × Bool)) (e : Ending) (w' : World) : Prop :=
  ∃ gw cw gl cl, e = .returned (.tuple #[.agg #[.slice (some ⟨gw, 0, none⟩) r.1.length cw, .slice (some ⟨gl, 0, none⟩) ls.length cl, .bool r.2.1], .agg #[.int .u64 r.2.2.1, .bool r.2.2.2], .int .i64 0]) ∧
  w'.ownsRow B 27 1 (.slice (some ⟨gw, 0, none⟩) r.1.length cw) r.1.length (r.1.map (Value.int .u64)) ∧ w'.ownsRow B 4 1 (.slice (some ⟨gl, 0, none⟩) ls.length cl) ls.length (ls.map Value.bool)

theorem accs_one (W : World) (b : Nat) (k a o n : Int) (h0 : W.cell? ⟨b, 0, none⟩ = some (.int .i64 k)) (h1 : W.cell? ⟨b, 1, none⟩ = some (.int .i64 a)) (h2 : W.cell? ⟨b, 2, none⟩ = some (.int .u64 o)) (h3 : W.cell? ⟨b, 3, none⟩ = some (.int .u64 n)) :
    AccsAt W (.slice (some ⟨b, 0, none⟩) 1 1) [⟨k, a, o, n⟩] := by
  refine ⟨_, _, rfl, fun _ => ⟨b, 0, rfl, fun i hi => ?_⟩⟩
  have : i = 0 := by simp at hi; omega
  subst this
  exact ⟨h0, h1, h2, h3⟩

/-- Block z is a variable that holds an answer. -/
def GBox (W : World) (z : Nat) (x : Int) (d : Bool) : Prop := W.heap[z]? = some (.cells #[.int .u64 x, .bool d] 120 (0, 0))
theorem gbox_cells {W : World} {z : Nat} {x : Int} {d : Bool} (h : GBox W z x d) : (W.cell? ⟨z, 0, none⟩ = some (.int .u64 x) ∧ W.cell? ⟨z, 1, none⟩ = some (.bool d)) ∧ W.frozen? ⟨z, 0, none⟩ = false ∧ W.frozen? ⟨z, 1, none⟩ = false := by
  have h' : W.heap[z]? = _ := h
  simp [World.cell?, World.frozen?, h']
theorem GBox.lt {W : World} {z : Nat} {x : Int} {d : Bool} (h : GBox W z x d) : z < W.heap.size := (Array.getElem?_eq_some_iff.1 h).1
theorem GBox.below {W W' : World} {z : Nat} {x : Int} {d : Bool} (h : GBox W z x d) (hk : Below W.heap.size W W') : GBox W' z x d := (hk.block z h.lt).trans h
theorem GBox.keeps {S : Nat → Prop} {W W' : World} {z : Nat} {x : Int} {d : Bool} (h : GBox W z x d) (hk : Keeps S W W') (hz : ¬ S z) : GBox W' z x d := (hk.block z h.lt hz).trans h
theorem GBox.alloc {W : World} {z : Nat} {x : Int} {d : Bool} (h : GBox W z x d) (o : Obj) : GBox (W.alloc o) z x d := h.keeps (Keeps.alloc (fun _ => False) W o) (fun h => h)

set_option maxRecDepth 100000 in
set_option maxHeartbeats 4000000 in
theorem step_no (v : Value) (k a o n : Int) (ws : List Int) (ls : List Bool) (f : Bool) (W : World) (hv : MemAt W v ws ls f) (hw : ws.length ≤ 9223372036854775807) (c : Int) (hc : (rightB ws ls = false ∧ c = 120) ∨ (rightB ws ls = true ∧ kindB k = false ∧ c = 121)) :
    Calls Try.prog 64 #[v, .agg #[.int .i64 k, .int .i64 a, .int .u64 o, .int .u64 n]] W fun e w' => e = .returned (.tuple #[memZ, .agg #[.int .u64 0, .bool false], .int .i64 c]) ∧ Below W.heap.size W w' := by
  have hm := hv
  obtain ⟨vw, vl, rfl, ⟨pw, cw, rfl, hcw⟩, pl, cl, rfl, hcl⟩ := hv
  have HRUN : ∀ (W' : World) (b : Nat), Below W.heap.size W W' → AccsAt W' (.slice (some ⟨b, 0, none⟩) 1 1) [⟨k, a, o, n⟩] → Calls Try.prog 62 #[.agg #[.slice pw ws.length cw, .slice pl ls.length cl, .bool f], .slice (some ⟨b, 0, none⟩) 1 1] W' fun e w' => e = .returned (.tuple #[.agg #[.slice none 0 0, .slice none 0 0, .bool false], .slice none 0 0, .int .i64 c]) ∧ Below W'.heap.size W' w' := by
    intro W' b hb ha
    rcases hc with ⟨hr, rfl⟩ | ⟨hr, hk, rfl⟩
    · exact run_bad _ _ ws ls f W' (hm.below hb) hw hr ⟨_, _, _, rfl⟩
    · exact run_kind _ _ ws ls f [⟨k, a, o, n⟩] W' (hm.below hb) hw hr ha (by simp) (by simp [kindAll, hk])
  have hcne : (c != 0) = true := by rcases hc with ⟨_, rfl⟩ | ⟨_, _, rfl⟩ <;> decide
  clear hm hcw hcl hc
  obtain ⟨z, hz⟩ : ∃ z, z = W.heap.size := ⟨_, rfl⟩
  obtain ⟨wo, hwo⟩ : ∃ wo : World, wo = ((((W.alloc (.cells #[.slice pw ws.length cw, .slice pl ls.length cl, .bool f] 44)).alloc (.cells #[.int .i64 k, .int .i64 a, .int .u64 o, .int .u64 n] 118)).alloc (.cells #[.slice none 0 0, .slice none 0 0, .bool false] 44)).alloc (.cells #[.int .u64 0, .bool false] 120)).alloc (.cells #[.int .i64 k, .int .i64 a, .int .u64 o, .int .u64 n] 118) := ⟨_, rfl⟩
  have hB : Below W.heap.size W wo := by rw [hwo]; exact (((((Below.refl _ _).alloc (Nat.le_refl _) _).alloc (by simp) _).alloc (by simp; omega) _).alloc (by simp; omega) _).alloc (by simp; omega) _
  have HZ := Lib.hid (show MBox wo z (.slice pw ws.length cw) (.slice pl ls.length cl) f by rw [hwo, hz]; exact ((((MBox.new _ _ _ _).alloc _).alloc _).alloc _).alloc _)
  have HR := Lib.hid (show MBox wo (z + 1 + 1) (.slice none 0 0) (.slice none 0 0) false by
    have := MBox.new ((W.alloc (.cells #[.slice pw ws.length cw, .slice pl ls.length cl, .bool f] 44)).alloc (.cells #[.int .i64 k, .int .i64 a, .int .u64 o, .int .u64 n] 118)) (.slice none 0 0) (.slice none 0 0) false
    rw [World.size_alloc, World.size_alloc] at this
    rw [hwo, hz]; exact (this.alloc _).alloc _)
  have HG := Lib.hid (show GBox wo (z + 1 + 1 + 1) 0 false by
    have : GBox ((((W.alloc (.cells #[.slice pw ws.length cw, .slice pl ls.length cl, .bool f] 44)).alloc (.cells #[.int .i64 k, .int .i64 a, .int .u64 o, .int .u64 n] 118)).alloc (.cells #[.slice none 0 0, .slice none 0 0, .bool false] 44)).alloc (.cells #[.int .u64 0, .bool false] 120)) _ 0 false := World.alloc_heap_new _ _
    rw [World.size_alloc, World.size_alloc, World.size_alloc] at this
    rw [hwo, hz]; exact this.alloc _)
  have hA : AccsAt wo (.slice (some ⟨z + 1 + 1 + 1 + 1, 0, none⟩) 1 1) [⟨k, a, o, n⟩] := by
    have h : wo.heap[z + 1 + 1 + 1 + 1]? = some (.cells #[.int .i64 k, .int .i64 a, .int .u64 o, .int .u64 n] 118 (0, 0)) := by
      have := World.alloc_heap_new ((((W.alloc (.cells #[.slice pw ws.length cw, .slice pl ls.length cl, .bool f] 44)).alloc (.cells #[.int .i64 k, .int .i64 a, .int .u64 o, .int .u64 n] 118)).alloc (.cells #[.slice none 0 0, .slice none 0 0, .bool false] 44)).alloc (.cells #[.int .u64 0, .bool false] 120)) (.cells #[.int .i64 k, .int .i64 a, .int .u64 o, .int .u64 n] 118)
      rw [World.size_alloc, World.size_alloc, World.size_alloc, World.size_alloc] at this
      rw [hwo, hz]; exact this
    refine accs_one wo _ k a o n ?_ ?_ ?_ ?_ <;> simp [World.cell?, h]
  have hsz : z + 1 + 1 + 1 + 1 < wo.heap.size := by rw [hwo, hz]; simp
  go_enter Try.func64, Try.ntmps64
  go_wp2_with fail
  rw [← hwo, ← hz]
  have hzW : W.heap.size ≤ z := Nat.le_of_eq hz.symm
  clear hwo hz
  refine (HRUN _ _ hB hA).mono ?_
  rintro e w1 ⟨rfl, hb1⟩
  obtain ⟨⟨hd0, hd1, hd2⟩, he0, he1, he2⟩ := mbox_cells (HZ.out.below hb1)
  obtain ⟨⟨hr0, hr1, hr2⟩, hs0, hs1, hs2⟩ := mbox_cells (HR.out.below hb1)
  obtain ⟨⟨hg0, hg1⟩, hf0, hf1⟩ := gbox_cells (HG.out.below hb1)
  have hB1 := below_then hB hB.size hb1
  have hBZ := ((hB1.setCell (p := ⟨z, 0, none⟩) hzW (.slice none 0 0)).setCell (p := ⟨z, 1, none⟩) hzW (.slice none 0 0)).setCell (p := ⟨z, 2, none⟩) hzW (.bool false)
  have hBR := ((hBZ.setCell (p := ⟨z + 1 + 1, 0, none⟩) (by simp; omega) (.slice none 0 0)).setCell (p := ⟨z + 1 + 1, 1, none⟩) (by simp; omega) (.slice none 0 0)).setCell (p := ⟨z + 1 + 1, 2, none⟩) (by simp; omega) (.bool false)
  have hBG := (hBR.setCell (p := ⟨z + 1 + 1 + 1, 0, none⟩) (by simp; omega) (.int .u64 0)).setCell (p := ⟨z + 1 + 1 + 1, 1, none⟩) (by simp; omega) (.bool false)
  clear hb1 hB1 hBZ hBR hB hA HRUN
  go_wp2
  exact bodyPost_ret (v := .tuple #[memZ, .agg #[.int .u64 0, .bool false], .int .i64 c]) (by simp [results, Try.results64, go_sem, hr0, hr1, hr2, hg0, hg1, memZ]) rfl ⟨rfl, hBG⟩

set_option maxRecDepth 100000 in
set_option maxHeartbeats 4000000 in
theorem step_yes (v : Value) (k a o n : Int) (ws : List Int) (ls : List Bool) (f : Bool) (W : World) (hv : MemAt W v ws ls f) (hr : rightB ws ls = true) (hkd : kindB k = true) :
    Calls Try.prog 64 #[v, .agg #[.int .i64 k, .int .i64 a, .int .u64 o, .int .u64 n]] W fun e w' => StepOk W.heap.size ls (accM ws ls f k a o n) e w' ∧ Below W.heap.size W w' := by
  have hm := hv
  obtain ⟨hn1, _, hlen, _⟩ := rightB_iff.1 hr
  obtain ⟨vw, vl, rfl, ⟨pw, cw, rfl, hcw⟩, pl, cl, rfl, hcl⟩ := hv
  obtain ⟨r, hrr⟩ : ∃ r, r = accM ws ls f k a o n := ⟨_, rfl⟩
  have hrl : r.1.length = ws.length := by rw [hrr, accM_length]
  have hrs : runS ls ws f [⟨k, a, o, n⟩] = (r.1, r.2.1, [r.2.2]) := by rw [hrr]; rfl
  have HRUN : ∀ (W' : World) (b : Nat), Below W.heap.size W W' → AccsAt W' (.slice (some ⟨b, 0, none⟩) 1 1) [⟨k, a, o, n⟩] → Calls Try.prog 62 #[.agg #[.slice pw ws.length cw, .slice pl ls.length cl, .bool f], .slice (some ⟨b, 0, none⟩) 1 1] W' fun e w' => RunOk W'.heap.size ls (r.1, r.2.1, [r.2.2]) e w' ∧ Below W'.heap.size W' w' := by
    intro W' b hb ha
    rw [← hrs]
    exact run_yes _ _ ws ls f [⟨k, a, o, n⟩] W' (hm.below hb) hr ha (by simp) (by simp [kindAll, hkd])
  rw [← hrr]
  have HRL := Lib.hid hrl
  have HLEN := Lib.hid hlen
  clear hm hcw hcl hrr hrs hrl hlen
  obtain ⟨z, hz⟩ : ∃ z, z = W.heap.size := ⟨_, rfl⟩
  obtain ⟨wo, hwo⟩ : ∃ wo : World, wo = ((((W.alloc (.cells #[.slice pw ws.length cw, .slice pl ls.length cl, .bool f] 44)).alloc (.cells #[.int .i64 k, .int .i64 a, .int .u64 o, .int .u64 n] 118)).alloc (.cells #[.slice none 0 0, .slice none 0 0, .bool false] 44)).alloc (.cells #[.int .u64 0, .bool false] 120)).alloc (.cells #[.int .i64 k, .int .i64 a, .int .u64 o, .int .u64 n] 118) := ⟨_, rfl⟩
  have hB : Below W.heap.size W wo := by rw [hwo]; exact (((((Below.refl _ _).alloc (Nat.le_refl _) _).alloc (by simp) _).alloc (by simp; omega) _).alloc (by simp; omega) _).alloc (by simp; omega) _
  have HZ := Lib.hid (show MBox wo z (.slice pw ws.length cw) (.slice pl ls.length cl) f by rw [hwo, hz]; exact ((((MBox.new _ _ _ _).alloc _).alloc _).alloc _).alloc _)
  have HR := Lib.hid (show MBox wo (z + 1 + 1) (.slice none 0 0) (.slice none 0 0) false by
    have := MBox.new ((W.alloc (.cells #[.slice pw ws.length cw, .slice pl ls.length cl, .bool f] 44)).alloc (.cells #[.int .i64 k, .int .i64 a, .int .u64 o, .int .u64 n] 118)) (.slice none 0 0) (.slice none 0 0) false
    rw [World.size_alloc, World.size_alloc] at this
    rw [hwo, hz]; exact (this.alloc _).alloc _)
  have HG := Lib.hid (show GBox wo (z + 1 + 1 + 1) 0 false by
    have : GBox ((((W.alloc (.cells #[.slice pw ws.length cw, .slice pl ls.length cl, .bool f] 44)).alloc (.cells #[.int .i64 k, .int .i64 a, .int .u64 o, .int .u64 n] 118)).alloc (.cells #[.slice none 0 0, .slice none 0 0, .bool false] 44)).alloc (.cells #[.int .u64 0, .bool false] 120)) _ 0 false := World.alloc_heap_new _ _
    rw [World.size_alloc, World.size_alloc, World.size_alloc] at this
    rw [hwo, hz]; exact this.alloc _)
  have hA : AccsAt wo (.slice (some ⟨z + 1 + 1 + 1 + 1, 0, none⟩) 1 1) [⟨k, a, o, n⟩] := by
    have h : wo.heap[z + 1 + 1 + 1 + 1]? = some (.cells #[.int .i64 k, .int .i64 a, .int .u64 o, .int .u64 n] 118 (0, 0)) := by
      have := World.alloc_heap_new ((((W.alloc (.cells #[.slice pw ws.length cw, .slice pl ls.length cl, .bool f] 44)).alloc (.cells #[.int .i64 k, .int .i64 a, .int .u64 o, .int .u64 n] 118)).alloc (.cells #[.slice none 0 0, .slice none 0 0, .bool false] 44)).alloc (.cells #[.int .u64 0, .bool false] 120)) (.cells #[.int .i64 k, .int .i64 a, .int .u64 o, .int .u64 n] 118)
      rw [World.size_alloc, World.size_alloc, World.size_alloc, World.size_alloc] at this
      rw [hwo, hz]; exact this
    refine accs_one wo _ k a o n ?_ ?_ ?_ ?_ <;> simp [World.cell?, h]
  have hsz : z + 1 + 1 + 1 + 1 < wo.heap.size := by rw [hwo, hz]; simp
  go_enter Try.func64, Try.ntmps64
  go_wp2_with fail
  rw [← hwo, ← hz]
  have hzW : W.heap.size ≤ z := Nat.le_of_eq hz.symm
  clear hwo hz
  refine (HRUN _ _ hB hA).mono ?_
  rintro e w1 ⟨⟨gw, cw2, gl, cl2, vg, rfl, how, hol, hog⟩, hb1⟩
  obtain ⟨y, d, hyd⟩ : ∃ y d, r.2.2 = (y, d) := ⟨_, _, rfl⟩
  obtain ⟨gg, cg, rfl, hgg, _⟩ := own_form hog (by simp)
  simp only [hyd] at hog how ⊢
  have HYD := Lib.hid hyd
  have hgn : wo.heap.size ≤ gg := hgg
  have hwn : wo.heap.size ≤ gw := by
    rcases how.2 with ⟨h', _⟩ | ⟨g, c, cur, h', hb, _⟩
    · cases h'
    · injection h' with e1 _ _; injection e1 with e1; injection e1 with e1 _ _; omega
  have hln : wo.heap.size ≤ gl := by
    rcases hol.2 with ⟨h', _⟩ | ⟨g, c, cur, h', hb, _⟩
    · cases h'
    · injection h' with e1 _ _; injection e1 with e1; injection e1 with e1 _ _; omega
  have hy0 := hog.cellAt 0 (by simp)
  have hy1 := hog.cellAt 1 (by simp)
  simp only [flatG, List.getElem?_cons_zero, List.getElem?_cons_succ] at hy0 hy1
  obtain ⟨⟨hd0, hd1, hd2⟩, he0, he1, he2⟩ := mbox_cells (HZ.out.below hb1)
  obtain ⟨⟨hr0, hr1, hr2⟩, hs0, hs1, hs2⟩ := mbox_cells (HR.out.below hb1)
  obtain ⟨⟨hg0, hg1⟩, hf0, hf1⟩ := gbox_cells (HG.out.below hb1)
  have hB1 := below_then hB hB.size hb1
  have hsz1 : z + 1 + 1 + 1 + 1 < w1.heap.size := by have := hsz; have := hb1.size; omega
  have HOW := Lib.hid how
  have HOL := Lib.hid hol
  have HZ1 := Lib.hid (HZ.out.below hb1)
  have HR1 := Lib.hid (HR.out.below hb1)
  have HG1 := Lib.hid (HG.out.below hb1)
  clear hb1 hB hA HRUN how hol hog hyd HZ HR HG hr0 hr1 hr2 hs0 hs1 hs2 hg0 hg1 hf0 hf1
  go_upto_region 4 with fail
  obtain ⟨w2, hw2⟩ : ∃ w2 : World, w2 = ((w1.setCell ⟨z, 0, none⟩ (.slice (some ⟨gw, 0, none⟩) r.1.length cw2)).setCell ⟨z, 1, none⟩ (.slice (some ⟨gl, 0, none⟩) ls.length cl2)).setCell ⟨z, 2, none⟩ (.bool r.2.1) := ⟨_, rfl⟩
  rw [← hw2]
  have hkz : Keeps (· = z) w1 w2 := by
    rw [hw2]
    exact ((Keeps.setCell w1 (S := (· = z)) (p := ⟨z, 0, none⟩) rfl _).trans (Keeps.setCell _ (S := (· = z)) (p := ⟨z, 1, none⟩) rfl _)).trans (Keeps.setCell _ (S := (· = z)) (p := ⟨z, 2, none⟩) rfl _)
  obtain ⟨⟨hm0, hm1, hm2⟩, _⟩ := mbox_cells (show MBox w2 z (.slice (some ⟨gw, 0, none⟩) r.1.length cw2) (.slice (some ⟨gl, 0, none⟩) ls.length cl2) r.2.1 by rw [hw2]; exact HZ1.out.set _ _ _)
  obtain ⟨⟨hr0, hr1, hr2⟩, hs0, hs1, hs2⟩ := mbox_cells (HR1.out.keeps hkz (by omega))
  obtain ⟨⟨hg0, hg1⟩, hf0, hf1⟩ := gbox_cells (HG1.out.keeps hkz (by omega))
  have hzg : gg ≠ z := by omega
  replace hy0 := hkz.cell hy0 hzg
  replace hy1 := hkz.cell hy1 hzg
  have HOW2 := Lib.hid (hkz.row HOW.out (by intro g hg; simp [Value.ownBlock] at hg; omega))
  have HOL2 := Lib.hid (hkz.row HOL.out (by intro g hg; simp [Value.ownBlock] at hg; omega))
  have hB2 : Below W.heap.size W w2 := hB1.trans (hkz.below hB1.size (fun q hq => by omega))
  have hkr : ∀ x, x = w2 ∨ x = w2.drew → Keeps (fun q => q = z + 1 + 1 ∨ q = z + 1 + 1 + 1) w2 (((((x.setCell ⟨z + 1 + 1, 0, none⟩ (.slice (some ⟨gw, 0, none⟩) r.1.length cw2)).setCell ⟨z + 1 + 1, 1, none⟩ (.slice (some ⟨gl, 0, none⟩) ls.length cl2)).setCell ⟨z + 1 + 1, 2, none⟩ (.bool r.2.1)).setCell ⟨z + 1 + 1 + 1, 0, none⟩ (.int .u64 y)).setCell ⟨z + 1 + 1 + 1, 1, none⟩ (.bool d)) := by
    intro x hx
    have hx0 : Keeps (fun q => q = z + 1 + 1 ∨ q = z + 1 + 1 + 1) w2 x := by rcases hx with rfl | rfl <;> exact ⟨rfl, rfl, rfl, Nat.le_refl _, fun _ _ _ => rfl⟩
    exact ((((hx0.trans (Keeps.setCell _ (p := ⟨z + 1 + 1, 0, none⟩) (.inl rfl) _)).trans (Keeps.setCell _ (p := ⟨z + 1 + 1, 1, none⟩) (.inl rfl) _)).trans (Keeps.setCell _ (p := ⟨z + 1 + 1, 2, none⟩) (.inl rfl) _)).trans (Keeps.setCell _ (p := ⟨z + 1 + 1 + 1, 0, none⟩) (.inr rfl) _)).trans (Keeps.setCell _ (p := ⟨z + 1 + 1 + 1, 1, none⟩) (.inr rfl) _)
  have HKR := Lib.hid hkr
  clear hw2 hkz HZ1 HR1 HG1 HOW HOL hB1 hd0 hd1 hd2 he0 he1 he2 hkr
  go_region
  all_goals go_wp2
  have hk := HKR.out w2 (.inl rfl)
  have ho1 := hk.row HOW2.out (by intro g hg; simp [Value.ownBlock] at hg; omega)
  have ho2 := hk.row HOL2.out (by intro g hg; simp [Value.ownBlock] at hg; omega)
  have hBe := hB2.trans (hk.below hB2.size (fun q hq => by omega))
  refine bodyPost_ret (v := .tuple #[.agg #[.slice (some ⟨gw, 0, none⟩) r.1.length cw2, .slice (some ⟨gl, 0, none⟩) ls.length cl2, .bool r.2.1], .agg #[.int .u64 y, .bool d], .int .i64 0]) (by simp [results, Try.results64, go_sem, hr0, hr1, hr2, hg0, hg1]) rfl ⟨⟨gw, cw2, gl, cl2, by rw [HYD.out], (ho1.mono (by omega)).drew, (ho2.mono (by omega)).drew⟩, hBe.drew⟩

end Go.Proofs.Ytaljpggajpoalaa
/-
  memory.turn: the memory in memory of its own, some words live, or free, and holding one number; what was in memory stays.
  Conditions: the words are there.
-/
namespace Go.Proofs.Ytaljpggajpoalaa
open Go.RowKit Go.Shelf

/-- A list with one value at k places from x on. -/
def fill {α : Type} (l : List α) (x : Nat) (v : α) : Nat → List α
  | 0 => l
  | k + 1 => (fill l x v k).set (x + k) v
theorem fill_length {α : Type} (l : List α) (x : Nat) (v : α) (k : Nat) : (fill l x v k).length = l.length := by
  induction k with
  | zero => rfl
  | succ k ih => simp [fill, ih]
theorem fill_get {α : Type} (l : List α) (x : Nat) (v : α) (k j : Nat) (h : j < l.length) : (fill l x v k)[j]'(by rw [fill_length]; exact h) = if x ≤ j ∧ j < x + k then v else l[j] := by
  induction k with
  | zero => simp [fill]; intro h1 h2; omega
  | succ k ih =>
    simp only [fill, List.getElem_set, ih]
    split
    · rw [if_pos (by omega)]
    · split
      · rw [if_pos (by omega)]
      · rw [if_neg (by omega)]

/-- What holds at the head of turn's loop. -/
structure TurnInv (B z gw nw cw gl nl cl : Nat) (ws : List Int) (ls : List Bool) (f : Bool) (W w : World) : Prop where
  box : MBox w z (.slice (some ⟨gw, 0, none⟩) nw cw) (.slice (some ⟨gl, 0, none⟩) nl cl) f
  words : w.ownsRow B 27 1 (.slice (some ⟨gw, 0, none⟩) nw cw) nw (ws.map (Value.int .u64))
  lives : w.ownsRow B 4 1 (.slice (some ⟨gl, 0, none⟩) nl cl) nl (ls.map Value.bool)
  res : MBox w (z + 1) (.slice none 0 0) (.slice none 0 0) false
  below : Below W.heap.size W w

set_option maxRecDepth 100000 in
set_option maxHeartbeats 4000000 in
theorem turn_c (v : Value) (ws : List Int) (ls : List Bool) (f : Bool) (x k : Nat) (d : Bool) (u : Int) (W : World) (hv : MemAt W v ws ls f) (hn1 : 1 ≤ ws.length) (hn2 : ws.length ≤ 4096) (hlen : ls.length = ws.length) (hk : 1 ≤ k) (hxk : x + k ≤ ws.length) :
    Calls Try.prog 76 #[v, .int .i64 (x : Int), .int .i64 (k : Int), .bool d, .int .u64 u] W fun e w' => GivesMem W.heap.size (fill ws x u k) (fill ls x d k) f e w' ∧ Below W.heap.size W w' := by
  have hm := hv
  obtain ⟨vw, vl, rfl, ⟨pw, cw, rfl, hcw⟩, pl, cl, rfl, hcl⟩ := hv
  have HM := Lib.hid hm
  have HLEN := Lib.hid hlen
  clear hm hcw hcl hlen
  obtain ⟨z, hz⟩ : ∃ z, z = W.heap.size := ⟨_, rfl⟩
  obtain ⟨wo, hwo⟩ : ∃ wo : World, wo = (W.alloc (.cells #[.slice pw ws.length cw, .slice pl ls.length cl, .bool f] 44)).alloc (.cells #[.slice none 0 0, .slice none 0 0, .bool false] 44) := ⟨_, rfl⟩
  have hZ : MBox wo z (.slice pw ws.length cw) (.slice pl ls.length cl) f := by rw [hwo, hz]; exact (MBox.new _ _ _ _).alloc _
  have hR : MBox wo (z + 1) (.slice none 0 0) (.slice none 0 0) false := by
    have := MBox.new (W.alloc (.cells #[.slice pw ws.length cw, .slice pl ls.length cl, .bool f] 44)) (.slice none 0 0) (.slice none 0 0) false
    rw [World.size_alloc] at this
    rw [hwo, hz]; exact this
  have hB : Below W.heap.size W wo := by rw [hwo]; exact ((Below.refl _ _).alloc (Nat.le_refl _) _).alloc (by simp) _
  have hsz : z + 2 ≤ wo.heap.size := by rw [hwo, hz]; simp
  have HZ := Lib.hid hZ
  have HR := Lib.hid hR
  clear hZ hR
  go_enter Try.func76, Try.ntmps76
  go_wp2_with fail
  rw [← hwo, ← hz]
  have HZW := Lib.hid hz
  clear hwo hz
  refine (double_c _ ws ls f _ (HM.out.below hB) (by omega) (by rw [HLEN.out]; omega) (by omega) (by rw [HLEN.out]; omega)).mono ?_
  rintro e w3 ⟨⟨_, rfl, vw2, vl2, rfl, how, hol⟩, hb3⟩
  obtain ⟨gw, cw2, rfl, hgw, hgw3⟩ := own_form how (by omega)
  obtain ⟨gl, cl2, rfl, hgl, hgl3⟩ := own_form hol (by rw [HLEN.out]; omega)
  have hcap := own_cap how
  have hcap2 := own_cap hol
  have hzg : z < gw := by omega
  have hzgl : z < gl := by omega
  have hB3 := below_then hB hB.size hb3
  have HZ3 := Lib.hid (HZ.out.below hb3)
  obtain ⟨⟨hd0, hd1, hd2⟩, he0, he1, he2⟩ := mbox_cells HZ3.out
  obtain ⟨w4, hw4⟩ : ∃ w4 : World, w4 = ((w3.setCell ⟨z, 0, none⟩ (.slice (some ⟨gw, 0, none⟩) ws.length cw2)).setCell ⟨z, 1, none⟩ (.slice (some ⟨gl, 0, none⟩) ls.length cl2)).setCell ⟨z, 2, none⟩ (.bool f) := ⟨_, rfl⟩
  have hkz : Keeps (· = z) w3 w4 := by
    rw [hw4]
    exact ((Keeps.setCell w3 (S := (· = z)) (p := ⟨z, 0, none⟩) rfl _).trans (Keeps.setCell _ (S := (· = z)) (p := ⟨z, 1, none⟩) rfl _)).trans (Keeps.setCell _ (S := (· = z)) (p := ⟨z, 2, none⟩) rfl _)
  have hzz : W.heap.size = z := HZW.out.symm
  have HI := Lib.hid (show TurnInv W.heap.size z gw ws.length cw2 gl ls.length cl2 ws ls f W w4 from
    ⟨by rw [hw4]; exact HZ3.out.set _ _ _, (hkz.row how (by intro g hg; simp [Value.ownBlock] at hg; omega)).mono (by omega), (hkz.row hol (by intro g hg; simp [Value.ownBlock] at hg; omega)).mono (by omega),
      (HR.out.below hb3).keeps hkz (by omega), hB3.trans (hkz.below hB3.size (fun q hq => by omega))⟩)
  have hsz4 : z + 2 ≤ w4.heap.size := Nat.le_trans (Nat.le_trans hsz hb3.size) hkz.size
  clear hkz how hol hb3 HZ HR hB3 HZ3 hB hzz
  have HCW : ∀ W' : World, Calls Try.prog 89 #[.slice (some ⟨gw, 0, none⟩) ws.length cw2, .int .i64 x, .int .i64 k] W' fun e w' => e = .returned (.slice (some ⟨gw, x, none⟩) k k) ∧ w' = W' := fun W' => by
    simpa using cutW_c gw 0 ws.length cw2 x k hk (by omega) hcap.2 W'
  have HCB : ∀ W' : World, Calls Try.prog 90 #[.slice (some ⟨gl, 0, none⟩) ls.length cl2, .int .i64 x, .int .i64 k] W' fun e w' => e = .returned (.slice (some ⟨gl, x, none⟩) k k) ∧ w' = W' := fun W' => by
    simpa using cutB_c gl 0 ls.length cl2 x k hk (by have := HLEN.out; omega) hcap2.2 W'
  go_upto_region 2 with fail
  rw [← hw4]
  clear hw4 hd0 hd1 hd2 he0 he1 he2
  obtain ⟨⟨hd0, hd1, hd2⟩, he0, he1, he2⟩ := mbox_cells HI.out.box
  go_quiet (first | (go_at_call 89; exact Calls.quiet_of_same (HCW _)) | (go_at_call 90; exact Calls.quiet_of_same (HCB _)))
  have hinv0 : TurnInv W.heap.size z gw ws.length cw2 gl ls.length cl2 ws ls f W (w4.drewN nq) := ⟨HI.out.box, HI.out.words, HI.out.lives, HI.out.res, below_drewN HI.out.below _⟩
  have hwl : gw ≠ gl := owns_ne HI.out.words HI.out.lives (by decide) rfl rfl
  have hzW : W.heap.size ≤ z := Nat.le_of_eq HZW.out.symm
  have hsz5 : z + 1 < gw := by have := hsz; omega
  have hsz6 : z + 1 < gl := by have := hsz; omega
  clear HI HCW HCB hd0 hd1 hd2 he0 he1 he2
  go_wp2_with fail
  go_loopw [28] (fun iv wr => ∃ i : Nat, i ≤ k ∧ iv = .int .i64 i ∧ TurnInv W.heap.size z gw ws.length cw2 gl ls.length cl2 (fill ws x u i) (fill ls x d i) f W wr) (fun iv _ => k - (intOf iv).toNat)
  case atStart => exact ⟨0, Nat.zero_le _, rfl, hinv0⟩
  case round =>
    obtain ⟨i, hi, rfl, hinv⟩ := hrel
    by_cases hlt : i < k
    · have hw1 := hinv.words.cellAt (x + i) (by omega)
      have hl1 := hinv.lives.cellAt (x + i) (by have := HLEN.out; omega)
      have hwf := hinv.words.frozenAt (x + i)
      have hlf := hinv.lives.frozenAt (x + i)
      have hwi : x + i < ((fill ws x u i).map (Value.int .u64)).length := by rw [List.length_map, fill_length]; omega
      have hli : x + i < ((fill ls x d i).map Value.bool).length := by rw [List.length_map, fill_length]; have := HLEN.out; omega
      rw [List.getElem?_eq_getElem hwi] at hw1
      rw [List.getElem?_eq_getElem hli] at hl1
      obtain ⟨y1, hy1⟩ : ∃ y, y = ((fill ws x u i).map (Value.int .u64))[x + i] := ⟨_, rfl⟩
      obtain ⟨y2, hy2⟩ : ∃ y, y = ((fill ls x d i).map Value.bool)[x + i] := ⟨_, rfl⟩
      rw [← hy1] at hw1
      rw [← hy2] at hl1
      have hst1 := (hinv.words.stored (x + i) (.int .u64 u)).1
      rw [← List.map_set] at hst1
      have hlv := ownsRow_setCell_other hinv.lives (a := ⟨gw, x + i, none⟩) (by simp [Value.ownBlock]; omega) (.int .u64 u)
      have hst2 := (hlv.stored (x + i) (.bool d)).1
      rw [← List.map_set] at hst2
      have hst3 := ownsRow_setCell_other hst1 (a := ⟨gl, x + i, none⟩) (by simp [Value.ownBlock]; omega) (.bool d)
      have hk2 : Keeps (fun q => q = gw ∨ q = gl) wr ((wr.setCell ⟨gw, x + i, none⟩ (.int .u64 u)).setCell ⟨gl, x + i, none⟩ (.bool d)) :=
        (Keeps.setCell wr (p := ⟨gw, x + i, none⟩) (.inl rfl) _).trans (Keeps.setCell _ (p := ⟨gl, x + i, none⟩) (.inr rfl) _)
      have hnew : TurnInv W.heap.size z gw ws.length cw2 gl ls.length cl2 (fill ws x u (i + 1)) (fill ls x d (i + 1)) f W ((wr.setCell ⟨gw, x + i, none⟩ (.int .u64 u)).setCell ⟨gl, x + i, none⟩ (.bool d)) :=
        ⟨hinv.box.keeps hk2 (by omega), hst3, hst2, hinv.res.keeps hk2 (by omega), hinv.below.trans (hk2.below hinv.below.size (fun q hq => by omega))⟩
      clear hy1 hy2 hwi hli hst1 hlv hst2 hst3 hk2 hinv
      go_wp2
      go_roundw
      case rel => exact ⟨i + 1, by omega, by go_num, hnew⟩
      case measure => simp [intOf]; omega
    · obtain rfl : i = k := by omega
      obtain ⟨⟨hd0, hd1, hd2⟩, he0, he1, he2⟩ := mbox_cells hinv.box
      obtain ⟨⟨hr0, hr1, hr2⟩, hs0, hs1, hs2⟩ := mbox_cells hinv.res
      have hkr : Keeps (· = z + 1) wr (((wr.setCell ⟨z + 1, 0, none⟩ (.slice (some ⟨gw, 0, none⟩) ws.length cw2)).setCell ⟨z + 1, 1, none⟩ (.slice (some ⟨gl, 0, none⟩) ls.length cl2)).setCell ⟨z + 1, 2, none⟩ (.bool f)) :=
        ((Keeps.setCell wr (S := (· = z + 1)) (p := ⟨z + 1, 0, none⟩) rfl _).trans (Keeps.setCell _ (S := (· = z + 1)) (p := ⟨z + 1, 1, none⟩) rfl _)).trans (Keeps.setCell _ (S := (· = z + 1)) (p := ⟨z + 1, 2, none⟩) rfl _)
      have ho1 := hkr.row hinv.words (by intro g hg; simp [Value.ownBlock] at hg; omega)
      have ho2 := hkr.row hinv.lives (by intro g hg; simp [Value.ownBlock] at hg; omega)
      have hBe := hinv.below.trans (hkr.below hinv.below.size (by intro q hq; omega))
      clear hkr hinv
      go_wp2
      refine bodyPost_ret (v := .agg #[.slice (some ⟨gw, 0, none⟩) ws.length cw2, .slice (some ⟨gl, 0, none⟩) ls.length cl2, .bool f]) (by simp [results, Try.results76, go_sem, hr0, hr1, hr2]) rfl ⟨⟨_, rfl, _, _, rfl, ?_, ?_⟩, hBe⟩
      · rw [fill_length]; exact ho1
      · rw [fill_length]; exact ho2

end Go.Proofs.Ytaljpggajpoalaa
/-
  memory.New, called with 8: eight words, all free, of 0; what was in memory stays.
  Conditions: none.
-/
namespace Go.Proofs.Ytaljpggajpoalaa
open Go.RowKit Go.Shelf

theorem word_info : (Try.prog.info? 27).map (fun i => (i.zero, i.size, i.bytes)) = some (some (.int .u64 0), 1, 8) := by kernel_rfl
theorem bool_info : (Try.prog.info? 4).map (fun i => (i.zero, i.size, i.bytes)) = some (some (.bool false), 1, 1) := by kernel_rfl
/-- What New hands over. -/
def NewOk (B : Nat) (e : Ending) (w' : World) : Prop :=
  ∃ v', e = .returned (.tuple #[v', .int .i64 0]) ∧ OwnsMem w' B v' (List.replicate 8 0) (List.replicate 8 false) false

set_option maxRecDepth 100000 in
set_option maxHeartbeats 4000000 in
theorem new_c (W : World) : Calls Try.prog 59 #[.int .i64 8] W fun e w' => NewOk W.heap.size e w' ∧ Below W.heap.size W w' := by
  obtain ⟨i0, hi, hz0, hz1, hz2⟩ := info_parts word_info
  obtain ⟨i1, hj, hy0, hy1, hy2⟩ := info_parts bool_info
  obtain ⟨c8, hc8⟩ : ∃ c : Array Value, c = madeCells (Value.int .u64 0).cells 8 := ⟨_, rfl⟩
  obtain ⟨b8, hb8⟩ : ∃ c : Array Value, c = madeCells (Value.bool false).cells 8 := ⟨_, rfl⟩
  have hm1 : ∀ w, (Instr.makeSlice 24 (.int .i64 8) (.int .i64 8)).run Try.prog w = .ok (.slice (some ⟨w.heap.size, 0, none⟩) 8 8) (w.alloc (.cells c8 27)) := fun w => by
    have := run_make (P := Try.prog) w 24 27 i0 (.int .u64 0) Try.underlying24 hi hz0 .i64 .i64 8 8 (by decide) (by decide) (by rw [hz2]; decide) (by decide)
    rw [this, hc8, hz1]; rfl
  have hm2 : ∀ w, (Instr.makeSlice 42 (.int .i64 8) (.int .i64 8)).run Try.prog w = .ok (.slice (some ⟨w.heap.size, 0, none⟩) 8 8) (w.alloc (.cells b8 4)) := fun w => by
    have := run_make (P := Try.prog) w 42 4 i1 (.bool false) Try.underlying42 hj hy0 .i64 .i64 8 8 (by decide) (by decide) (by rw [hy2]; decide) (by decide)
    rw [this, hb8, hy1]; rfl
  have HC := Lib.hid (show c8.toList = (List.replicate 8 (0 : Int)).map (Value.int .u64) by rw [hc8, List.map_replicate]; exact toList_madeCells_one _ 8)
  have HB := Lib.hid (show b8.toList = (List.replicate 8 false).map Value.bool by rw [hb8, List.map_replicate]; exact toList_madeCells_one _ 8)
  have HC8 := Lib.hid (show c8.size = 8 * 1 by rw [hc8, size_madeCells])
  have HB8 := Lib.hid (show b8.size = 8 * 1 by rw [hb8, size_madeCells])
  clear hc8 hb8 hi hj hz0 hz1 hz2 hy0 hy1 hy2
  go_enter Try.func59, Try.ntmps59
  go_wp2
  go_region
  all_goals go_wp2
  · have ho1 := (World.ownsRow_lit (base := W.heap.size) (e := 27) (size := 1) (W.alloc (.cells #[.slice (some ⟨W.heap.size + 1, 0, none⟩) 8 8, .slice (some ⟨W.heap.size + 1 + 1, 0, none⟩) 8 8, .bool false] 44)) c8 8 (by simp) (by decide) HC8.out).alloc (.cells b8 4)
    have ho2 := World.ownsRow_lit (base := W.heap.size) (e := 4) (size := 1) ((W.alloc (.cells #[.slice (some ⟨W.heap.size + 1, 0, none⟩) 8 8, .slice (some ⟨W.heap.size + 1 + 1, 0, none⟩) 8 8, .bool false] 44)).alloc (.cells c8 27)) b8 8 (by simp; omega) (by decide) HB8.out
    rw [World.size_alloc] at ho1
    rw [World.size_alloc, World.size_alloc] at ho2
    refine bodyPost_ret (v := .tuple #[.agg #[.slice (some ⟨W.heap.size + 1, 0, none⟩) 8 8, .slice (some ⟨W.heap.size + 1 + 1, 0, none⟩) 8 8, .bool false], .int .i64 0]) (by simp [results, Try.results59, go_sem]) rfl ⟨⟨_, rfl, _, _, rfl, ?_, ?_⟩, ((((Below.refl _ _).alloc (Nat.le_refl _) _).alloc (by simp) _).alloc (by simp; omega) _).drew⟩
    · rw [HC.out] at ho1; exact ho1.drew
    · rw [HB.out] at ho2; exact ho2.drew
  · have ho1 := (World.ownsRow_lit (base := W.heap.size) (e := 4) (size := 1) (W.alloc (.cells #[.slice (some ⟨W.heap.size + 1 + 1, 0, none⟩) 8 8, .slice (some ⟨W.heap.size + 1, 0, none⟩) 8 8, .bool false] 44)) b8 8 (by simp) (by decide) HB8.out).alloc (.cells c8 27)
    have ho2 := World.ownsRow_lit (base := W.heap.size) (e := 27) (size := 1) ((W.alloc (.cells #[.slice (some ⟨W.heap.size + 1 + 1, 0, none⟩) 8 8, .slice (some ⟨W.heap.size + 1, 0, none⟩) 8 8, .bool false] 44)).alloc (.cells b8 4)) c8 8 (by simp; omega) (by decide) HC8.out
    rw [World.size_alloc] at ho1
    rw [World.size_alloc, World.size_alloc] at ho2
    refine bodyPost_ret (v := .tuple #[.agg #[.slice (some ⟨W.heap.size + 1 + 1, 0, none⟩) 8 8, .slice (some ⟨W.heap.size + 1, 0, none⟩) 8 8, .bool false], .int .i64 0]) (by simp [results, Try.results59, go_sem]) rfl ⟨⟨_, rfl, _, _, rfl, ?_, ?_⟩, ((((Below.refl _ _).alloc (Nat.le_refl _) _).alloc (by simp) _).alloc (by simp; omega) _).drew⟩
    · rw [HC.out] at ho2; exact ho2.drew
    · rw [HB.out] at ho1; exact ho1.drew

end Go.Proofs.Ytaljpggajpoalaa
/-
  A range over a function value that has bound arguments ahead of yield (a method value) runs as one whose iterator has none: the law of a loop over such a value, for an outermost loop.
  Conditions: the loop stands in no round of another one; the iterator keeps the contract 'SeqBound' below.
-/
namespace Go.Proofs.Ytaljpggajpoalaa
open Go.RowKit

/-- The iterator's contract, for a value with bound arguments bd and captured ones lb: it is called at bd, yield, lb. -/
def SeqBound {α : Type} (F : Fence) (n : Nat) (P : Program) (g : Nat) (bd lb : Array Value) (encs : α → Array Value) (Kp : World → World → Prop) (S Sp : List α → Prop) (N : Nat) (w : World) : Prop :=
  ∀ (l : Nat) (J Jx : List α → World → Prop) (W : World), Below w.heap.size w W → AbidesFrom W.heap.size J → AbidesFrom W.heap.size Jx →
    (∀ pre x W1, J pre W1 → pre.length < N → YieldAt F (n - 1) P l (encs x) W1 fun e W' =>
      (e = .returned (.bool true) ∧ J (pre ++ [x]) W' ∧ Kp W1 W') ∨ (e = .returned (.bool false) ∧ Jx (pre ++ [x]) W')) →
    J [] W →
    CallsIn F n P g (bd ++ #[.func (.yield l) #[] #[]] ++ lb) W fun e W' => (∃ v, e = .returned v) ∧ ((∃ xs, S xs ∧ J xs W') ∨ (∃ pre, Sp pre ∧ Jx pre W'))

/-- The two blocks that an outermost loop lays where a heap of z blocks ends: the one for the rounds' deferred calls, and behind it the loop's record. -/
def Books (z : Nat) (r : Loop) (W : World) : Prop := W.heap[z + 1]? = some (.loop r) ∧ W.heap[z]? = some (.deferred (some []))

theorem Books.lt {z : Nat} {r : Loop} {W : World} (h : Books z r W) : z + 1 < W.heap.size := (Array.getElem?_eq_some_iff.1 h.1).1
theorem Books.from {z : Nat} {r : Loop} {W W' : World} (h : Books z r W) (hk : KeepsFrom z W W') : Books z r W' :=
  ⟨hk.same _ _ (by omega) h.1 rfl, hk.same _ _ (Nat.le_refl _) h.2 rfl⟩
theorem Books.turn {z : Nat} {r r' : Loop} {W : World} (h : Books z r W) : Books z r' (W.putObj (z + 1) (.loop r')) :=
  ⟨World.putObj_heap_same h.lt, (World.putObj_heap_other (by omega)).trans h.2⟩

/-- THE LAW. I: what holds between two rounds; Ix: what holds where a round has left by a jump; Ax: what holds behind the assignment to the loop's variables. -/
theorem wpIn_rangeBound {α : Type} {F : Fence} {n : Nat} {P : Program} {w : World} {g : Operand} {ps : Array Tmp} {assign body : Code} {Q : Exit → Act → World → Prop} {a : Act}
    (hro : F.round = none) (h1 : 1 ≤ n) {gf : Nat} {bd lb : Array Value} (hg : a.eval g = .func (.func gf) bd lb) (hFg : F.fn gf) (eg : ∀ args w, (callFunc gf args).run P w = .ok (.enter gf args) w)
    {encs : α → Array Value} {Kp : World → World → Prop} {S Sp : List α → Prop} {N : Nat} {w0 : World} (hseq : SeqBound F (n - 1) P gf bd lb encs Kp S Sp N w0)
    (hKt : ∀ {A B C : World}, Kp A B → Kp B C → Kp A C) (hKb : ∀ (W : World) (l : Nat) (o o' : Obj), w.heap.size ≤ l → W.heap[l]? = some o → o.isCells = false → o.isWalk = false → Kp W (W.putObj l o')) (hb0 : Below w0.heap.size w0 w) (hps : ∀ x, (encs x).size = ps.size)
    (I : List α → World → Prop) (Ix : Code → List α → World → Prop) (hI : OwnFrom w.heap.size I) (hIx : ∀ c, OwnFrom w.heap.size (Ix c)) (h0 : I [] w) (Ax : α → Act → World → Prop) (hAx : ∀ x a', OwnFrom w.heap.size (fun (_ : Unit) W => Ax x a' W))
    (hassign : ∀ (l : Nat) (pre : List α) (x : α) (W : World) (K : Act → World → Prop), I pre W → (∀ a' W', KeepsFrom w.heap.size W W' → Kp W W' → I pre W' → Ax x a' W' → K a' W') →
      assign.wpIn (F.inRound l) (n - 1 - 1) P (Exit.then K (fun _ _ _ => False)) { tmps := (ps.zip (encs x)).foldl (fun t (p, v) => t.setIfInBounds p v) a.tmps, defers := [] } W)
    (hbody : ∀ (l : Nat) (pre : List α) (x : α) (a' : Act) (W : World), w.heap.size ≤ l → (∃ r, W.heap[l]? = some (.loop r)) → I pre W → Ax x a' W → pre.length < N → body.wpIn (F.inRound l) (n - 1 - 1) P (ownPostG w.heap.size Kp I Ix (pre ++ [x]) W) a' W)
    (hdone : ∀ (D : Nat) (xs : List α) (W : World), w.heap.size ≤ D → S xs → I xs W → W.heap[D]? = some (.deferred (some [])) → Q .normal { a with defers := { target := .collected D, args := #[] } :: a.defers } W)
    (hstop : ∀ (D : Nat) (c : Code) (pre : List α) (W : World), w.heap.size ≤ D → Sp pre → Ix c pre W → W.heap[D]? = some (.deferred (some [])) → c.wpIn F n P Q { a with defers := { target := .collected D, args := #[] } :: a.defers } W) :
    (Code.rangeFunc g ps assign body).wpIn F n P Q a w := by
  refine wpIn_rangeFunc fun fn hfn => ?_
  rw [hro]
  generalize hz : w.heap.size = z at *
  obtain ⟨rec, hrec⟩ : ∃ rec : LoopState → Option Code → Loop, ∀ st pe, rec st pe = { state := st, pending := pe, fn, tmps := a.tmps, params := ps, assign, body, defers := z } := ⟨fun st pe => _, fun _ _ => rfl⟩
  obtain ⟨W1, hW1⟩ : ∃ W1, W1 = (w.alloc (.deferred (some []))).alloc (.loop (rec .ready none)) := ⟨_, rfl⟩
  have hz1 : W1.heap.size = z + 2 := by rw [hW1]; simp [hz]
  have hB1 : Books z (rec .ready none) W1 := by
    rw [hW1]
    constructor
    · have := World.alloc_heap_new (w.alloc (.deferred (some []))) (.loop (rec .ready none))
      rwa [World.size_alloc, hz] at this
    · rw [← hz]; exact (Below.heap_alloc _ _ _ (by simp)).trans (World.alloc_heap_new w _)
  have hI1 : I [] W1 := by rw [hW1]; exact hI.alloc _ (hI.alloc _ h0)
  have hb1 : Below w0.heap.size w0 W1 := by
    rw [hW1]; exact hb0.trans ((((Below.refl _ w).alloc (Nat.le_refl _) _).alloc (by simp) _).mono hb0.size)
  have hwalk : ∀ {A : World} {row : Option Nat}, (∀ r, row = some r → W1.heap.size ≤ r ∧ ∃ o : Obj, A.heap[r]? = some o ∧ o.isWalk = true) → ∀ r, row = some r → z ≤ r ∧ ∃ o : Obj, A.heap[r]? = some o ∧ o.isCells = false :=
    fun hr r e => by obtain ⟨hB, o, ho, hw⟩ := hr r e; exact ⟨by omega, o, ho, Obj.not_cells_of_walk hw⟩
  have hbooks : ∀ {st : LoopState} {pe : Option Code} {A B : World} {row : Option Nat}, Books z (rec st pe) A → A.grownBy B row → (∀ r, row = some r → W1.heap.size ≤ r ∧ ∃ o : Obj, A.heap[r]? = some o ∧ o.isWalk = true) → Books z (rec st pe) B :=
    fun hs hg' hr => ⟨(grownBy_keeps hg' (fun r e => (hr r e).2) hs.1 rfl).trans hs.1, (grownBy_keeps hg' (fun r e => (hr r e).2) hs.2 rfl).trans hs.2⟩
  refine ⟨z + 1, [{ target := .collected z, args := #[] }], W1, { target := .fn (.func gf) lb, args := bd ++ #[.func (.yield (z + 1)) #[] #[]] }, W1, gf, bd ++ #[.func (.yield (z + 1)) #[] #[]] ++ lb, W1, ?_, ?_, ?_, ?_, fun _ => h1, ?_⟩
  · have := run_enterLoop_outer (P := P) (w := w) fn a.tmps ps assign body
    rw [hW1, hrec, ← hz]; exact this
  · simp only [resolve, hg]
    simp [go_sem]
  · intro f' hf'; simp [Target.leads] at hf'; subst hf'; exact hFg
  · simp only [invoke, eg]
  · refine (hseq (z + 1) (fun pre W => I pre W ∧ Books z (rec .ready none) W) (fun pre W => ∃ c, Ix c pre W ∧ Books z (rec .done (some c)) W) W1 hb1
      (fun s A B row hs hg' hr => ⟨hI s A B row hs.1 hg' (hwalk hr), hbooks hs.2 hg' hr⟩)
      (fun s A B row hs hg' hr => by
        obtain ⟨c, hc, hb⟩ := hs
        exact ⟨c, hIx c s A B row hc hg' (hwalk hr), hbooks hb hg' hr⟩)
      ?_ ⟨hI1, hB1⟩).mono ?_
    · rintro pre x W ⟨hi, hb⟩ hlen
      have hy := run_yield (P := P) (args := encs x) hb.1 (by rw [hrec]; exact hps x)
      rw [hrec] at hy
      refine ⟨fn, _, assign, body, hy, roundIn_of_wpIn hfn (hassign _ pre x W _ hi ?_)⟩
      clear hy
      intro a' Wa hkfa hkpa hia hax
      have hba := hb.from hkfa
      refine ⟨_, run_beginRound hba.1 (by rw [hrec]), ?_⟩
      have hb2 : Books z (rec .busy none) (Wa.putObj (z + 1) (.loop (rec .busy none))) := hba.turn
      have hw2 : Kp Wa (Wa.putObj (z + 1) (.loop (rec .busy none))) := hKb _ _ _ _ (by omega) hba.1 rfl rfl
      have hsame : ({ rec .ready none with state := .busy } : Loop) = rec .busy none := by rw [hrec, hrec]
      rw [hsame]
      refine wpIn_mono (hbody _ pre x a' _ (by omega) ⟨_, hb2.1⟩ (hI.putObj _ hia (by omega) hba.1 rfl) ((hAx x a').putObj (s := ()) _ hax (by omega) hba.1 rfl) hlen) ?_
      have fin : ∀ (jump : Option Code) (W3 : World), KeepsFrom z (Wa.putObj (z + 1) (.loop (rec .busy none))) W3 →
          (Instr.endRound (z + 1) jump).run P W3 = .ok (.bool jump.isNone) (W3.putObj (z + 1) (.loop (rec (if jump.isNone then .ready else .done) jump))) ∧
          Books z (rec .busy none) W3 ∧ Books z (rec (if jump.isNone then .ready else .done) jump) (W3.putObj (z + 1) (.loop (rec (if jump.isNone then .ready else .done) jump))) := fun jump W3 hk3 => by
        have hb3 := hb2.from hk3
        have := run_endRound (P := P) jump hb3.1
        rw [hrec] at this
        rw [hrec]
        exact ⟨this, hb3, by rw [← hrec]; exact hb3.turn⟩
      rintro e a3 W3 hp
      cases e with
      | normal =>
        obtain ⟨hk3, hkp3, hi3⟩ := hp
        obtain ⟨hr, hb3, hb4⟩ := fin none W3 hk3
        exact ⟨_, _, hr, .inl ⟨rfl, ⟨hI.putObj _ hi3 (by omega) hb3.1 rfl, hb4⟩, hKt hkpa (hKt (hKt hw2 hkp3) (hKb _ _ _ _ (by omega) hb3.1 rfl rfl))⟩⟩
      | ret =>
        obtain ⟨hk3, hi3⟩ := hp
        obtain ⟨hr, hb3, hb4⟩ := fin (some .ret) W3 hk3
        exact ⟨_, _, hr, .inr ⟨rfl, .ret, (hIx _).putObj _ hi3 (by omega) hb3.1 rfl, hb4⟩⟩
      | exit id =>
        obtain ⟨hk3, hi3⟩ := hp
        obtain ⟨hr, hb3, hb4⟩ := fin (some (.exit id)) W3 hk3
        exact ⟨_, _, hr, .inr ⟨rfl, .exit id, (hIx _).putObj _ hi3 (by omega) hb3.1 rfl, hb4⟩⟩
      | goto t =>
        obtain ⟨hk3, hi3⟩ := hp
        obtain ⟨hr, hb3, hb4⟩ := fin (some (.goto t)) W3 hk3
        exact ⟨_, _, hr, .inr ⟨rfl, .goto t, (hIx _).putObj _ hi3 (by omega) hb3.1 rfl, hb4⟩⟩
      | panic ch => exact hp.elim
      | outgrown => exact hp.elim
    · rintro e W2 ⟨⟨v, rfl⟩, (⟨xs, hS, hi, hb⟩ | ⟨pre, hSp, c, hi, hb⟩)⟩
      · refine ⟨none, _, by have := run_endLoop (P := P) hb.1 (by rw [hrec]; simp); rw [hrec] at this; exact this, ?_⟩
        exact hdone _ xs _ (by omega) hS (hI.putObj _ hi (by omega) hb.1 rfl) ((World.putObj_heap_other (by omega)).trans hb.2)
      · refine ⟨some c, _, by have := run_endLoop (P := P) hb.1 (by rw [hrec]; simp); rw [hrec] at this; exact this, ?_⟩
        exact hstop _ c pre _ (by omega) hSp ((hIx c).putObj _ hi (by omega) hb.1 rfl) ((World.putObj_heap_other (by omega)).trans hb.2)

/-- A scope through which the run goes without a goto, under a fence. -/
theorem wpIn_scope {F : Fence} {n : Nat} {P : Program} {c : Code} {Q : Exit → Act → World → Prop} {a : Act} {w : World} (h : c.wpIn F n P (Exit.noGoto Q) a w) : (Code.scope c).wpIn F n P Q a w := by
  intro b k cs hro hb hr
  have h0 : (lone (b.atR a (.code (.scope c) :: k)) cs w).fenced P F := fenced_calm hb hr rfl
  have s0 : step P (lone (b.atR a (.code (.scope c) :: k)) cs w) = .next (lone (b.atR a (.code c :: .inScope c :: k)) cs w) := step_lone_go (by simp [stepG, stepG.exec, Frame.atR])
  obtain ⟨e, a₁, w₁, hq, harr⟩ := h b (.inScope c :: k) cs hro hb hr
  cases e with
  | normal => exact ⟨.normal, a₁, w₁, hq, .head h0 s0 (StepsIn.trans harr (.one (fenced_calm hb hr rfl) (step_lone_go (by simp [stepG, stepG.exec, Frame.atR]))))⟩
  | exit id =>
    have hx : exitTo id (.inScope c :: k) = exitTo id k := by simp [exitTo]
    exact ⟨.exit id, a₁, w₁, hq, fun k' hk => .head h0 s0 (harr.1 k' (by rw [hx]; exact hk)),
      fun hr' hk => let ⟨k₁, h1, h2⟩ := harr.2 hr' (by rw [hx]; exact hk); ⟨k₁, h1, .head h0 s0 h2⟩⟩
  | goto l => exact hq.elim
  | ret => exact ⟨_, a₁, w₁, hq, .of_steps (.one h0 s0) harr⟩
  | panic ch => exact ⟨_, a₁, w₁, hq, .of_steps (.one h0 s0) harr⟩
  | outgrown => exact ⟨_, a₁, w₁, hq, .of_steps (.one h0 s0) harr⟩

/-- The marks that loops over functions have left among the deferred calls: the block of each, from B on, hands over nothing. -/
def Marks (B : Nat) (Ds : List Nat) (W : World) : Prop := Ds.Nodup ∧ ∀ D ∈ Ds, B ≤ D ∧ W.heap[D]? = some (.deferred (some []))
theorem Marks.nil (B : Nat) (W : World) : Marks B [] W := ⟨List.nodup_nil, fun _ h => by cases h⟩
theorem Marks.keeps {B : Nat} {Ds : List Nat} {W W' : World} (h : Marks B Ds W) (hk : KeepsOthers W W') : Marks B Ds W' := ⟨h.1, fun D hD => ⟨(h.2 D hD).1, hk.same _ _ (h.2 D hD).2 rfl⟩⟩
theorem Marks.below {B : Nat} {Ds : List Nat} {W W' : World} (h : Marks B Ds W) (hk : Below W.heap.size W W') : Marks B Ds W' :=
  ⟨h.1, fun D hD => ⟨(h.2 D hD).1, (hk.block D (Array.getElem?_eq_some_iff.1 (h.2 D hD).2).1).trans (h.2 D hD).2⟩⟩
theorem Marks.lt {B : Nat} {Ds : List Nat} {W : World} (h : Marks B Ds W) {D : Nat} (hD : D ∈ Ds) : D < W.heap.size := (Array.getElem?_eq_some_iff.1 (h.2 D hD).2).1
theorem Marks.cons {B : Nat} {Ds : List Nat} {W : World} (h : Marks B Ds W) {D : Nat} (hB : B ≤ D) (hne : D ∉ Ds) (hK : W.heap[D]? = some (.deferred (some []))) : Marks B (D :: Ds) W :=
  ⟨List.nodup_cons.2 ⟨hne, h.1⟩, fun E hE => by
    rcases List.mem_cons.1 hE with e | e
    · subst e; exact ⟨hB, hK⟩
    · exact h.2 E e⟩
/-- The marks abide a turn of a loop's own books, where the loop began behind them. -/
theorem marks_own {β : Type} {B z : Nat} {Ds : List Nat} (hz : ∀ D ∈ Ds, D < z) : OwnFrom z (fun (_ : β) W => Marks B Ds W) := fun _ _ _ row hs hg hr =>
  ⟨hs.1, fun D hD => ⟨(hs.2 D hD).1, (hg.block D (hs.lt hD) (fun e => by have := (hr D e.symm).1; have := hz D hD; omega)).trans (hs.2 D hD).2⟩⟩

def marksOf (Ds : List Nat) : List Deferred := Ds.map fun D => { target := .collected D, args := #[] }

/-- A function that has left such marks returns as one that has left none, but that their blocks are shut. -/
theorem leaves_marks {F : Fence} {n : Nat} {P : Program} {fn : Func} {tmps : Array Value} {R : Ending → World → Prop} {B : Nat} : ∀ (Ds : List Nat) (W : World), Marks B Ds W →
    (∀ W', Below B W W' → LeavesIn F n P fn tmps R [] .returning W') → LeavesInM F n P fn tmps R (marksOf Ds) .returning W
  | [], W, _, h => h W (Below.refl _ _)
  | D :: Ds, W, hm, h => by
    obtain ⟨hB, hK⟩ := hm.2 D List.mem_cons_self
    have hlt := hm.lt (D := D) List.mem_cons_self
    have hb : Below B W (W.putObj D (.deferred none)) := (Below.refl B W).grown (grownBy_putObj' W D _) (by omega) (fun k e => by cases e; exact hB)
    refine ⟨by simp, .inl ⟨D, _, rfl, run_takeDeferred hK, leaves_marks Ds _ ⟨(List.nodup_cons.1 hm.1).2, fun E hE => ?_⟩ fun W' hW' => h W' (hb.trans hW')⟩⟩
    have hne : E ≠ D := fun e => (List.nodup_cons.1 hm.1).1 (e ▸ hE)
    obtain ⟨h1, h2⟩ := hm.2 E (List.mem_cons_of_mem _ hE)
    exact ⟨h1, (World.putObj_heap_other hne).trans h2⟩

end Go.Proofs.Ytaljpggajpoalaa
/-
  Rows of truth values that stand together, by their first place and length; how many of them lie in a part.
  Conditions: none.
-/
namespace Go.Proofs.Ytaljpggajpoalaa

def oneRow (a n : Nat) : List (Nat × Nat) := if n = 0 then [] else [(a, n)]
theorem oneRow_zero (a : Nat) : oneRow a 0 = [] := rfl
theorem oneRow_pos {n : Nat} (a : Nat) (h : n ≠ 0) : oneRow a n = [(a, n)] := by simp [oneRow, h]
/-- The rows, where one of n began ahead: it begins at a. -/
def spansP (a n : Nat) : List Bool → List (Nat × Nat)
  | [] => oneRow a n
  | true :: t => spansP a (n + 1) t
  | false :: t => oneRow a n ++ spansP (a + n + 1) 0 t
/-- How many stand together at the beginning. -/
def lead : List Bool → Nat
  | true :: t => lead t + 1
  | _ => 0
theorem lead_le (l : List Bool) : lead l ≤ l.length := by
  induction l with
  | nil => simp [lead]
  | cons b t ih => cases b <;> simp [lead]; omega
theorem spansP_step (l : List Bool) (a n : Nat) : spansP a n l = oneRow a (n + lead l) ++ spansP (a + n + lead l + 1) 0 (l.drop (lead l + 1)) := by
  induction l generalizing n with
  | nil => simp [spansP, lead, oneRow_zero]
  | cons b t ih =>
    cases b with
    | true =>
      simp only [spansP, lead, List.drop_succ_cons]
      rw [ih (n + 1), show n + 1 + lead t = n + (lead t + 1) by omega, show a + (n + 1) + lead t + 1 = a + n + (lead t + 1) + 1 by omega]
    | false => simp [spansP, lead]
/-- The rows of a list. -/
def spansL (l : List Bool) : List (Nat × Nat) := spansP 0 0 l

/-- The places of a row that lie between x and y, and those of a list. -/
def ovl (x y : Nat) (s : Nat × Nat) : Nat := min (s.1 + s.2) y - max s.1 x
def cnt (x y a : Nat) : List Bool → Nat
  | [] => 0
  | b :: t => (if b = true ∧ x ≤ a ∧ a < y then 1 else 0) + cnt x y (a + 1) t
def ovlAll (x y : Nat) (l : List (Nat × Nat)) : Nat := (l.map (ovl x y)).sum
theorem ovlAll_snoc (x y : Nat) (l : List (Nat × Nat)) (s : Nat × Nat) : ovlAll x y (l ++ [s]) = ovlAll x y l + ovl x y s := by simp [ovlAll]
theorem ovlAll_append (x y : Nat) (l m : List (Nat × Nat)) : ovlAll x y (l ++ m) = ovlAll x y l + ovlAll x y m := by simp [ovlAll]
theorem ovl_spansP (x y : Nat) (hxy : x ≤ y) (l : List Bool) (a n : Nat) : ovlAll x y (spansP a n l) = ovl x y (a, n) + cnt x y (a + n) l := by
  induction l generalizing a n with
  | nil =>
    by_cases h : n = 0
    · subst h; simp [spansP, oneRow_zero, ovlAll, cnt, ovl]; omega
    · simp [spansP, oneRow_pos a h, ovlAll, cnt]
  | cons b t ih =>
    cases b with
    | true =>
      simp only [spansP, cnt]
      rw [ih a (n + 1), show a + (n + 1) = a + n + 1 by omega]
      simp only [ovl, true_and]
      split <;> omega
    | false =>
      simp only [spansP, cnt]
      rw [ovlAll_append, ih (a + n + 1) 0]
      have e : ovlAll x y (oneRow a n) = ovl x y (a, n) := by
        by_cases h : n = 0
        · subst h; simp [oneRow_zero, ovlAll, ovl]; omega
        · simp [ovlAll, oneRow_pos a h]
      rw [e]
      simp [ovl]
      omega
theorem ovl_spansL (x y : Nat) (hxy : x ≤ y) (l : List Bool) : ovlAll x y (spansL l) = cnt x y 0 l := by
  have := ovl_spansP x y hxy l 0 0
  simpa [spansL, ovl] using this
/-- Each row begins behind the ones ahead of it, and has one place at least. -/
theorem spansP_ge (l : List Bool) (a n : Nat) : ∀ s ∈ spansP a n l, a ≤ s.1 ∧ 1 ≤ s.2 ∧ s.1 + s.2 ≤ a + n + l.length := by
  induction l generalizing a n with
  | nil =>
    intro s hs
    by_cases h : n = 0
    · subst h; simp [spansP, oneRow_zero] at hs
    · simp [spansP, oneRow_pos a h] at hs; subst hs; simp; omega
  | cons b t ih =>
    intro s hs
    cases b with
    | true =>
      have := ih a (n + 1) s (by simpa [spansP] using hs)
      simp only [List.length_cons]
      omega
    | false =>
      simp only [spansP, List.mem_append] at hs
      rcases hs with hs | hs
      · by_cases h : n = 0
        · subst h; simp [oneRow_zero] at hs
        · simp [oneRow_pos a h] at hs; subst hs; simp; omega
      · have := ih (a + n + 1) 0 s hs
        simp only [List.length_cons]
        omega
theorem spansP_sorted (l : List Bool) (a n : Nat) : (spansP a n l).Pairwise (fun s t => s.1 + s.2 ≤ t.1) := by
  induction l generalizing a n with
  | nil =>
    by_cases h : n = 0
    · subst h; simp [spansP, oneRow_zero]
    · simp [spansP, oneRow_pos a h]
  | cons b t ih =>
    cases b with
    | true => simpa [spansP] using ih a (n + 1)
    | false =>
      simp only [spansP]
      by_cases h : n = 0
      · subst h; simpa [oneRow_zero] using ih (a + 0 + 1) 0
      · simp only [oneRow_pos a h, List.singleton_append, List.pairwise_cons]
        exact ⟨fun s hs => by have := spansP_ge t (a + n + 1) 0 s hs; omega, ih _ _⟩
/-- What lies behind y is not counted. -/
theorem ovlAll_behind (x y : Nat) (l : List (Nat × Nat)) (h : ∀ s ∈ l, y ≤ s.1) : ovlAll x y l = 0 := by
  induction l with
  | nil => rfl
  | cons s t ih =>
    have h1 := h s List.mem_cons_self
    have h2 := ih fun u hu => h u (List.mem_cons_of_mem _ hu)
    simp only [ovlAll, List.map_cons, List.sum_cons] at h2 ⊢
    rw [h2]
    simp only [ovl]
    omega
theorem ovl_stop (x y : Nat) (hxy : x ≤ y) (ls : List Bool) (pre : List (Nat × Nat)) (s : Nat × Nat) (suf : List (Nat × Nat)) (h : pre ++ s :: suf = spansL ls) (hs : y ≤ s.1) : ovlAll x y pre = cnt x y 0 ls := by
  rw [← ovl_spansL x y hxy, ← h, ovlAll_append, ovlAll_behind x y (s :: suf), Nat.add_zero]
  intro u hu
  rcases List.mem_cons.1 hu with rfl | hu
  · exact hs
  · have hp := spansP_sorted ls 0 0
    rw [show spansP 0 0 ls = pre ++ s :: suf from h.symm, List.pairwise_append] at hp
    have := (List.pairwise_cons.1 hp.2.1).1 u hu
    omega
/-- All of a part are live, or none. -/
theorem cnt_zero_iff (x y : Nat) (l : List Bool) (a : Nat) : cnt x y a l = 0 ↔ ∀ i (h : i < l.length), x ≤ a + i → a + i < y → l[i] = false := by
  induction l generalizing a with
  | nil => simp [cnt]
  | cons b t ih =>
    simp only [cnt, Nat.add_eq_zero_iff, ih (a + 1)]
    constructor
    · rintro ⟨h1, h2⟩ i hi hx hy
      cases i with
      | zero => cases b <;> simp_all
      | succ i => exact h2 i (by simpa using hi) (by omega) (by omega)
    · intro h
      refine ⟨?_, fun i hi hx hy => h (i + 1) (by simpa using hi) (by omega) (by omega)⟩
      have h0 := h 0 (by simp)
      by_cases hc : b = true ∧ x ≤ a ∧ a < y
      · have := h0 (by omega) (by omega); simp [hc.1] at this
      · simp [hc]
theorem cnt_le (x y : Nat) (l : List Bool) (a : Nat) : cnt x y a l ≤ min y (a + l.length) - max x a := by
  induction l generalizing a with
  | nil => simp [cnt]
  | cons b t ih =>
    have := ih (a + 1)
    simp only [cnt, List.length_cons]
    split <;> omega
theorem cnt_full_iff (x y : Nat) (l : List Bool) (a : Nat) (hx : a ≤ x) (hy : y ≤ a + l.length) (hxy : x ≤ y) : cnt x y a l = y - x ↔ ∀ i (h : i < l.length), x ≤ a + i → a + i < y → l[i] = true := by
  induction l generalizing a x with
  | nil => simp [cnt] at *; omega
  | cons b t ih =>
    simp only [List.length_cons] at hy
    by_cases hxa : x = a
    · subst hxa
      by_cases hya : y = x
      · subst hya
        constructor
        · intro _ i hi h1 h2; omega
        · intro _
          have := cnt_le y y (b :: t) y
          simp only [List.length_cons] at this
          omega
      · have e : cnt x y (x + 1) t = cnt (x + 1) y (x + 1) t := by
          clear ih
          suffices ∀ (t : List Bool) (c : Nat), x + 1 ≤ c → cnt x y c t = cnt (x + 1) y c t from this t (x + 1) (Nat.le_refl _)
          intro t
          induction t with
          | nil => intro c _; rfl
          | cons d t ih => intro c hc; simp only [cnt]; rw [ih (c + 1) (by omega)]; congr 1; simp [show x ≤ c by omega, hc]
        have hle := cnt_le (x + 1) y t (x + 1)
        have hi := ih (x + 1) (x + 1) (by omega) (by omega) (by omega)
        simp only [cnt, e]
        constructor
        · intro h i hi2 h1 h2
          have hb : b = true := by
            cases b with
            | true => rfl
            | false => simp at h; omega
          cases i with
          | zero => exact hb
          | succ i =>
            simp [hb, show x < y by omega] at h
            exact hi.1 (by omega) i (by simpa using hi2) (by omega) (by omega)
        · intro h
          have hb : b = true := h 0 (by simp) (by omega) (by omega)
          have := hi.2 fun i hi2 h1 h2 => h (i + 1) (by simpa using hi2) (by omega) (by omega)
          simp [hb, show x < y by omega]
          omega
    · have h1 : ¬ (b = true ∧ x ≤ a ∧ a < y) := by omega
      simp only [cnt, h1, if_false, Nat.zero_add]
      rw [ih x (a + 1) (by omega) (by omega) hxy]
      constructor
      · intro h i hi h1 h2
        cases i with
        | zero => omega
        | succ i => exact h i (by simpa using hi) (by omega) (by omega)
      · intro h i hi h1 h2
        exact h (i + 1) (by simpa using hi) (by omega) (by omega)

end Go.Proofs.Ytaljpggajpoalaa
/-
  The iterator over the rows of live words tells the rows in order, each as its first place and length.
  Conditions: who ranges over them leaves the truth values as they are.
-/
namespace Go.Proofs.Ytaljpggajpoalaa
open Go.RowKit Go.Shelf
attribute [local go_sem] Oper.semAt_some

/-- What index answers: the first place that is free, or -1. -/
def idxF (l : List Bool) : Int := if lead l < l.length then (lead l : Int) else -1
theorem lead_get : ∀ (l : List Bool) (i : Nat) (h : i < l.length), i < lead l → l[i] = true
  | true :: t, 0, _, _ => rfl
  | true :: t, i + 1, h, hl => lead_get t i (by simpa using h) (by simp [lead] at hl; omega)
  | false :: t, i, h, hl => by simp [lead] at hl
theorem lead_at : ∀ (l : List Bool) (h : lead l < l.length), l[lead l] = false
  | true :: t, h => by
    have := lead_at t (by simp [lead] at h; omega)
    simpa [lead] using this
  | false :: t, h => rfl
theorem lead_of (l : List Bool) (i : Nat) (h : i < l.length) (hp : ∀ j (hj : j < i), l[j]'(by omega) = true) (hi : l[i] = false) : lead l = i := by
  rcases Nat.lt_trichotomy (lead l) i with h1 | h1 | h1
  · have := hp (lead l) h1
    rw [lead_at l (by omega)] at this
    cases this
  · exact h1
  · have := lead_get l i h h1
    rw [hi] at this
    cases this

set_option maxRecDepth 100000 in
set_option maxHeartbeats 1000000 in
theorem index_c (b off cap : Nat) (l : List Bool) (W : World) (hmax : l.length ≤ 4096) (hl : ∀ i (h : i < l.length), W.cell? ⟨b, off + i, none⟩ = some (.bool l[i])) :
    Calls Try.prog 93 #[.slice (some ⟨b, off, none⟩) l.length cap, .bool false] W fun e w' => e = .returned (.int .i64 (idxF l)) ∧ w' = W := by
  have HL := Lib.hid hl
  clear hl
  go_enter Try.func93, Try.ntmps93
  go_wp2
  go_loop [8] (fun iv => ∃ i : Nat, i ≤ l.length ∧ iv = .int .i64 i ∧ ∀ j (hj : j < l.length), j < i → l[j] = true) (fun iv => l.length - (intOf iv).toNat)
  case atStart => exact ⟨0, Nat.zero_le _, rfl, fun j _ h => absurd h (Nat.not_lt_zero _)⟩
  case round =>
    obtain ⟨i, hi, rfl, hp⟩ := hrel
    have HP := Lib.hid hp
    clear hp
    by_cases hlt : i < l.length
    · have hx := HL.out i hlt
      cases hb : l[i] with
      | true =>
        rw [hb] at hx
        have HB := Lib.hid hb
        clear hb
        go_wp2
        go_round
        case rel => exact ⟨i + 1, by omega, by go_num, fun j hj hji => by rcases Nat.lt_succ_iff_lt_or_eq.1 hji with h | h; exact HP.out j hj h; subst h; exact HB.out⟩
        case measure => simp [intOf]; omega
      | false =>
        rw [hb] at hx
        have hle := lead_of l i hlt (fun j hj => HP.out j (by omega) hj) hb
        have HR := Lib.hid (show idxF l = i by simp [idxF, hle, hlt])
        clear hb hle
        go_wp2
        go_ret
        exact ⟨ret_int HR.out.symm, rfl⟩
    · have HR := Lib.hid (show idxF l = -1 by
        have hle := lead_le l
        rcases Nat.lt_or_ge (lead l) l.length with h | h
        · have := HP.out (lead l) h (by omega); rw [lead_at l h] at this; cases this
        · simp [idxF]; omega)
      go_wp2
      go_ret
      exact ⟨ret_int HR.out.symm, rfl⟩

/-- The cells outside of some blocks stay as they are. -/
def KeepsCells (S : Nat → Prop) (W W' : World) : Prop := ∀ b o v, ¬ S b → W.cell? ⟨b, o, none⟩ = some v → W'.cell? ⟨b, o, none⟩ = some v
theorem KeepsCells.refl (S : Nat → Prop) (W : World) : KeepsCells S W W := fun _ _ _ _ h => h
theorem KeepsCells.trans {S : Nat → Prop} {X Y Z : World} (h : KeepsCells S X Y) (k : KeepsCells S Y Z) : KeepsCells S X Z := fun b o v hb hx => k b o v hb (h b o v hb hx)
theorem KeepsCells.keeps {S : Nat → Prop} {X Y : World} (h : Keeps S X Y) : KeepsCells S X Y := fun b _ _ hb hx => h.cell hx (by simpa using hb)
theorem KeepsCells.turn (S : Nat → Prop) (W : World) (l : Nat) (o o' : Obj) (hl : W.heap[l]? = some o) (ho : o.isCells = false) (_ : o.isWalk = false) : KeepsCells S W (W.putObj l o') := fun b i v _ h => by
  by_cases e : b = l
  · subst e
    simp only [World.cell?, hl] at h
    cases o <;> simp_all [Obj.isCells]
  · have hp : (W.putObj l o').heap[b]? = W.heap[b]? := World.putObj_heap_other e
    simp only [World.cell?] at h ⊢
    rw [hp]
    exact h

/-- A row that ends within the greatest memory. -/
abbrev RowS := { s : Nat × Nat // s.1 + s.2 ≤ 4096 }
abbrev rowV (s : RowS) : Value := .agg #[.int .i64 (s.1.1 : Int), .int .i64 (s.1.2 : Int)]

set_option maxRecDepth 100000 in
set_option maxHeartbeats 4000000 in
theorem spans_stops (n : Nat) (hn : 1 ≤ n) (S : Nat → Prop) (lb b off cap : Nat) (ls : List Bool) (w : World) (hSl : ¬ S lb) (hSb : ¬ S b) (hmax : ls.length ≤ 4096) (hcap : ls.length ≤ cap)
    (hc : w.cell? ⟨lb, 0, none⟩ = some (.slice (some ⟨b, off, none⟩) ls.length cap)) (hl : ∀ i (h : i < ls.length), w.cell? ⟨b, off + i, none⟩ = some (.bool ls[i])) :
    SeqBound Fence.wide n Try.prog 92 #[] #[.pointer (some ⟨lb, 0, none⟩)] (fun s : RowS => #[rowV s]) (KeepsCells S) (fun xs => xs.map (·.1) = spansL ls) (fun pre => ∃ suf, pre.map (·.1) ++ suf = spansL ls) (spansL ls).length w := fun l J Jx W hW hJ hJx hY h0 => by
  refine callsIn_of_wp Try.func92 rfl trivial ?_ rfl
  simp only [Try.ntmps92, List.size_toArray, List.length_cons, List.length_nil, Nat.reduceAdd, Nat.reduceSub, Array.replicate_succ, Array.replicate_zero, List.push_toArray, List.append_toArray, List.nil_append, List.cons_append]
  have hcW := (hW.cell (World.block_lt_of_cell? w _ hc)).trans hc
  have HLW := Lib.hid (show ∀ i (h : i < ls.length), W.cell? ⟨b, off + i, none⟩ = some (.bool ls[i]) from fun i h => (hW.cell (World.block_lt_of_cell? w _ (hl i h))).trans (hl i h))
  clear hc hl
  gi_wp2
  gi_loopw [3] (fun iv wr => ∃ (p : Nat) (pre : List RowS), p ≤ ls.length + 1 ∧ iv = .int .i64 (p : Int) ∧ (wr.cell? ⟨lb, 0, none⟩ = some (.slice (some ⟨b, off, none⟩) ls.length cap) ∧ ∀ i (h : i < ls.length), wr.cell? ⟨b, off + i, none⟩ = some (.bool ls[i])) ∧ J pre wr ∧ pre.map (·.1) ++ spansP p 0 (ls.drop p) = spansL ls) (fun iv _ => ls.length + 1 - (intOf iv).toNat)
  case atStart => exact ⟨0, [], by omega, rfl, ⟨hcW, HLW.out⟩, h0, rfl⟩
  case round =>
    obtain ⟨p, pre, hp, rfl, ⟨hc, hl⟩, hJp, heq⟩ := hrel
    have HLR := Lib.hid hl
    clear hl
    by_cases hlt : p < ls.length
    · have hst := spansP_step (ls.drop p) p 0
      have hle := lead_le (ls.drop p)
      rw [List.length_drop] at hle
      rw [hst, Nat.zero_add, Nat.add_zero, List.drop_drop] at heq
      obtain ⟨m, hm⟩ : ∃ m, m = lead (ls.drop p) := ⟨_, rfl⟩
      have hix : idxF (ls.drop p) = if m < ls.length - p then (m : Int) else -1 := by rw [hm, idxF, List.length_drop]
      have HIX := Lib.hid hix
      have hil : ∀ i (h : i < (ls.drop p).length), wr.cell? ⟨b, off + p + i, none⟩ = some (.bool (ls.drop p)[i]) := fun i h => by
        rw [List.length_drop] at h
        rw [List.getElem_drop, Nat.add_assoc]; exact HLR.out (p + i) (by omega)
      have hdl : (ls.drop p).length = ls.length - p := List.length_drop ..
      have HCALL := Lib.hid (index_c b (off + p) (cap - p) (ls.drop p) wr (by omega) hil)
      rw [hdl] at HCALL
      rw [← hm] at heq hle
      have HEQ := Lib.hid heq
      clear hst heq hix hil hdl hm
      gi_wp2_with fail
      refine ⟨trivial, (callsIn_wide.2 HCALL.out).mono ?_⟩
      rintro e w' ⟨rfl, rfl⟩
      rw [HIX.out]
      by_cases hm0 : m = 0
      · subst hm0
        rw [if_pos (by omega)]
        have HEQ1 := Lib.hid (show pre.map (·.1) ++ spansP (p + 1) 0 (ls.drop (p + 1)) = spansL ls from HEQ.out)
        clear HEQ HIX HCALL
        gi_wp2
        refine ⟨(fun f h => by cases h), ?_⟩
        gi_wp2
        go_roundw
        case rel => exact ⟨p + 1, pre, by omega, by go_num, ⟨hc, HLR.out⟩, hJp, HEQ1.out⟩
        case measure => simp [intOf]; omega
      · have HEQ2 := Lib.hid (show (pre.map (·.1) ++ [(p, m)]) ++ spansP (p + m + 1) 0 (ls.drop (p + m + 1)) = spansL ls by
          rw [List.append_assoc, ← HEQ.out, oneRow_pos p hm0]; simp only [Nat.add_zero, Nat.add_assoc])
        have hlen : pre.length < (spansL ls).length := by rw [← HEQ2.out]; simp
        have hpm : p + m ≤ 4096 := by omega
        clear HEQ
        by_cases hmlt : m < ls.length - p
        · rw [if_pos hmlt]
          clear HIX HCALL
          obtain ⟨fn, tmps, assign, body, hy, hR⟩ := hY pre ⟨(p, m), hpm⟩ _ hJp hlen
          gi_wp2
          refine hR.mono ?_
          rintro e W3 (⟨rfl, hJ3, hk3⟩ | ⟨rfl, hJx3⟩)
          · have hc3 := hk3 _ _ _ hSl hc
            have HL3 := Lib.hid (show ∀ i (h : i < ls.length), W3.cell? ⟨b, off + i, none⟩ = some (.bool ls[i]) from fun i h => hk3 _ _ _ hSb (HLR.out i h))
            gi_wp2
            go_roundw
            case rel => exact ⟨p + m + 1, pre ++ [⟨(p, m), hpm⟩], by omega, by go_num, ⟨hc3, HL3.out⟩, hJ3, by rw [List.map_append]; exact HEQ2.out⟩
            case measure => simp [intOf]; omega
          · gi_wp2
            refine bodyPost_ret (results_none rfl _ _ _) rfl ?_
            exact ⟨⟨_, rfl⟩, .inr ⟨pre ++ [⟨(p, m), hpm⟩], ⟨_, by rw [List.map_append]; exact HEQ2.out⟩, hJx3⟩⟩
        · rw [if_neg hmlt]
          have hsub : (ls.length : Int) - (p : Int) = (m : Int) := by omega
          have hmpos : (0 : Int) < m := by omega
          clear HIX HCALL
          obtain ⟨fn, tmps, assign, body, hy, hR⟩ := hY pre ⟨(p, m), hpm⟩ _ hJp hlen
          gi_wp2
          refine hR.mono ?_
          rintro e W3 (⟨rfl, hJ3, hk3⟩ | ⟨rfl, hJx3⟩)
          · have hc3 := hk3 _ _ _ hSl hc
            have HL3 := Lib.hid (show ∀ i (h : i < ls.length), W3.cell? ⟨b, off + i, none⟩ = some (.bool ls[i]) from fun i h => hk3 _ _ _ hSb (HLR.out i h))
            gi_wp2
            go_roundw
            case rel => exact ⟨p + m + 1, pre ++ [⟨(p, m), hpm⟩], by omega, by go_num, ⟨hc3, HL3.out⟩, hJ3, by rw [List.map_append]; exact HEQ2.out⟩
            case measure => simp [intOf]; omega
          · gi_wp2
            refine bodyPost_ret (results_none rfl _ _ _) rfl ?_
            exact ⟨⟨_, rfl⟩, .inr ⟨pre ++ [⟨(p, m), hpm⟩], ⟨_, by rw [List.map_append]; exact HEQ2.out⟩, hJx3⟩⟩
    · gi_wp2
      go_end0
      have h0 : ls.drop p = [] := List.drop_eq_nil_of_le (by omega)
      rw [h0, show spansP p 0 [] = [] from rfl, List.append_nil] at heq
      exact ⟨⟨_, rfl⟩, .inl ⟨pre, heq, hJp⟩⟩

end Go.Proofs.Ytaljpggajpoalaa
namespace Go.Proofs.Ytaljpggajpoalaa
open Go.RowKit

/-- Such an operation. -/
def plainOp : Op → Bool
  | .move _ | .assign _ | .load .. | .indexAddr .. | .fieldAddr .. | .binOp .. => true
  | .call c => match c.callee with
    | .builtin .max | .builtin .min | .builtin .len => true
    | _ => false
  | _ => false

theorem run_value {P : Program} {s : Sem Value} {n : Next} {w w' : World} (h : Sem.run P (do let a ← s; pure (Next.value a)) w = .ok n w') : ∃ v, n = .value v := by
  rw [Sem.run_bind] at h
  cases hs : Sem.run P s w with
  | ok a w1 =>
    rw [hs] at h
    simp [Result.andThen] at h
    exact ⟨a, h.1.symm⟩
  | halt x w1 =>
    rw [hs] at h
    simp [Result.andThen] at h

theorem plain_run {P : Program} {ρ : Operand → Value} {o : Oper} {n : Next} {w w' : World} (hp : plainOp o.op = true) (h : (execOp ρ o).run P w = .ok n w') : ∃ v, n = .value v := by
  unfold execOp at h
  cases ho : o.op <;> rw [ho] at hp <;> try (simp [plainOp] at hp; done)
  case move x => rw [ho] at h; simp at h; exact ⟨_, h.1.symm⟩
  case assign x => rw [ho] at h; simp at h; exact ⟨_, h.1.symm⟩
  case load t a => rw [ho] at h; exact run_value h
  case fieldAddr t a f => rw [ho] at h; exact run_value h
  case indexAddr t a i => rw [ho] at h; exact run_value h
  case binOp op t x y u => rw [ho] at h; exact run_value h
  case call c =>
    rw [ho] at h
    simp only [plainOp] at hp
    cases hc : c.callee with
    | builtin b =>
      simp only [resolve, hc, Sem.run_bind, Sem.run_pure, Result.andThen_ok, invoke, builtin] at h
      rw [hc] at hp
      cases b <;> simp at hp
      · exact run_value h
      · exact run_value h
      · exact run_value h
    | _ => rw [hc] at hp; simp at hp

theorem plain_about {P : Program} {ρ : Operand → Value} {o : Oper} {w : World} (hp : plainOp o.op = true) : o.about P w ρ = none := by
  unfold Oper.about
  cases ho : o.op <;> simp only
  case call c =>
    rw [ho] at hp
    simp only [plainOp] at hp
    cases hc : c.callee with
    | builtin b => simp [resolve, hc, Sem.run_pure, Target.leads]
    | _ => rw [hc] at hp; simp at hp

theorem anyIn_of_any {F : Fence} {n : Nat} {P : Program} {md : Region.Mode} {ops : Array Oper} {Q Q' : Exit → Act → World → Prop} (hp : ∀ (i : Nat) (o : Oper), ops[i]? = some o → plainOp o.op = true)
    (hQp : ∀ c a w, ¬ Q (.panic c) a w) (hQo : ∀ a w, ¬ Q .outgrown a w) (hQn : ∀ a w, Q .normal a w → Q' .normal a w) :
    ∀ (fuel : Nat) (listed : Array Bool) (a : Act) (w : World), wpAny P md ops Q fuel listed a w → wpAnyIn F n P md ops Q' fuel listed a w
  | 0, _, _, _, h => ⟨h.1, hQn _ _ h.2⟩
  | fuel + 1, listed, a, w, h => by
    refine ⟨fun h0 => hQn _ _ (h.1 h0), fun i hi => ?_⟩
    have h1 := h.2 i hi
    unfold wpOp at h1
    unfold wpOpIn
    cases ho : ops[i]? with
    | none =>
      rw [ho] at h1
      exact anyIn_of_any hp hQp hQo hQn fuel _ a w h1
    | some o =>
      rw [ho] at h1
      have hpo := hp i o ho
      simp only at h1 ⊢
      split at h1
      · rename_i hw
        rw [if_pos hw]
        rcases h1 with h1 | ⟨_, a', w', h1⟩
        · unfold Oper.wp at h1
          refine ⟨fun f hf => (by rw [plain_about hpo] at hf; cases hf), ?_⟩
          have hs : o.semAt F.round a.eval = execOp a.eval o := by
            unfold Oper.semAt
            split
            · rename_i l c hc1 hc2
              rw [hc2] at hpo
              cases hpo
            · rfl
          rw [hs]
          cases hr : (execOp a.eval o).run P w with
          | ok nx w2 =>
            obtain ⟨v, rfl⟩ := plain_run hpo hr
            rw [hr] at h1
            exact anyIn_of_any hp hQp hQo hQn fuel _ _ _ h1
          | halt x w2 =>
            rw [hr] at h1
            cases x with
            | panic u => exact absurd h1 (hQp _ _ _)
            | _ => exact h1.elim
        · exact absurd h1 (hQo _ _)
      · rename_i hw
        rw [if_neg hw]
        exact ⟨fun f hf => (by rw [plain_about hpo] at hf; cases hf), anyIn_of_any hp hQp hQo hQn fuel _ _ _ h1⟩

/-- Such a region, by a walk that holds S. -/
theorem wpIn_region_held {F : Fence} {n id : Nat} {P : Program} {l : List Oper} {Q : Exit → Act → World → Prop} {S : World → Prop} {a : Act} {w : World} (hm : P.follows .mixedOrders = true) (hp : l.all (fun o => plainOp o.op) = true) (hS : S w.drew)
    (h : S w.drew → wpAnyH P .any l.toArray (fun e a w => e = .normal ∧ Q .normal a w) S l.toArray.size (Array.replicate l.toArray.size false) a w.drew) : (Code.region id l.toArray true).wpIn F n P Q a w := by
  refine wpIn_region_any hm (anyIn_of_any (Q := fun e a w => e = .normal ∧ Q .normal a w) (fun i o ho => ?_) (fun _ _ _ h => by cases h.1) (fun _ _ h => by cases h.1) (fun _ _ h => h.2) _ _ _ _ (wpAny_of_held _ _ _ _ (h hS)))
  have h1 : l[i]? = some o := by simpa using ho
  obtain ⟨hi, rfl⟩ := List.getElem?_eq_some_iff.1 h1
  exact List.all_eq_true.1 hp _ (List.getElem_mem hi)

end Go.Proofs.Ytaljpggajpoalaa
