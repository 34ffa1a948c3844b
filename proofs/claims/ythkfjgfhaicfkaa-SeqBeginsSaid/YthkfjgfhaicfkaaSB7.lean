/-
  Which reads and writes may be: CheckRead and CheckWrite.
  Conditions: the ranges of Go's types.
-/
import Derived.Test.YthkfjgfhaicfkaaSB6
import Derived.BigQuiet
import Derived.Test.YthkfjgfhaicfkaaSB5
import Derived.Lib.Hide
/-
  The accesses of package seq as a function value: accesses, load, store.
  Conditions: as for an access.
-/
namespace Go.Proofs.Ythkfjgfhaicfkaa
open Go.RowKit Go.Shelf
attribute [local go_sem] Oper.semAt_some

/-- The function value that makes accesses of the memory that block q points to. -/
def accV (q : Nat) : Value := .func (.func 63) #[] #[.pointer (some ⟨q, 0, none⟩)]
theorem accesses_c (z : Nat) (W : World) : Calls Try.prog 46 #[.pointer (some ⟨z, 0, none⟩)] W fun e w' => (e = .returned (accV W.heap.size) ∧ XBox w' W.heap.size z) ∧ Below W.heap.size W w' := by
  have hx : XBox (W.alloc (.cells #[.pointer (some ⟨z, 0, none⟩)] 90)) W.heap.size z := World.alloc_heap_new _ _
  have HX := Lib.hid hx
  have hb := below1 W (.cells #[.pointer (some ⟨z, 0, none⟩)] 90)
  have HB := Lib.hid hb
  clear hx hb
  go_enter Try.func46, Try.ntmps46
  go_wp2
  go_ret
  exact ⟨⟨rfl, HX.out⟩, HB.out⟩

/-- What a load, a store leaves. -/
def LoadDone (B q z gw gl cw cl : Nat) (ms : List Bool) (r : List Int × Bool × (Int × Bool)) (W : World) (e : Ending) (w' : World) : Prop :=
  e = .returned (.tuple #[.int .u64 r.2.2.1, .bool r.2.2.2]) ∧ AccF B q z gw gl cw cl r.1 ms r.2.1 w' ∧ Keeps (fun k => k = z ∨ k = gw) W w'
def StoreDone (B q z gw gl cw cl : Nat) (ms : List Bool) (r : List Int × Bool × (Int × Bool)) (W : World) (e : Ending) (w' : World) : Prop :=
  e = .returned (.bool r.2.2.2) ∧ AccF B q z gw gl cw cl r.1 ms r.2.1 w' ∧ Keeps (fun k => k = z ∨ k = gw) W w'

set_option maxRecDepth 100000 in
set_option maxHeartbeats 4000000 in
theorem qload_c (B q z gw gl cw cl : Nat) (us : List Int) (ms : List Bool) (u : Bool) (a : Int) (W : World) (hF : AccF B q z gw gl cw cl us ms u W) (hr : rightB us ms = true) (ha : 0 ≤ a) (hm : a ≤ 9223372036854775807) :
    Calls Try.prog 82 #[accV q, .int .i64 a] W fun e w' => LoadDone B q z gw gl cw cl ms (accM us ms u 1 a 0 0) W e w' := by
  have HC := Lib.hid (acc_c B q z gw gl cw cl us ms u 1 a 0 0 W hF hr (by decide) ha hm)
  obtain ⟨⟨us', f', h', d'⟩, hq⟩ : ∃ r, r = accM us ms u 1 a 0 0 := ⟨_, rfl⟩
  rw [← hq] at HC ⊢
  clear hq hF hr ha hm
  unfold accV
  go_enter Try.func82, Try.ntmps82
  go_wp2_with fail
  refine HC.out.mono ?_
  rintro e w1 ⟨rfl, hF1, hk1⟩
  clear HC
  obtain ⟨w2, hw2⟩ : ∃ X : World, X = w1.alloc (.cells #[.int .u64 h', .bool d'] 120) := ⟨_, rfl⟩
  obtain ⟨y, hy⟩ : ∃ y, y = w1.heap.size := ⟨_, rfl⟩
  have hG : GBox w2 y h' d' := by rw [hw2, hy]; exact World.alloc_heap_new _ _
  have hb2 : Below w1.heap.size w1 w2 := by rw [hw2]; exact below1 _ _
  have HF2 := Lib.hid (hF1.below hb2)
  have HK2 := Lib.hid (hk1.trans (Keeps.of_below hb2))
  have HW := Lib.hid (And.intro hw2 hy)
  obtain ⟨⟨hg0, hg1⟩, -, -⟩ := gbox_cells hG
  clear hw2 hy hb2 hG hF1 hk1
  go_upto_region 2 with fail
  rw [← HW.out.1, ← HW.out.2]
  go_quiet (fail)
  go_wp2
  exact bodyPost_ret (v := .tuple #[.int .u64 h', .bool d']) (by simp [results, Try.results82, go_sem]) rfl ⟨rfl, HF2.out.keeps (Keeps.drewN (Keeps.refl (fun _ => False) _) _) (fun h => h) (fun h => h) (fun h => h) (fun h => h), HK2.out.drewN _⟩

set_option maxRecDepth 100000 in
set_option maxHeartbeats 4000000 in
theorem qstore_c (B q z gw gl cw cl : Nat) (us : List Int) (ms : List Bool) (u : Bool) (a n : Int) (W : World) (hF : AccF B q z gw gl cw cl us ms u W) (hr : rightB us ms = true) (ha : 0 ≤ a) (hm : a ≤ 9223372036854775807) :
    Calls Try.prog 85 #[accV q, .int .i64 a, .int .u64 n] W fun e w' => StoreDone B q z gw gl cw cl ms (accM us ms u 2 a 0 n) W e w' := by
  have HC := Lib.hid (acc_c B q z gw gl cw cl us ms u 2 a 0 n W hF hr (by decide) ha hm)
  obtain ⟨⟨us', f', h', d'⟩, hq⟩ : ∃ r, r = accM us ms u 2 a 0 n := ⟨_, rfl⟩
  rw [← hq] at HC ⊢
  clear hq hF hr ha hm
  unfold accV
  go_enter Try.func85, Try.ntmps85
  go_wp2_with fail
  refine HC.out.mono ?_
  rintro e w1 ⟨rfl, hF1, hk1⟩
  have HF1 := Lib.hid hF1
  have HK1 := Lib.hid hk1
  clear HC hF1 hk1
  have hfd : ∀ w, (Instr.field 120 (.agg #[.int .u64 h', .bool d']) 1).run Try.prog w = .ok (.bool d') w := fun _ => by kernel_rfl
  go_wp2
  go_ret
  exact ⟨rfl, HF1.out, HK1.out⟩

end Go.Proofs.Ythkfjgfhaicfkaa
/-
  Which reads and writes may be: how many values there are by phases.
  Conditions: the ranges of Go's types.
-/
namespace Go.Proofs.Ythkfjgfhaicfkaa
open Go.RowKit Go.Shelf
attribute [local go_sem] Oper.semAt_some

set_option maxRecDepth 100000 in
set_option maxHeartbeats 4000000 in
theorem fitsRead_c (s : RdM) (q : Option Addr) (n c : Nat) (W : World) : Calls Try.prog 44 #[rdV s (.slice q n c)] W fun e w' => e = .returned (.bool (fitsRB s.p s.t s.m n)) ∧ Below W.heap.size W w' := by
  obtain ⟨a, f, m, p, b, t⟩ := s
  unfold rdV
  simp only
  have hc : (p = 0 ∧ t = 0) ∨ (p = 0 ∧ ¬ t = 0) ∨ p = 2 ∨ p = 3 ∨ p = 4 ∨ p = 5 ∨ (¬ p = 0 ∧ ¬ p = 2 ∧ ¬ p = 3 ∧ ¬ p = 4 ∧ ¬ p = 5) := by omega
  rcases hc with ⟨rfl, rfl⟩ | ⟨rfl, ht⟩ | rfl | rfl | rfl | rfl | ⟨h0, h2, h3, h4, h5⟩
  · have hr : fitsRB 0 0 m n = ((n : Int) == 0) := by unfold fitsRB; rw [if_pos rfl, if_pos rfl, Bool.eq_iff_iff]; simp
    rw [hr]
    clear hr 
    go_enter Try.func44, Try.ntmps44
    go_wp2
    go_ret
    exact ⟨by first | rfl | exact ret_b (by simp) | exact ret_b (by simp; omega), by first | exact Below.refl _ _ | exact below1 _ _ | exact below2 _ _ _ | exact below3 _ _ _ _ | exact below4 _ _ _ _ _⟩
  · have hr : fitsRB 0 t m n = ((n : Int) == m) := by unfold fitsRB; rw [if_pos rfl, if_neg ht, Bool.eq_iff_iff]; simp
    rw [hr]
    have ht2 : (t == 0) = false := by rw [beq_eq_false_iff_ne]; exact ht
    clear hr ht
    go_enter Try.func44, Try.ntmps44
    go_wp2
    go_ret
    exact ⟨by first | rfl | exact ret_b (by simp) | exact ret_b (by simp; omega), by first | exact Below.refl _ _ | exact below1 _ _ | exact below2 _ _ _ | exact below3 _ _ _ _ | exact below4 _ _ _ _ _⟩
  · have hr : fitsRB 2 t m n = decide ((n : Int) < m) := by unfold fitsRB; rw [if_neg (by decide), if_pos rfl]
    rw [hr]
    clear hr 
    go_enter Try.func44, Try.ntmps44
    go_wp2
    go_ret
    exact ⟨by first | rfl | exact ret_b (by simp) | exact ret_b (by simp; omega), by first | exact Below.refl _ _ | exact below1 _ _ | exact below2 _ _ _ | exact below3 _ _ _ _ | exact below4 _ _ _ _ _⟩
  · have hr : fitsRB 3 t m n = ((n : Int) == m) := by unfold fitsRB; rw [if_neg (by decide), if_neg (by decide), if_pos (.inl rfl), Bool.eq_iff_iff]; simp
    rw [hr]
    clear hr 
    go_enter Try.func44, Try.ntmps44
    go_wp2
    go_ret
    exact ⟨by first | rfl | exact ret_b (by simp) | exact ret_b (by simp; omega), by first | exact Below.refl _ _ | exact below1 _ _ | exact below2 _ _ _ | exact below3 _ _ _ _ | exact below4 _ _ _ _ _⟩
  · have hr : fitsRB 4 t m n = ((n : Int) == m) := by unfold fitsRB; rw [if_neg (by decide), if_neg (by decide), if_pos (.inr rfl), Bool.eq_iff_iff]; simp
    rw [hr]
    clear hr 
    go_enter Try.func44, Try.ntmps44
    go_wp2
    go_ret
    exact ⟨by first | rfl | exact ret_b (by simp) | exact ret_b (by simp; omega), by first | exact Below.refl _ _ | exact below1 _ _ | exact below2 _ _ _ | exact below3 _ _ _ _ | exact below4 _ _ _ _ _⟩
  · have hr : fitsRB 5 t m n = decide ((n : Int) ≤ m) := by unfold fitsRB; rw [if_neg (by decide), if_neg (by decide), if_neg (by decide), if_pos rfl]
    rw [hr]
    clear hr 
    go_enter Try.func44, Try.ntmps44
    go_wp2
    go_ret
    exact ⟨by first | rfl | exact ret_b (by simp) | exact ret_b (by simp; omega), by first | exact Below.refl _ _ | exact below1 _ _ | exact below2 _ _ _ | exact below3 _ _ _ _ | exact below4 _ _ _ _ _⟩
  · have hr : fitsRB p t m n = false := by unfold fitsRB; rw [if_neg h0, if_neg h2, if_neg (by omega), if_neg h5]
    rw [hr]
    have g0 : (p == 0) = false := by rw [beq_eq_false_iff_ne]; exact h0
    have g2 : (p == 2) = false := by rw [beq_eq_false_iff_ne]; exact h2
    have g3 : (p == 3) = false := by rw [beq_eq_false_iff_ne]; exact h3
    have g4 : (p == 4) = false := by rw [beq_eq_false_iff_ne]; exact h4
    have g5 : (p == 5) = false := by rw [beq_eq_false_iff_ne]; exact h5
    clear hr h0 h2 h3 h4 h5
    go_enter Try.func44, Try.ntmps44
    go_wp2
    go_ret
    exact ⟨by first | rfl | exact ret_b (by simp) | exact ret_b (by simp; omega), by first | exact Below.refl _ _ | exact below1 _ _ | exact below2 _ _ _ | exact below3 _ _ _ _ | exact below4 _ _ _ _ _⟩

set_option maxRecDepth 100000 in
set_option maxHeartbeats 4000000 in
theorem fitsWrite_c (s : WrM) (q : Option Addr) (n c : Nat) (W : World) : Calls Try.prog 51 #[wrV s (.slice q n c)] W fun e w' => e = .returned (.bool (fitsWB s.p s.w n)) ∧ Below W.heap.size W w' := by
  obtain ⟨a, f, p, b, w⟩ := s
  unfold wrV
  simp only
  have hc : p = 0 ∨ p = 1 ∨ p = 2 ∨ p = 3 ∨ p = 4 ∨ p = 5 ∨ (¬ p = 0 ∧ ¬ p = 1 ∧ ¬ p = 2 ∧ ¬ p = 3 ∧ ¬ p = 4 ∧ ¬ p = 5) := by omega
  rcases hc with rfl | rfl | rfl | rfl | rfl | rfl | ⟨h0, h1, h2, h3, h4, h5⟩
  · have hr : fitsWB 0 w n = (w == 0) := by unfold fitsWB; rw [if_pos (.inl rfl), Bool.eq_iff_iff]; simp
    rw [hr]
    clear hr 
    go_enter Try.func51, Try.ntmps51
    go_wp2
    go_ret
    exact ⟨by first | rfl | exact ret_b (by simp) | exact ret_b (by simp; omega), by first | exact Below.refl _ _ | exact below1 _ _ | exact below2 _ _ _ | exact below3 _ _ _ _ | exact below4 _ _ _ _ _⟩
  · have hr : fitsWB 1 w n = (w == 0) := by unfold fitsWB; rw [if_pos (.inr rfl), Bool.eq_iff_iff]; simp
    rw [hr]
    clear hr 
    go_enter Try.func51, Try.ntmps51
    go_wp2
    go_ret
    exact ⟨by first | rfl | exact ret_b (by simp) | exact ret_b (by simp; omega), by first | exact Below.refl _ _ | exact below1 _ _ | exact below2 _ _ _ | exact below3 _ _ _ _ | exact below4 _ _ _ _ _⟩
  · by_cases hw : 0 ≤ w
    · have hr : fitsWB 2 w n = decide (w < (n : Int)) := by unfold fitsWB; simp [hw]
      rw [hr]
      clear hr
      go_enter Try.func51, Try.ntmps51
      go_wp2
      go_ret
      exact ⟨by first | rfl | exact ret_b (by simp) | exact ret_b (by simp; omega), by first | exact Below.refl _ _ | exact below1 _ _ | exact below2 _ _ _ | exact below3 _ _ _ _ | exact below4 _ _ _ _ _⟩
    · have hr : fitsWB 2 w n = false := by unfold fitsWB; simp [hw]
      rw [hr]
      clear hr
      go_enter Try.func51, Try.ntmps51
      go_wp2
      go_ret
      exact ⟨by first | rfl | exact ret_b (by simp) | exact ret_b (by simp; omega), by first | exact Below.refl _ _ | exact below1 _ _ | exact below2 _ _ _ | exact below3 _ _ _ _ | exact below4 _ _ _ _ _⟩
  · have hr : fitsWB 3 w n = (w == (n : Int)) := by unfold fitsWB; rw [if_neg (by decide), if_neg (by decide), if_pos (.inl rfl), Bool.eq_iff_iff]; simp
    rw [hr]
    clear hr 
    go_enter Try.func51, Try.ntmps51
    go_wp2
    go_ret
    exact ⟨by first | rfl | exact ret_b (by simp) | exact ret_b (by simp; omega), by first | exact Below.refl _ _ | exact below1 _ _ | exact below2 _ _ _ | exact below3 _ _ _ _ | exact below4 _ _ _ _ _⟩
  · have hr : fitsWB 4 w n = (w == (n : Int)) := by unfold fitsWB; rw [if_neg (by decide), if_neg (by decide), if_pos (.inr rfl), Bool.eq_iff_iff]; simp
    rw [hr]
    clear hr 
    go_enter Try.func51, Try.ntmps51
    go_wp2
    go_ret
    exact ⟨by first | rfl | exact ret_b (by simp) | exact ret_b (by simp; omega), by first | exact Below.refl _ _ | exact below1 _ _ | exact below2 _ _ _ | exact below3 _ _ _ _ | exact below4 _ _ _ _ _⟩
  · by_cases hw : 0 ≤ w
    · have hr : fitsWB 5 w n = decide (w ≤ (n : Int)) := by unfold fitsWB; simp [hw]
      rw [hr]
      clear hr
      go_enter Try.func51, Try.ntmps51
      go_wp2
      go_ret
      exact ⟨by first | rfl | exact ret_b (by simp) | exact ret_b (by simp; omega), by first | exact Below.refl _ _ | exact below1 _ _ | exact below2 _ _ _ | exact below3 _ _ _ _ | exact below4 _ _ _ _ _⟩
    · have hr : fitsWB 5 w n = false := by unfold fitsWB; simp [hw]
      rw [hr]
      clear hr
      go_enter Try.func51, Try.ntmps51
      go_wp2
      go_ret
      exact ⟨by first | rfl | exact ret_b (by simp) | exact ret_b (by simp; omega), by first | exact Below.refl _ _ | exact below1 _ _ | exact below2 _ _ _ | exact below3 _ _ _ _ | exact below4 _ _ _ _ _⟩
  · have hr : fitsWB p w n = false := by unfold fitsWB; rw [if_neg (by omega), if_neg h2, if_neg (by omega), if_neg h5]
    rw [hr]
    have g0 : (p == 0) = false := by rw [beq_eq_false_iff_ne]; exact h0
    have g1 : (p == 1) = false := by rw [beq_eq_false_iff_ne]; exact h1
    have g2 : (p == 2) = false := by rw [beq_eq_false_iff_ne]; exact h2
    have g3 : (p == 3) = false := by rw [beq_eq_false_iff_ne]; exact h3
    have g4 : (p == 4) = false := by rw [beq_eq_false_iff_ne]; exact h4
    have g5 : (p == 5) = false := by rw [beq_eq_false_iff_ne]; exact h5
    clear hr h0 h1 h2 h3 h4 h5
    go_enter Try.func51, Try.ntmps51
    go_wp2
    go_ret
    exact ⟨by first | rfl | exact ret_b (by simp) | exact ret_b (by simp; omega), by first | exact Below.refl _ _ | exact below1 _ _ | exact below2 _ _ _ | exact below3 _ _ _ _ | exact below4 _ _ _ _ _⟩

end Go.Proofs.Ythkfjgfhaicfkaa
namespace Go.Proofs.Ythkfjgfhaicfkaa
open Go.RowKit Go.Shelf
attribute [local go_sem] Oper.semAt_some

/-- Block z is a variable that holds a read. -/
def RdBox (w : World) (z : Nat) (s : RdM) (v : Value) : Prop := w.heap[z]? = some (.cells #[.int .i64 s.a, .int .i64 s.f, .int .i64 s.m, .int .i64 s.p, .int .u64 s.b, v, .int .i64 s.t] 29 (0, 0))
theorem RdBox.lt {w : World} {z : Nat} {s : RdM} {v : Value} (h : RdBox w z s v) : z < w.heap.size := (Array.getElem?_eq_some_iff.1 h).1
theorem RdBox.below {w w' : World} {z : Nat} {s : RdM} {v : Value} (h : RdBox w z s v) (hb : Below w.heap.size w w') : RdBox w' z s v := (hb.block z h.lt).trans h
theorem RdBox.cells {w : World} {z : Nat} {s : RdM} {v : Value} (h : RdBox w z s v) : w.cell? ⟨z, 0, none⟩ = some (.int .i64 s.a) ∧ w.cell? ⟨z, 1, none⟩ = some (.int .i64 s.f) ∧ w.cell? ⟨z, 2, none⟩ = some (.int .i64 s.m) ∧ w.cell? ⟨z, 3, none⟩ = some (.int .i64 s.p) ∧ w.cell? ⟨z, 4, none⟩ = some (.int .u64 s.b) ∧ w.cell? ⟨z, 5, none⟩ = some v ∧ w.cell? ⟨z, 6, none⟩ = some (.int .i64 s.t) := by
  have h' : w.heap[z]? = _ := h
  simp [World.cell?, h']
/-- Block z is a variable that holds a write. -/
def WrBox (w : World) (z : Nat) (s : WrM) (v : Value) : Prop := w.heap[z]? = some (.cells #[.int .i64 s.a, .int .i64 s.f, v, .int .i64 s.p, .int .u64 s.b, .int .i64 s.w] 34 (0, 0))
theorem WrBox.lt {w : World} {z : Nat} {s : WrM} {v : Value} (h : WrBox w z s v) : z < w.heap.size := (Array.getElem?_eq_some_iff.1 h).1
theorem WrBox.below {w w' : World} {z : Nat} {s : WrM} {v : Value} (h : WrBox w z s v) (hb : Below w.heap.size w w') : WrBox w' z s v := (hb.block z h.lt).trans h
theorem WrBox.cells {w : World} {z : Nat} {s : WrM} {v : Value} (h : WrBox w z s v) : w.cell? ⟨z, 0, none⟩ = some (.int .i64 s.a) ∧ w.cell? ⟨z, 1, none⟩ = some (.int .i64 s.f) ∧ w.cell? ⟨z, 2, none⟩ = some v ∧ w.cell? ⟨z, 3, none⟩ = some (.int .i64 s.p) ∧ w.cell? ⟨z, 4, none⟩ = some (.int .u64 s.b) ∧ w.cell? ⟨z, 5, none⟩ = some (.int .i64 s.w) := by
  have h' : w.heap[z]? = _ := h
  simp [World.cell?, h']

set_option maxRecDepth 100000 in
set_option maxHeartbeats 4000000 in
theorem checkRead_c (s : RdM) (q : Option Addr) (n c : Nat) (hb : 0 ≤ s.b ∧ s.b ≤ 18446744073709551615) (W : World) : Calls Try.prog 20 #[rdV s (.slice q n c)] W fun e w' => e = .returned (.int .i64 (if rightRB s n = true then 0 else 160)) ∧ Below W.heap.size W w' := by
  obtain ⟨a, f, m, p, b, t⟩ := s
  simp only at hb
  have HBR := Lib.hid hb
  unfold rdV
  simp only
  have hc : (m < 0 ∧ rightRB ⟨a, f, m, p, b, t⟩ n = false) ∨ (0 ≤ m ∧ 16 < m ∧ rightRB ⟨a, f, m, p, b, t⟩ n = false) ∨ (0 ≤ m ∧ m ≤ 16 ∧ apartB a f m = false ∧ rightRB ⟨a, f, m, p, b, t⟩ n = false) ∨ (0 ≤ m ∧ m ≤ 16 ∧ apartB a f m = true ∧ (!decide (b % 2 = 0)) = true ∧ rightRB ⟨a, f, m, p, b, t⟩ n = false) ∨
      (0 ≤ m ∧ m ≤ 16 ∧ apartB a f m = true ∧ (!decide (b % 2 = 0)) = false ∧ t < 0 ∧ rightRB ⟨a, f, m, p, b, t⟩ n = false) ∨ (0 ≤ m ∧ m ≤ 16 ∧ apartB a f m = true ∧ (!decide (b % 2 = 0)) = false ∧ 0 ≤ t ∧ 1073741824 < t ∧ rightRB ⟨a, f, m, p, b, t⟩ n = false) ∨
      (0 ≤ m ∧ m ≤ 16 ∧ apartB a f m = true ∧ (!decide (b % 2 = 0)) = false ∧ 0 ≤ t ∧ t ≤ 1073741824 ∧ fitsRB p t m n = false ∧ rightRB ⟨a, f, m, p, b, t⟩ n = false) ∨ (0 ≤ m ∧ m ≤ 16 ∧ apartB a f m = true ∧ (!decide (b % 2 = 0)) = false ∧ 0 ≤ t ∧ t ≤ 1073741824 ∧ fitsRB p t m n = true ∧ rightRB ⟨a, f, m, p, b, t⟩ n = true) := by
    unfold rightRB
    simp only
    cases apartB a f m <;> cases fitsRB p t m n <;> simp <;> omega
  clear hb
  rcases hc with ⟨h0, hr⟩ | ⟨h0, h1, hr⟩ | ⟨h0, h1, h2, hr⟩ | ⟨h0, h1, h2, h3, hr⟩ | ⟨h0, h1, h2, h3, h4, hr⟩ | ⟨h0, h1, h2, h3, h4, h5, hr⟩ | ⟨h0, h1, h2, h3, h4, h5, h6, hr⟩ | ⟨h0, h1, h2, h3, h4, h5, h6, hr⟩
  · rw [hr, if_neg (by decide)]
    clear hr
    obtain ⟨w1, hw1⟩ : ∃ X : World, X = W.alloc (.cells #[.int .i64 a, .int .i64 f, .int .i64 m, .int .i64 p, .int .u64 b, .slice q n c, .int .i64 t] 29) := ⟨_, rfl⟩
    have HX := Lib.hid (show RdBox w1 W.heap.size ⟨a, f, m, p, b, t⟩ (.slice q n c) by rw [hw1]; exact World.alloc_heap_new _ _)
    have HB := Lib.hid (show Below W.heap.size W w1 by rw [hw1]; exact below1 _ _)
    obtain ⟨c0, c1, c2, c3, c4, c5, c6⟩ := HX.out.cells
    simp only at c0 c1 c2 c3 c4 c5 c6
    rw [hw1] at c0 c1 c2 c3 c4 c5 c6
    go_enter Try.func20, Try.ntmps20
    go_wp2
    rw [← hw1]
    clear hw1 c0 c1 c2 c3 c4 c5 c6
    go_ret
    exact ⟨rfl, HB.out⟩
  · rw [hr, if_neg (by decide)]
    clear hr
    obtain ⟨w1, hw1⟩ : ∃ X : World, X = W.alloc (.cells #[.int .i64 a, .int .i64 f, .int .i64 m, .int .i64 p, .int .u64 b, .slice q n c, .int .i64 t] 29) := ⟨_, rfl⟩
    have HX := Lib.hid (show RdBox w1 W.heap.size ⟨a, f, m, p, b, t⟩ (.slice q n c) by rw [hw1]; exact World.alloc_heap_new _ _)
    have HB := Lib.hid (show Below W.heap.size W w1 by rw [hw1]; exact below1 _ _)
    obtain ⟨c0, c1, c2, c3, c4, c5, c6⟩ := HX.out.cells
    simp only at c0 c1 c2 c3 c4 c5 c6
    rw [hw1] at c0 c1 c2 c3 c4 c5 c6
    go_enter Try.func20, Try.ntmps20
    go_wp2
    rw [← hw1]
    clear hw1 c0 c1 c2 c3 c4 c5 c6
    go_ret
    exact ⟨rfl, HB.out⟩
  · rw [hr, if_neg (by decide)]
    clear hr
    have HA := Lib.hid (fun Z : World => (apart_c a f m (by omega) Z))
    rw [h2] at HA
    clear h2
    obtain ⟨w1, hw1⟩ : ∃ X : World, X = W.alloc (.cells #[.int .i64 a, .int .i64 f, .int .i64 m, .int .i64 p, .int .u64 b, .slice q n c, .int .i64 t] 29) := ⟨_, rfl⟩
    have HX := Lib.hid (show RdBox w1 W.heap.size ⟨a, f, m, p, b, t⟩ (.slice q n c) by rw [hw1]; exact World.alloc_heap_new _ _)
    have HB := Lib.hid (show Below W.heap.size W w1 by rw [hw1]; exact below1 _ _)
    obtain ⟨c0, c1, c2, c3, c4, c5, c6⟩ := HX.out.cells
    simp only at c0 c1 c2 c3 c4 c5 c6
    rw [hw1] at c0 c1 c2 c3 c4 c5 c6
    go_enter Try.func20, Try.ntmps20
    go_wp2_with fail
    rw [← hw1]
    clear hw1
    refine (HA.out w1).mono ?_
    rintro e w2 ⟨rfl, hb⟩
    have HX := Lib.hid (HX.out.below hb)
    have HB := Lib.hid (below_then HB.out HB.out.size hb)
    clear hb c0 c1 c2 c3 c4 c5 c6
    obtain ⟨c0, c1, c2, c3, c4, c5, c6⟩ := HX.out.cells
    simp only at c0 c1 c2 c3 c4 c5 c6
    go_wp2
    go_ret
    exact ⟨rfl, HB.out⟩
  · rw [hr, if_neg (by decide)]
    clear hr
    have HA := Lib.hid (fun Z : World => (apart_c a f m (by omega) Z))
    rw [h2] at HA
    have HO := Lib.hid (fun Z : World => (odd_c b HBR.out Z))
    rw [h3] at HO
    clear h2 h3
    obtain ⟨w1, hw1⟩ : ∃ X : World, X = W.alloc (.cells #[.int .i64 a, .int .i64 f, .int .i64 m, .int .i64 p, .int .u64 b, .slice q n c, .int .i64 t] 29) := ⟨_, rfl⟩
    have HX := Lib.hid (show RdBox w1 W.heap.size ⟨a, f, m, p, b, t⟩ (.slice q n c) by rw [hw1]; exact World.alloc_heap_new _ _)
    have HB := Lib.hid (show Below W.heap.size W w1 by rw [hw1]; exact below1 _ _)
    obtain ⟨c0, c1, c2, c3, c4, c5, c6⟩ := HX.out.cells
    simp only at c0 c1 c2 c3 c4 c5 c6
    rw [hw1] at c0 c1 c2 c3 c4 c5 c6
    go_enter Try.func20, Try.ntmps20
    go_wp2_with fail
    rw [← hw1]
    clear hw1
    refine (HA.out w1).mono ?_
    rintro e w2 ⟨rfl, hb⟩
    have HX := Lib.hid (HX.out.below hb)
    have HB := Lib.hid (below_then HB.out HB.out.size hb)
    clear hb c0 c1 c2 c3 c4 c5 c6
    obtain ⟨c0, c1, c2, c3, c4, c5, c6⟩ := HX.out.cells
    simp only at c0 c1 c2 c3 c4 c5 c6
    go_wp2_with fail
    refine (HO.out w2).mono ?_
    rintro e w3 ⟨rfl, hb⟩
    have HX := Lib.hid (HX.out.below hb)
    have HB := Lib.hid (below_then HB.out HB.out.size hb)
    clear hb c0 c1 c2 c3 c4 c5 c6
    obtain ⟨c0, c1, c2, c3, c4, c5, c6⟩ := HX.out.cells
    simp only at c0 c1 c2 c3 c4 c5 c6
    go_wp2
    go_ret
    exact ⟨rfl, HB.out⟩
  · rw [hr, if_neg (by decide)]
    clear hr
    have HA := Lib.hid (fun Z : World => (apart_c a f m (by omega) Z))
    rw [h2] at HA
    have HO := Lib.hid (fun Z : World => (odd_c b HBR.out Z))
    rw [h3] at HO
    clear h2 h3
    obtain ⟨w1, hw1⟩ : ∃ X : World, X = W.alloc (.cells #[.int .i64 a, .int .i64 f, .int .i64 m, .int .i64 p, .int .u64 b, .slice q n c, .int .i64 t] 29) := ⟨_, rfl⟩
    have HX := Lib.hid (show RdBox w1 W.heap.size ⟨a, f, m, p, b, t⟩ (.slice q n c) by rw [hw1]; exact World.alloc_heap_new _ _)
    have HB := Lib.hid (show Below W.heap.size W w1 by rw [hw1]; exact below1 _ _)
    obtain ⟨c0, c1, c2, c3, c4, c5, c6⟩ := HX.out.cells
    simp only at c0 c1 c2 c3 c4 c5 c6
    rw [hw1] at c0 c1 c2 c3 c4 c5 c6
    go_enter Try.func20, Try.ntmps20
    go_wp2_with fail
    rw [← hw1]
    clear hw1
    refine (HA.out w1).mono ?_
    rintro e w2 ⟨rfl, hb⟩
    have HX := Lib.hid (HX.out.below hb)
    have HB := Lib.hid (below_then HB.out HB.out.size hb)
    clear hb c0 c1 c2 c3 c4 c5 c6
    obtain ⟨c0, c1, c2, c3, c4, c5, c6⟩ := HX.out.cells
    simp only at c0 c1 c2 c3 c4 c5 c6
    go_wp2_with fail
    refine (HO.out w2).mono ?_
    rintro e w3 ⟨rfl, hb⟩
    have HX := Lib.hid (HX.out.below hb)
    have HB := Lib.hid (below_then HB.out HB.out.size hb)
    clear hb c0 c1 c2 c3 c4 c5 c6
    obtain ⟨c0, c1, c2, c3, c4, c5, c6⟩ := HX.out.cells
    simp only at c0 c1 c2 c3 c4 c5 c6
    go_wp2
    go_ret
    exact ⟨rfl, HB.out⟩
  · rw [hr, if_neg (by decide)]
    clear hr
    have HA := Lib.hid (fun Z : World => (apart_c a f m (by omega) Z))
    rw [h2] at HA
    have HO := Lib.hid (fun Z : World => (odd_c b HBR.out Z))
    rw [h3] at HO
    clear h2 h3
    obtain ⟨w1, hw1⟩ : ∃ X : World, X = W.alloc (.cells #[.int .i64 a, .int .i64 f, .int .i64 m, .int .i64 p, .int .u64 b, .slice q n c, .int .i64 t] 29) := ⟨_, rfl⟩
    have HX := Lib.hid (show RdBox w1 W.heap.size ⟨a, f, m, p, b, t⟩ (.slice q n c) by rw [hw1]; exact World.alloc_heap_new _ _)
    have HB := Lib.hid (show Below W.heap.size W w1 by rw [hw1]; exact below1 _ _)
    obtain ⟨c0, c1, c2, c3, c4, c5, c6⟩ := HX.out.cells
    simp only at c0 c1 c2 c3 c4 c5 c6
    rw [hw1] at c0 c1 c2 c3 c4 c5 c6
    go_enter Try.func20, Try.ntmps20
    go_wp2_with fail
    rw [← hw1]
    clear hw1
    refine (HA.out w1).mono ?_
    rintro e w2 ⟨rfl, hb⟩
    have HX := Lib.hid (HX.out.below hb)
    have HB := Lib.hid (below_then HB.out HB.out.size hb)
    clear hb c0 c1 c2 c3 c4 c5 c6
    obtain ⟨c0, c1, c2, c3, c4, c5, c6⟩ := HX.out.cells
    simp only at c0 c1 c2 c3 c4 c5 c6
    go_wp2_with fail
    refine (HO.out w2).mono ?_
    rintro e w3 ⟨rfl, hb⟩
    have HX := Lib.hid (HX.out.below hb)
    have HB := Lib.hid (below_then HB.out HB.out.size hb)
    clear hb c0 c1 c2 c3 c4 c5 c6
    obtain ⟨c0, c1, c2, c3, c4, c5, c6⟩ := HX.out.cells
    simp only at c0 c1 c2 c3 c4 c5 c6
    go_wp2
    go_ret
    exact ⟨rfl, HB.out⟩
  · rw [hr, if_neg (by decide)]
    clear hr
    have HA := Lib.hid (fun Z : World => (apart_c a f m (by omega) Z))
    rw [h2] at HA
    have HO := Lib.hid (fun Z : World => (odd_c b HBR.out Z))
    rw [h3] at HO
    have HF := Lib.hid (show ∀ Z : World, Calls Try.prog 44 #[rdV ⟨a, f, m, p, b, t⟩ (.slice q n c)] Z fun e w' => e = .returned (.bool (fitsRB p t m n)) ∧ Below Z.heap.size Z w' from fun Z => fitsRead_c ⟨a, f, m, p, b, t⟩ q n c Z)
    rw [h6] at HF
    unfold rdV at HF
    simp only at HF
    clear h2 h3 h6
    obtain ⟨w1, hw1⟩ : ∃ X : World, X = W.alloc (.cells #[.int .i64 a, .int .i64 f, .int .i64 m, .int .i64 p, .int .u64 b, .slice q n c, .int .i64 t] 29) := ⟨_, rfl⟩
    have HX := Lib.hid (show RdBox w1 W.heap.size ⟨a, f, m, p, b, t⟩ (.slice q n c) by rw [hw1]; exact World.alloc_heap_new _ _)
    have HB := Lib.hid (show Below W.heap.size W w1 by rw [hw1]; exact below1 _ _)
    obtain ⟨c0, c1, c2, c3, c4, c5, c6⟩ := HX.out.cells
    simp only at c0 c1 c2 c3 c4 c5 c6
    rw [hw1] at c0 c1 c2 c3 c4 c5 c6
    go_enter Try.func20, Try.ntmps20
    go_wp2_with fail
    rw [← hw1]
    clear hw1
    refine (HA.out w1).mono ?_
    rintro e w2 ⟨rfl, hb⟩
    have HX := Lib.hid (HX.out.below hb)
    have HB := Lib.hid (below_then HB.out HB.out.size hb)
    clear hb c0 c1 c2 c3 c4 c5 c6
    obtain ⟨c0, c1, c2, c3, c4, c5, c6⟩ := HX.out.cells
    simp only at c0 c1 c2 c3 c4 c5 c6
    go_wp2_with fail
    refine (HO.out w2).mono ?_
    rintro e w3 ⟨rfl, hb⟩
    have HX := Lib.hid (HX.out.below hb)
    have HB := Lib.hid (below_then HB.out HB.out.size hb)
    clear hb c0 c1 c2 c3 c4 c5 c6
    obtain ⟨c0, c1, c2, c3, c4, c5, c6⟩ := HX.out.cells
    simp only at c0 c1 c2 c3 c4 c5 c6
    go_wp2_with fail
    refine (HF.out w3).mono ?_
    rintro e w4 ⟨rfl, hb⟩
    have HX := Lib.hid (HX.out.below hb)
    have HB := Lib.hid (below_then HB.out HB.out.size hb)
    clear hb c0 c1 c2 c3 c4 c5 c6
    obtain ⟨c0, c1, c2, c3, c4, c5, c6⟩ := HX.out.cells
    simp only at c0 c1 c2 c3 c4 c5 c6
    go_wp2
    go_ret
    exact ⟨rfl, HB.out⟩
  · rw [hr, if_pos rfl]
    clear hr
    have HA := Lib.hid (fun Z : World => (apart_c a f m (by omega) Z))
    rw [h2] at HA
    have HO := Lib.hid (fun Z : World => (odd_c b HBR.out Z))
    rw [h3] at HO
    have HF := Lib.hid (show ∀ Z : World, Calls Try.prog 44 #[rdV ⟨a, f, m, p, b, t⟩ (.slice q n c)] Z fun e w' => e = .returned (.bool (fitsRB p t m n)) ∧ Below Z.heap.size Z w' from fun Z => fitsRead_c ⟨a, f, m, p, b, t⟩ q n c Z)
    rw [h6] at HF
    unfold rdV at HF
    simp only at HF
    clear h2 h3 h6
    obtain ⟨w1, hw1⟩ : ∃ X : World, X = W.alloc (.cells #[.int .i64 a, .int .i64 f, .int .i64 m, .int .i64 p, .int .u64 b, .slice q n c, .int .i64 t] 29) := ⟨_, rfl⟩
    have HX := Lib.hid (show RdBox w1 W.heap.size ⟨a, f, m, p, b, t⟩ (.slice q n c) by rw [hw1]; exact World.alloc_heap_new _ _)
    have HB := Lib.hid (show Below W.heap.size W w1 by rw [hw1]; exact below1 _ _)
    obtain ⟨c0, c1, c2, c3, c4, c5, c6⟩ := HX.out.cells
    simp only at c0 c1 c2 c3 c4 c5 c6
    rw [hw1] at c0 c1 c2 c3 c4 c5 c6
    go_enter Try.func20, Try.ntmps20
    go_wp2_with fail
    rw [← hw1]
    clear hw1
    refine (HA.out w1).mono ?_
    rintro e w2 ⟨rfl, hb⟩
    have HX := Lib.hid (HX.out.below hb)
    have HB := Lib.hid (below_then HB.out HB.out.size hb)
    clear hb c0 c1 c2 c3 c4 c5 c6
    obtain ⟨c0, c1, c2, c3, c4, c5, c6⟩ := HX.out.cells
    simp only at c0 c1 c2 c3 c4 c5 c6
    go_wp2_with fail
    refine (HO.out w2).mono ?_
    rintro e w3 ⟨rfl, hb⟩
    have HX := Lib.hid (HX.out.below hb)
    have HB := Lib.hid (below_then HB.out HB.out.size hb)
    clear hb c0 c1 c2 c3 c4 c5 c6
    obtain ⟨c0, c1, c2, c3, c4, c5, c6⟩ := HX.out.cells
    simp only at c0 c1 c2 c3 c4 c5 c6
    go_wp2_with fail
    refine (HF.out w3).mono ?_
    rintro e w4 ⟨rfl, hb⟩
    have HX := Lib.hid (HX.out.below hb)
    have HB := Lib.hid (below_then HB.out HB.out.size hb)
    clear hb c0 c1 c2 c3 c4 c5 c6
    obtain ⟨c0, c1, c2, c3, c4, c5, c6⟩ := HX.out.cells
    simp only at c0 c1 c2 c3 c4 c5 c6
    go_wp2
    go_ret
    exact ⟨rfl, HB.out⟩

set_option maxRecDepth 100000 in
set_option maxHeartbeats 4000000 in
theorem checkWrite_c (s : WrM) (q : Option Addr) (n c : Nat) (hb : 0 ≤ s.b ∧ s.b ≤ 18446744073709551615) (W : World) : Calls Try.prog 27 #[wrV s (.slice q n c)] W fun e w' => e = .returned (.int .i64 (if rightWB s n = true then 0 else 160)) ∧ Below W.heap.size W w' := by
  obtain ⟨a, f, p, b, w⟩ := s
  simp only at hb
  have HBR := Lib.hid hb
  unfold wrV
  simp only
  have hc : (n < 1 ∧ rightWB ⟨a, f, p, b, w⟩ n = false) ∨ (1 ≤ n ∧ 16 < n ∧ rightWB ⟨a, f, p, b, w⟩ n = false) ∨ (1 ≤ n ∧ n ≤ 16 ∧ apartB a f (n : Int) = false ∧ rightWB ⟨a, f, p, b, w⟩ n = false) ∨ (1 ≤ n ∧ n ≤ 16 ∧ apartB a f (n : Int) = true ∧ (!decide (b % 2 = 0)) = true ∧ rightWB ⟨a, f, p, b, w⟩ n = false) ∨
      (1 ≤ n ∧ n ≤ 16 ∧ apartB a f (n : Int) = true ∧ (!decide (b % 2 = 0)) = false ∧ fitsWB p w n = false ∧ rightWB ⟨a, f, p, b, w⟩ n = false) ∨ (1 ≤ n ∧ n ≤ 16 ∧ apartB a f (n : Int) = true ∧ (!decide (b % 2 = 0)) = false ∧ fitsWB p w n = true ∧ rightWB ⟨a, f, p, b, w⟩ n = true) := by
    unfold rightWB
    simp only
    cases apartB a f (n : Int) <;> cases fitsWB p w n <;> simp <;> omega
  clear hb
  rcases hc with ⟨h0, hr⟩ | ⟨h0, h1, hr⟩ | ⟨h0, h1, h2, hr⟩ | ⟨h0, h1, h2, h3, hr⟩ | ⟨h0, h1, h2, h3, h4, hr⟩ | ⟨h0, h1, h2, h3, h4, hr⟩
  · rw [hr, if_neg (by decide)]
    clear hr
    obtain ⟨w1, hw1⟩ : ∃ X : World, X = W.alloc (.cells #[.int .i64 a, .int .i64 f, .slice q n c, .int .i64 p, .int .u64 b, .int .i64 w] 34) := ⟨_, rfl⟩
    have HX := Lib.hid (show WrBox w1 W.heap.size ⟨a, f, p, b, w⟩ (.slice q n c) by rw [hw1]; exact World.alloc_heap_new _ _)
    have HB := Lib.hid (show Below W.heap.size W w1 by rw [hw1]; exact below1 _ _)
    obtain ⟨c0, c1, c2, c3, c4, c5⟩ := HX.out.cells
    simp only at c0 c1 c2 c3 c4 c5
    rw [hw1] at c0 c1 c2 c3 c4 c5
    go_enter Try.func27, Try.ntmps27
    go_wp2
    rw [← hw1]
    clear hw1 c0 c1 c2 c3 c4 c5
    go_ret
    exact ⟨rfl, HB.out⟩
  · rw [hr, if_neg (by decide)]
    clear hr
    obtain ⟨w1, hw1⟩ : ∃ X : World, X = W.alloc (.cells #[.int .i64 a, .int .i64 f, .slice q n c, .int .i64 p, .int .u64 b, .int .i64 w] 34) := ⟨_, rfl⟩
    have HX := Lib.hid (show WrBox w1 W.heap.size ⟨a, f, p, b, w⟩ (.slice q n c) by rw [hw1]; exact World.alloc_heap_new _ _)
    have HB := Lib.hid (show Below W.heap.size W w1 by rw [hw1]; exact below1 _ _)
    obtain ⟨c0, c1, c2, c3, c4, c5⟩ := HX.out.cells
    simp only at c0 c1 c2 c3 c4 c5
    rw [hw1] at c0 c1 c2 c3 c4 c5
    go_enter Try.func27, Try.ntmps27
    go_wp2
    rw [← hw1]
    clear hw1 c0 c1 c2 c3 c4 c5
    go_ret
    exact ⟨rfl, HB.out⟩
  · rw [hr, if_neg (by decide)]
    clear hr
    have HA := Lib.hid (fun Z : World => (apart_c a f (n : Int) (by omega) Z))
    rw [h2] at HA
    clear h2
    obtain ⟨w1, hw1⟩ : ∃ X : World, X = W.alloc (.cells #[.int .i64 a, .int .i64 f, .slice q n c, .int .i64 p, .int .u64 b, .int .i64 w] 34) := ⟨_, rfl⟩
    have HX := Lib.hid (show WrBox w1 W.heap.size ⟨a, f, p, b, w⟩ (.slice q n c) by rw [hw1]; exact World.alloc_heap_new _ _)
    have HB := Lib.hid (show Below W.heap.size W w1 by rw [hw1]; exact below1 _ _)
    obtain ⟨c0, c1, c2, c3, c4, c5⟩ := HX.out.cells
    simp only at c0 c1 c2 c3 c4 c5
    rw [hw1] at c0 c1 c2 c3 c4 c5
    go_enter Try.func27, Try.ntmps27
    go_wp2_with fail
    rw [← hw1]
    clear hw1
    refine (HA.out w1).mono ?_
    rintro e w2 ⟨rfl, hb⟩
    have HX := Lib.hid (HX.out.below hb)
    have HB := Lib.hid (below_then HB.out HB.out.size hb)
    clear hb c0 c1 c2 c3 c4 c5
    obtain ⟨c0, c1, c2, c3, c4, c5⟩ := HX.out.cells
    simp only at c0 c1 c2 c3 c4 c5
    go_wp2
    go_ret
    exact ⟨rfl, HB.out⟩
  · rw [hr, if_neg (by decide)]
    clear hr
    have HA := Lib.hid (fun Z : World => (apart_c a f (n : Int) (by omega) Z))
    rw [h2] at HA
    have HO := Lib.hid (fun Z : World => (odd_c b HBR.out Z))
    rw [h3] at HO
    clear h2 h3
    obtain ⟨w1, hw1⟩ : ∃ X : World, X = W.alloc (.cells #[.int .i64 a, .int .i64 f, .slice q n c, .int .i64 p, .int .u64 b, .int .i64 w] 34) := ⟨_, rfl⟩
    have HX := Lib.hid (show WrBox w1 W.heap.size ⟨a, f, p, b, w⟩ (.slice q n c) by rw [hw1]; exact World.alloc_heap_new _ _)
    have HB := Lib.hid (show Below W.heap.size W w1 by rw [hw1]; exact below1 _ _)
    obtain ⟨c0, c1, c2, c3, c4, c5⟩ := HX.out.cells
    simp only at c0 c1 c2 c3 c4 c5
    rw [hw1] at c0 c1 c2 c3 c4 c5
    go_enter Try.func27, Try.ntmps27
    go_wp2_with fail
    rw [← hw1]
    clear hw1
    refine (HA.out w1).mono ?_
    rintro e w2 ⟨rfl, hb⟩
    have HX := Lib.hid (HX.out.below hb)
    have HB := Lib.hid (below_then HB.out HB.out.size hb)
    clear hb c0 c1 c2 c3 c4 c5
    obtain ⟨c0, c1, c2, c3, c4, c5⟩ := HX.out.cells
    simp only at c0 c1 c2 c3 c4 c5
    go_wp2_with fail
    refine (HO.out w2).mono ?_
    rintro e w3 ⟨rfl, hb⟩
    have HX := Lib.hid (HX.out.below hb)
    have HB := Lib.hid (below_then HB.out HB.out.size hb)
    clear hb c0 c1 c2 c3 c4 c5
    obtain ⟨c0, c1, c2, c3, c4, c5⟩ := HX.out.cells
    simp only at c0 c1 c2 c3 c4 c5
    go_wp2
    go_ret
    exact ⟨rfl, HB.out⟩
  · rw [hr, if_neg (by decide)]
    clear hr
    have HA := Lib.hid (fun Z : World => (apart_c a f (n : Int) (by omega) Z))
    rw [h2] at HA
    have HO := Lib.hid (fun Z : World => (odd_c b HBR.out Z))
    rw [h3] at HO
    have HF := Lib.hid (show ∀ Z : World, Calls Try.prog 51 #[wrV ⟨a, f, p, b, w⟩ (.slice q n c)] Z fun e w' => e = .returned (.bool (fitsWB p w n)) ∧ Below Z.heap.size Z w' from fun Z => fitsWrite_c ⟨a, f, p, b, w⟩ q n c Z)
    rw [h4] at HF
    unfold wrV at HF
    simp only at HF
    clear h2 h3 h4
    obtain ⟨w1, hw1⟩ : ∃ X : World, X = W.alloc (.cells #[.int .i64 a, .int .i64 f, .slice q n c, .int .i64 p, .int .u64 b, .int .i64 w] 34) := ⟨_, rfl⟩
    have HX := Lib.hid (show WrBox w1 W.heap.size ⟨a, f, p, b, w⟩ (.slice q n c) by rw [hw1]; exact World.alloc_heap_new _ _)
    have HB := Lib.hid (show Below W.heap.size W w1 by rw [hw1]; exact below1 _ _)
    obtain ⟨c0, c1, c2, c3, c4, c5⟩ := HX.out.cells
    simp only at c0 c1 c2 c3 c4 c5
    rw [hw1] at c0 c1 c2 c3 c4 c5
    go_enter Try.func27, Try.ntmps27
    go_wp2_with fail
    rw [← hw1]
    clear hw1
    refine (HA.out w1).mono ?_
    rintro e w2 ⟨rfl, hb⟩
    have HX := Lib.hid (HX.out.below hb)
    have HB := Lib.hid (below_then HB.out HB.out.size hb)
    clear hb c0 c1 c2 c3 c4 c5
    obtain ⟨c0, c1, c2, c3, c4, c5⟩ := HX.out.cells
    simp only at c0 c1 c2 c3 c4 c5
    go_wp2_with fail
    refine (HO.out w2).mono ?_
    rintro e w3 ⟨rfl, hb⟩
    have HX := Lib.hid (HX.out.below hb)
    have HB := Lib.hid (below_then HB.out HB.out.size hb)
    clear hb c0 c1 c2 c3 c4 c5
    obtain ⟨c0, c1, c2, c3, c4, c5⟩ := HX.out.cells
    simp only at c0 c1 c2 c3 c4 c5
    go_wp2_with fail
    refine (HF.out w3).mono ?_
    rintro e w4 ⟨rfl, hb⟩
    have HX := Lib.hid (HX.out.below hb)
    have HB := Lib.hid (below_then HB.out HB.out.size hb)
    clear hb c0 c1 c2 c3 c4 c5
    obtain ⟨c0, c1, c2, c3, c4, c5⟩ := HX.out.cells
    simp only at c0 c1 c2 c3 c4 c5
    go_wp2
    go_ret
    exact ⟨rfl, HB.out⟩
  · rw [hr, if_pos rfl]
    clear hr
    have HA := Lib.hid (fun Z : World => (apart_c a f (n : Int) (by omega) Z))
    rw [h2] at HA
    have HO := Lib.hid (fun Z : World => (odd_c b HBR.out Z))
    rw [h3] at HO
    have HF := Lib.hid (show ∀ Z : World, Calls Try.prog 51 #[wrV ⟨a, f, p, b, w⟩ (.slice q n c)] Z fun e w' => e = .returned (.bool (fitsWB p w n)) ∧ Below Z.heap.size Z w' from fun Z => fitsWrite_c ⟨a, f, p, b, w⟩ q n c Z)
    rw [h4] at HF
    unfold wrV at HF
    simp only at HF
    clear h2 h3 h4
    obtain ⟨w1, hw1⟩ : ∃ X : World, X = W.alloc (.cells #[.int .i64 a, .int .i64 f, .slice q n c, .int .i64 p, .int .u64 b, .int .i64 w] 34) := ⟨_, rfl⟩
    have HX := Lib.hid (show WrBox w1 W.heap.size ⟨a, f, p, b, w⟩ (.slice q n c) by rw [hw1]; exact World.alloc_heap_new _ _)
    have HB := Lib.hid (show Below W.heap.size W w1 by rw [hw1]; exact below1 _ _)
    obtain ⟨c0, c1, c2, c3, c4, c5⟩ := HX.out.cells
    simp only at c0 c1 c2 c3 c4 c5
    rw [hw1] at c0 c1 c2 c3 c4 c5
    go_enter Try.func27, Try.ntmps27
    go_wp2_with fail
    rw [← hw1]
    clear hw1
    refine (HA.out w1).mono ?_
    rintro e w2 ⟨rfl, hb⟩
    have HX := Lib.hid (HX.out.below hb)
    have HB := Lib.hid (below_then HB.out HB.out.size hb)
    clear hb c0 c1 c2 c3 c4 c5
    obtain ⟨c0, c1, c2, c3, c4, c5⟩ := HX.out.cells
    simp only at c0 c1 c2 c3 c4 c5
    go_wp2_with fail
    refine (HO.out w2).mono ?_
    rintro e w3 ⟨rfl, hb⟩
    have HX := Lib.hid (HX.out.below hb)
    have HB := Lib.hid (below_then HB.out HB.out.size hb)
    clear hb c0 c1 c2 c3 c4 c5
    obtain ⟨c0, c1, c2, c3, c4, c5⟩ := HX.out.cells
    simp only at c0 c1 c2 c3 c4 c5
    go_wp2_with fail
    refine (HF.out w3).mono ?_
    rintro e w4 ⟨rfl, hb⟩
    have HX := Lib.hid (HX.out.below hb)
    have HB := Lib.hid (below_then HB.out HB.out.size hb)
    clear hb c0 c1 c2 c3 c4 c5
    obtain ⟨c0, c1, c2, c3, c4, c5⟩ := HX.out.cells
    simp only at c0 c1 c2 c3 c4 c5
    go_wp2
    go_ret
    exact ⟨rfl, HB.out⟩

end Go.Proofs.Ythkfjgfhaicfkaa
