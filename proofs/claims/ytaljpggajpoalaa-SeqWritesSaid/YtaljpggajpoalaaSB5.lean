/-
  The document's comparison of reads, of writes: of the same, true.
  Conditions: the ranges of Go's types.
-/
import Derived.Test.YtaljpggajpoalaaSB4
import Derived.BigQuiet
import Derived.Test.YtaljpggajpoalaaSB3
import Derived.Lib.Hide
/-
  The accesses of package seq as a function value: accesses, load, store.
  Conditions: as for an access.
-/
namespace Go.Proofs.Ytaljpggajpoalaa
open Go.RowKit Go.Shelf
attribute [local go_sem] Oper.semAt_some

/-- The function value that makes accesses of the memory that block q points to. -/
def accV (q : Nat) : Value := .func (.func 63) #[] #[.pointer (some ⟨q, 0, none⟩)]
theorem accesses_c (z : Nat) (W : World) : Calls Try.prog 46 #[.pointer (some ⟨z, 0, none⟩)] W fun e w' => (e = .returned (accV W.heap.size) ∧ XBox w' W.heap.size z) ∧ Below W.heap.size W w' := by
  have hx : XBox (W.alloc (.cells #[.pointer (some ⟨z, 0, none⟩)] 90)) W.heap.size z := World.alloc_heap_new _ _
  have HX := Lib.hid hx
  have hb := below1 W (.cells #[.pointer (some ⟨z, 0, none⟩)] 90)
  have HB := Lib.hid hb
  clear hx hb
  go_enter Try.func46, Try.ntmps46
  go_wp2
  go_ret
  exact ⟨⟨rfl, HX.out⟩, HB.out⟩

/-- What a load, a store leaves. -/
def LoadDone (B q z gw gl cw cl : Nat) (ms : List Bool) (r : List Int × Bool × (Int × Bool)) (W : World) (e : Ending) (w' : World) : Prop :=
  e = .returned (.tuple #[.int .u64 r.2.2.1, .bool r.2.2.2]) ∧ AccF B q z gw gl cw cl r.1 ms r.2.1 w' ∧ Keeps (fun k => k = z ∨ k = gw) W w'
def StoreDone (B q z gw gl cw cl : Nat) (ms : List Bool) (r : List Int × Bool × (Int × Bool)) (W : World) (e : Ending) (w' : World) : Prop :=
  e = .returned (.bool r.2.2.2) ∧ AccF B q z gw gl cw cl r.1 ms r.2.1 w' ∧ Keeps (fun k => k = z ∨ k = gw) W w'

set_option maxRecDepth 100000 in
set_option maxHeartbeats 4000000 in
theorem qload_c (B q z gw gl cw cl : Nat) (us : List Int) (ms : List Bool) (u : Bool) (a : Int) (W : World) (hF : AccF B q z gw gl cw cl us ms u W) (hr : rightB us ms = true) (ha : 0 ≤ a) (hm : a ≤ 9223372036854775807) :
    Calls Try.prog 82 #[accV q, .int .i64 a] W fun e w' => LoadDone B q z gw gl cw cl ms (accM us ms u 1 a 0 0) W e w' := by
  have HC := Lib.hid (acc_c B q z gw gl cw cl us ms u 1 a 0 0 W hF hr (by decide) ha hm)
  obtain ⟨⟨us', f', h', d'⟩, hq⟩ : ∃ r, r = accM us ms u 1 a 0 0 := ⟨_, rfl⟩
  rw [← hq] at HC ⊢
  clear hq hF hr ha hm
  unfold accV
  go_enter Try.func82, Try.ntmps82
  go_wp2_with fail
  refine HC.out.mono ?_
  rintro e w1 ⟨rfl, hF1, hk1⟩
  clear HC
  obtain ⟨w2, hw2⟩ : ∃ X : World, X = w1.alloc (.cells #[.int .u64 h', .bool d'] 120) := ⟨_, rfl⟩
  obtain ⟨y, hy⟩ : ∃ y, y = w1.heap.size := ⟨_, rfl⟩
  have hG : GBox w2 y h' d' := by rw [hw2, hy]; exact World.alloc_heap_new _ _
  have hb2 : Below w1.heap.size w1 w2 := by rw [hw2]; exact below1 _ _
  have HF2 := Lib.hid (hF1.below hb2)
  have HK2 := Lib.hid (hk1.trans (Keeps.of_below hb2))
  have HW := Lib.hid (And.intro hw2 hy)
  obtain ⟨⟨hg0, hg1⟩, -, -⟩ := gbox_cells hG
  clear hw2 hy hb2 hG hF1 hk1
  go_upto_region 2 with fail
  rw [← HW.out.1, ← HW.out.2]
  go_quiet (fail)
  go_wp2
  exact bodyPost_ret (v := .tuple #[.int .u64 h', .bool d']) (by simp [results, Try.results82, go_sem]) rfl ⟨rfl, HF2.out.keeps (Keeps.drewN (Keeps.refl (fun _ => False) _) _) (fun h => h) (fun h => h) (fun h => h) (fun h => h), HK2.out.drewN _⟩

set_option maxRecDepth 100000 in
set_option maxHeartbeats 4000000 in
theorem qstore_c (B q z gw gl cw cl : Nat) (us : List Int) (ms : List Bool) (u : Bool) (a n : Int) (W : World) (hF : AccF B q z gw gl cw cl us ms u W) (hr : rightB us ms = true) (ha : 0 ≤ a) (hm : a ≤ 9223372036854775807) :
    Calls Try.prog 85 #[accV q, .int .i64 a, .int .u64 n] W fun e w' => StoreDone B q z gw gl cw cl ms (accM us ms u 2 a 0 n) W e w' := by
  have HC := Lib.hid (acc_c B q z gw gl cw cl us ms u 2 a 0 n W hF hr (by decide) ha hm)
  obtain ⟨⟨us', f', h', d'⟩, hq⟩ : ∃ r, r = accM us ms u 2 a 0 n := ⟨_, rfl⟩
  rw [← hq] at HC ⊢
  clear hq hF hr ha hm
  unfold accV
  go_enter Try.func85, Try.ntmps85
  go_wp2_with fail
  refine HC.out.mono ?_
  rintro e w1 ⟨rfl, hF1, hk1⟩
  have HF1 := Lib.hid hF1
  have HK1 := Lib.hid hk1
  clear HC hF1 hk1
  have hfd : ∀ w, (Instr.field 120 (.agg #[.int .u64 h', .bool d']) 1).run Try.prog w = .ok (.bool d') w := fun _ => by kernel_rfl
  go_wp2
  go_ret
  exact ⟨rfl, HF1.out, HK1.out⟩

end Go.Proofs.Ytaljpggajpoalaa
/-
  Which reads and writes may be: how many values there are by phases.
  Conditions: the ranges of Go's types.
-/
namespace Go.Proofs.Ytaljpggajpoalaa
open Go.RowKit Go.Shelf
attribute [local go_sem] Oper.semAt_some

set_option maxRecDepth 100000 in
set_option maxHeartbeats 4000000 in
theorem fitsRead_c (s : RdM) (q : Option Addr) (n c : Nat) (W : World) : Calls Try.prog 44 #[rdV s (.slice q n c)] W fun e w' => e = .returned (.bool (fitsRB s.p s.t s.m n)) ∧ Below W.heap.size W w' := by
  obtain ⟨a, f, m, p, b, t⟩ := s
  unfold rdV
  simp only
  have hc : (p = 0 ∧ t = 0) ∨ (p = 0 ∧ ¬ t = 0) ∨ p = 2 ∨ p = 3 ∨ p = 4 ∨ p = 5 ∨ (¬ p = 0 ∧ ¬ p = 2 ∧ ¬ p = 3 ∧ ¬ p = 4 ∧ ¬ p = 5) := by omega
  rcases hc with ⟨rfl, rfl⟩ | ⟨rfl, ht⟩ | rfl | rfl | rfl | rfl | ⟨h0, h2, h3, h4, h5⟩
  · have hr : fitsRB 0 0 m n = ((n : Int) == 0) := by unfold fitsRB; rw [if_pos rfl, if_pos rfl, Bool.eq_iff_iff]; simp
    rw [hr]
    clear hr 
    go_enter Try.func44, Try.ntmps44
    go_wp2
    go_ret
    exact ⟨by first | rfl | exact ret_b (by simp) | exact ret_b (by simp; omega), by first | exact Below.refl _ _ | exact below1 _ _ | exact below2 _ _ _ | exact below3 _ _ _ _ | exact below4 _ _ _ _ _⟩
  · have hr : fitsRB 0 t m n = ((n : Int) == m) := by unfold fitsRB; rw [if_pos rfl, if_neg ht, Bool.eq_iff_iff]; simp
    rw [hr]
    have ht2 : (t == 0) = false := by rw [beq_eq_false_iff_ne]; exact ht
    clear hr ht
    go_enter Try.func44, Try.ntmps44
    go_wp2
    go_ret
    exact ⟨by first | rfl | exact ret_b (by simp) | exact ret_b (by simp; omega), by first | exact Below.refl _ _ | exact below1 _ _ | exact below2 _ _ _ | exact below3 _ _ _ _ | exact below4 _ _ _ _ _⟩
  · have hr : fitsRB 2 t m n = decide ((n : Int) < m) := by unfold fitsRB; rw [if_neg (by decide), if_pos rfl]
    rw [hr]
    clear hr 
    go_enter Try.func44, Try.ntmps44
    go_wp2
    go_ret
    exact ⟨by first | rfl | exact ret_b (by simp) | exact ret_b (by simp; omega), by first | exact Below.refl _ _ | exact below1 _ _ | exact below2 _ _ _ | exact below3 _ _ _ _ | exact below4 _ _ _ _ _⟩
  · have hr : fitsRB 3 t m n = ((n : Int) == m) := by unfold fitsRB; rw [if_neg (by decide), if_neg (by decide), if_pos (.inl rfl), Bool.eq_iff_iff]; simp
    rw [hr]
    clear hr 
    go_enter Try.func44, Try.ntmps44
    go_wp2
    go_ret
    exact ⟨by first | rfl | exact ret_b (by simp) | exact ret_b (by simp; omega), by first | exact Below.refl _ _ | exact below1 _ _ | exact below2 _ _ _ | exact below3 _ _ _ _ | exact below4 _ _ _ _ _⟩
  · have hr : fitsRB 4 t m n = ((n : Int) == m) := by unfold fitsRB; rw [if_neg (by decide), if_neg (by decide), if_pos (.inr rfl), Bool.eq_iff_iff]; simp
    rw [hr]
    clear hr 
    go_enter Try.func44, Try.ntmps44
    go_wp2
    go_ret
    exact ⟨by first | rfl | exact ret_b (by simp) | exact ret_b (by simp; omega), by first | exact Below.refl _ _ | exact below1 _ _ | exact below2 _ _ _ | exact below3 _ _ _ _ | exact below4 _ _ _ _ _⟩
  · have hr : fitsRB 5 t m n = decide ((n : Int) ≤ m) := by unfold fitsRB; rw [if_neg (by decide), if_neg (by decide), if_neg (by decide), if_pos rfl]
    rw [hr]
    clear hr 
    go_enter Try.func44, Try.ntmps44
    go_wp2
    go_ret
    exact ⟨by first | rfl | exact ret_b (by simp) | exact ret_b (by simp; omega), by first | exact Below.refl _ _ | exact below1 _ _ | exact below2 _ _ _ | exact below3 _ _ _ _ | exact below4 _ _ _ _ _⟩
  · have hr : fitsRB p t m n = false := by unfold fitsRB; rw [if_neg h0, if_neg h2, if_neg (by omega), if_neg h5]
    rw [hr]
    have g0 : (p == 0) = false := by rw [beq_eq_false_iff_ne]; exact h0
    have g2 : (p == 2) = false := by rw [beq_eq_false_iff_ne]; exact h2
    have g3 : (p == 3) = false := by rw [beq_eq_false_iff_ne]; exact h3
    have g4 : (p == 4) = false := by rw [beq_eq_false_iff_ne]; exact h4
    have g5 : (p == 5) = false := by rw [beq_eq_false_iff_ne]; exact h5
    clear hr h0 h2 h3 h4 h5
    go_enter Try.func44, Try.ntmps44
    go_wp2
    go_ret
    exact ⟨by first | rfl | exact ret_b (by simp) | exact ret_b (by simp; omega), by first | exact Below.refl _ _ | exact below1 _ _ | exact below2 _ _ _ | exact below3 _ _ _ _ | exact below4 _ _ _ _ _⟩

set_option maxRecDepth 100000 in
set_option maxHeartbeats 4000000 in
theorem fitsWrite_c (s : WrM) (q : Option Addr) (n c : Nat) (W : World) : Calls Try.prog 51 #[wrV s (.slice q n c)] W fun e w' => e = .returned (.bool (fitsWB s.p s.w n)) ∧ Below W.heap.size W w' := by
  obtain ⟨a, f, p, b, w⟩ := s
  unfold wrV
  simp only
  have hc : p = 0 ∨ p = 1 ∨ p = 2 ∨ p = 3 ∨ p = 4 ∨ p = 5 ∨ (¬ p = 0 ∧ ¬ p = 1 ∧ ¬ p = 2 ∧ ¬ p = 3 ∧ ¬ p = 4 ∧ ¬ p = 5) := by omega
  rcases hc with rfl | rfl | rfl | rfl | rfl | rfl | ⟨h0, h1, h2, h3, h4, h5⟩
  · have hr : fitsWB 0 w n = (w == 0) := by unfold fitsWB; rw [if_pos (.inl rfl), Bool.eq_iff_iff]; simp
    rw [hr]
    clear hr 
    go_enter Try.func51, Try.ntmps51
    go_wp2
    go_ret
    exact ⟨by first | rfl | exact ret_b (by simp) | exact ret_b (by simp; omega), by first | exact Below.refl _ _ | exact below1 _ _ | exact below2 _ _ _ | exact below3 _ _ _ _ | exact below4 _ _ _ _ _⟩
  · have hr : fitsWB 1 w n = (w == 0) := by unfold fitsWB; rw [if_pos (.inr rfl), Bool.eq_iff_iff]; simp
    rw [hr]
    clear hr 
    go_enter Try.func51, Try.ntmps51
    go_wp2
    go_ret
    exact ⟨by first | rfl | exact ret_b (by simp) | exact ret_b (by simp; omega), by first | exact Below.refl _ _ | exact below1 _ _ | exact below2 _ _ _ | exact below3 _ _ _ _ | exact below4 _ _ _ _ _⟩
  · by_cases hw : 0 ≤ w
    · have hr : fitsWB 2 w n = decide (w < (n : Int)) := by unfold fitsWB; simp [hw]
      rw [hr]
      clear hr
      go_enter Try.func51, Try.ntmps51
      go_wp2
      go_ret
      exact ⟨by first | rfl | exact ret_b (by simp) | exact ret_b (by simp; omega), by first | exact Below.refl _ _ | exact below1 _ _ | exact below2 _ _ _ | exact below3 _ _ _ _ | exact below4 _ _ _ _ _⟩
    · have hr : fitsWB 2 w n = false := by unfold fitsWB; simp [hw]
      rw [hr]
      clear hr
      go_enter Try.func51, Try.ntmps51
      go_wp2
      go_ret
      exact ⟨by first | rfl | exact ret_b (by simp) | exact ret_b (by simp; omega), by first | exact Below.refl _ _ | exact below1 _ _ | exact below2 _ _ _ | exact below3 _ _ _ _ | exact below4 _ _ _ _ _⟩
  · have hr : fitsWB 3 w n = (w == (n : Int)) := by unfold fitsWB; rw [if_neg (by decide), if_neg (by decide), if_pos (.inl rfl), Bool.eq_iff_iff]; simp
    rw [hr]
    clear hr 
    go_enter Try.func51, Try.ntmps51
    go_wp2
    go_ret
    exact ⟨by first | rfl | exact ret_b (by simp) | exact ret_b (by simp; omega), by first | exact Below.refl _ _ | exact below1 _ _ | exact below2 _ _ _ | exact below3 _ _ _ _ | exact below4 _ _ _ _ _⟩
  · have hr : fitsWB 4 w n = (w == (n : Int)) := by unfold fitsWB; rw [if_neg (by decide), if_neg (by decide), if_pos (.inr rfl), Bool.eq_iff_iff]; simp
    rw [hr]
    clear hr 
    go_enter Try.func51, Try.ntmps51
    go_wp2
    go_ret
    exact ⟨by first | rfl | exact ret_b (by simp) | exact ret_b (by simp; omega), by first | exact Below.refl _ _ | exact below1 _ _ | exact below2 _ _ _ | exact below3 _ _ _ _ | exact below4 _ _ _ _ _⟩
  · by_cases hw : 0 ≤ w
    · have hr : fitsWB 5 w n = decide (w ≤ (n : Int)) := by unfold fitsWB; simp [hw]
      rw [hr]
      clear hr
      go_enter Try.func51, Try.ntmps51
      go_wp2
      go_ret
      exact ⟨by first | rfl | exact ret_b (by simp) | exact ret_b (by simp; omega), by first | exact Below.refl _ _ | exact below1 _ _ | exact below2 _ _ _ | exact below3 _ _ _ _ | exact below4 _ _ _ _ _⟩
    · have hr : fitsWB 5 w n = false := by unfold fitsWB; simp [hw]
      rw [hr]
      clear hr
      go_enter Try.func51, Try.ntmps51
      go_wp2
      go_ret
      exact ⟨by first | rfl | exact ret_b (by simp) | exact ret_b (by simp; omega), by first | exact Below.refl _ _ | exact below1 _ _ | exact below2 _ _ _ | exact below3 _ _ _ _ | exact below4 _ _ _ _ _⟩
  · have hr : fitsWB p w n = false := by unfold fitsWB; rw [if_neg (by omega), if_neg h2, if_neg (by omega), if_neg h5]
    rw [hr]
    have g0 : (p == 0) = false := by rw [beq_eq_false_iff_ne]; exact h0
    have g1 : (p == 1) = false := by rw [beq_eq_false_iff_ne]; exact h1
    have g2 : (p == 2) = false := by rw [beq_eq_false_iff_ne]; exact h2
    have g3 : (p == 3) = false := by rw [beq_eq_false_iff_ne]; exact h3
    have g4 : (p == 4) = false := by rw [beq_eq_false_iff_ne]; exact h4
    have g5 : (p == 5) = false := by rw [beq_eq_false_iff_ne]; exact h5
    clear hr h0 h1 h2 h3 h4 h5
    go_enter Try.func51, Try.ntmps51
    go_wp2
    go_ret
    exact ⟨by first | rfl | exact ret_b (by simp) | exact ret_b (by simp; omega), by first | exact Below.refl _ _ | exact below1 _ _ | exact below2 _ _ _ | exact below3 _ _ _ _ | exact below4 _ _ _ _ _⟩

end Go.Proofs.Ytaljpggajpoalaa
/-
  Which reads and writes may be: CheckRead and CheckWrite.
  Conditions: the ranges of Go's types.
-/
namespace Go.Proofs.Ytaljpggajpoalaa
open Go.RowKit Go.Shelf
attribute [local go_sem] Oper.semAt_some

/-- Block z is a variable that holds a read. -/
def RdBox (w : World) (z : Nat) (s : RdM) (v : Value) : Prop := w.heap[z]? = some (.cells #[.int .i64 s.a, .int .i64 s.f, .int .i64 s.m, .int .i64 s.p, .int .u64 s.b, v, .int .i64 s.t] 29 (0, 0))
theorem RdBox.lt {w : World} {z : Nat} {s : RdM} {v : Value} (h : RdBox w z s v) : z < w.heap.size := (Array.getElem?_eq_some_iff.1 h).1
theorem RdBox.below {w w' : World} {z : Nat} {s : RdM} {v : Value} (h : RdBox w z s v) (hb : Below w.heap.size w w') : RdBox w' z s v := (hb.block z h.lt).trans h
theorem RdBox.cells {w : World} {z : Nat} {s : RdM} {v : Value} (h : RdBox w z s v) : w.cell? ⟨z, 0, none⟩ = some (.int .i64 s.a) ∧ w.cell? ⟨z, 1, none⟩ = some (.int .i64 s.f) ∧ w.cell? ⟨z, 2, none⟩ = some (.int .i64 s.m) ∧ w.cell? ⟨z, 3, none⟩ = some (.int .i64 s.p) ∧ w.cell? ⟨z, 4, none⟩ = some (.int .u64 s.b) ∧ w.cell? ⟨z, 5, none⟩ = some v ∧ w.cell? ⟨z, 6, none⟩ = some (.int .i64 s.t) := by
  have h' : w.heap[z]? = _ := h
  simp [World.cell?, h']
/-- Block z is a variable that holds a write. -/
def WrBox (w : World) (z : Nat) (s : WrM) (v : Value) : Prop := w.heap[z]? = some (.cells #[.int .i64 s.a, .int .i64 s.f, v, .int .i64 s.p, .int .u64 s.b, .int .i64 s.w] 34 (0, 0))
theorem WrBox.lt {w : World} {z : Nat} {s : WrM} {v : Value} (h : WrBox w z s v) : z < w.heap.size := (Array.getElem?_eq_some_iff.1 h).1
theorem WrBox.below {w w' : World} {z : Nat} {s : WrM} {v : Value} (h : WrBox w z s v) (hb : Below w.heap.size w w') : WrBox w' z s v := (hb.block z h.lt).trans h
theorem WrBox.cells {w : World} {z : Nat} {s : WrM} {v : Value} (h : WrBox w z s v) : w.cell? ⟨z, 0, none⟩ = some (.int .i64 s.a) ∧ w.cell? ⟨z, 1, none⟩ = some (.int .i64 s.f) ∧ w.cell? ⟨z, 2, none⟩ = some v ∧ w.cell? ⟨z, 3, none⟩ = some (.int .i64 s.p) ∧ w.cell? ⟨z, 4, none⟩ = some (.int .u64 s.b) ∧ w.cell? ⟨z, 5, none⟩ = some (.int .i64 s.w) := by
  have h' : w.heap[z]? = _ := h
  simp [World.cell?, h']

set_option maxRecDepth 100000 in
set_option maxHeartbeats 4000000 in
theorem checkRead_c (s : RdM) (q : Option Addr) (n c : Nat) (hb : 0 ≤ s.b ∧ s.b ≤ 18446744073709551615) (W : World) : Calls Try.prog 20 #[rdV s (.slice q n c)] W fun e w' => e = .returned (.int .i64 (if rightRB s n = true then 0 else 160)) ∧ Below W.heap.size W w' := by
  obtain ⟨a, f, m, p, b, t⟩ := s
  simp only at hb
  have HBR := Lib.hid hb
  unfold rdV
  simp only
  have hc : (m < 0 ∧ rightRB ⟨a, f, m, p, b, t⟩ n = false) ∨ (0 ≤ m ∧ 16 < m ∧ rightRB ⟨a, f, m, p, b, t⟩ n = false) ∨ (0 ≤ m ∧ m ≤ 16 ∧ apartB a f m = false ∧ rightRB ⟨a, f, m, p, b, t⟩ n = false) ∨ (0 ≤ m ∧ m ≤ 16 ∧ apartB a f m = true ∧ (!decide (b % 2 = 0)) = true ∧ rightRB ⟨a, f, m, p, b, t⟩ n = false) ∨
      (0 ≤ m ∧ m ≤ 16 ∧ apartB a f m = true ∧ (!decide (b % 2 = 0)) = false ∧ t < 0 ∧ rightRB ⟨a, f, m, p, b, t⟩ n = false) ∨ (0 ≤ m ∧ m ≤ 16 ∧ apartB a f m = true ∧ (!decide (b % 2 = 0)) = false ∧ 0 ≤ t ∧ 1073741824 < t ∧ rightRB ⟨a, f, m, p, b, t⟩ n = false) ∨
      (0 ≤ m ∧ m ≤ 16 ∧ apartB a f m = true ∧ (!decide (b % 2 = 0)) = false ∧ 0 ≤ t ∧ t ≤ 1073741824 ∧ fitsRB p t m n = false ∧ rightRB ⟨a, f, m, p, b, t⟩ n = false) ∨ (0 ≤ m ∧ m ≤ 16 ∧ apartB a f m = true ∧ (!decide (b % 2 = 0)) = false ∧ 0 ≤ t ∧ t ≤ 1073741824 ∧ fitsRB p t m n = true ∧ rightRB ⟨a, f, m, p, b, t⟩ n = true) := by
    unfold rightRB
    simp only
    cases apartB a f m <;> cases fitsRB p t m n <;> simp <;> omega
  clear hb
  rcases hc with ⟨h0, hr⟩ | ⟨h0, h1, hr⟩ | ⟨h0, h1, h2, hr⟩ | ⟨h0, h1, h2, h3, hr⟩ | ⟨h0, h1, h2, h3, h4, hr⟩ | ⟨h0, h1, h2, h3, h4, h5, hr⟩ | ⟨h0, h1, h2, h3, h4, h5, h6, hr⟩ | ⟨h0, h1, h2, h3, h4, h5, h6, hr⟩
  · rw [hr, if_neg (by decide)]
    clear hr
    obtain ⟨w1, hw1⟩ : ∃ X : World, X = W.alloc (.cells #[.int .i64 a, .int .i64 f, .int .i64 m, .int .i64 p, .int .u64 b, .slice q n c, .int .i64 t] 29) := ⟨_, rfl⟩
    have HX := Lib.hid (show RdBox w1 W.heap.size ⟨a, f, m, p, b, t⟩ (.slice q n c) by rw [hw1]; exact World.alloc_heap_new _ _)
    have HB := Lib.hid (show Below W.heap.size W w1 by rw [hw1]; exact below1 _ _)
    obtain ⟨c0, c1, c2, c3, c4, c5, c6⟩ := HX.out.cells
    simp only at c0 c1 c2 c3 c4 c5 c6
    rw [hw1] at c0 c1 c2 c3 c4 c5 c6
    go_enter Try.func20, Try.ntmps20
    go_wp2
    rw [← hw1]
    clear hw1 c0 c1 c2 c3 c4 c5 c6
    go_ret
    exact ⟨rfl, HB.out⟩
  · rw [hr, if_neg (by decide)]
    clear hr
    obtain ⟨w1, hw1⟩ : ∃ X : World, X = W.alloc (.cells #[.int .i64 a, .int .i64 f, .int .i64 m, .int .i64 p, .int .u64 b, .slice q n c, .int .i64 t] 29) := ⟨_, rfl⟩
    have HX := Lib.hid (show RdBox w1 W.heap.size ⟨a, f, m, p, b, t⟩ (.slice q n c) by rw [hw1]; exact World.alloc_heap_new _ _)
    have HB := Lib.hid (show Below W.heap.size W w1 by rw [hw1]; exact below1 _ _)
    obtain ⟨c0, c1, c2, c3, c4, c5, c6⟩ := HX.out.cells
    simp only at c0 c1 c2 c3 c4 c5 c6
    rw [hw1] at c0 c1 c2 c3 c4 c5 c6
    go_enter Try.func20, Try.ntmps20
    go_wp2
    rw [← hw1]
    clear hw1 c0 c1 c2 c3 c4 c5 c6
    go_ret
    exact ⟨rfl, HB.out⟩
  · rw [hr, if_neg (by decide)]
    clear hr
    have HA := Lib.hid (fun Z : World => (apart_c a f m (by omega) Z))
    rw [h2] at HA
    clear h2
    obtain ⟨w1, hw1⟩ : ∃ X : World, X = W.alloc (.cells #[.int .i64 a, .int .i64 f, .int .i64 m, .int .i64 p, .int .u64 b, .slice q n c, .int .i64 t] 29) := ⟨_, rfl⟩
    have HX := Lib.hid (show RdBox w1 W.heap.size ⟨a, f, m, p, b, t⟩ (.slice q n c) by rw [hw1]; exact World.alloc_heap_new _ _)
    have HB := Lib.hid (show Below W.heap.size W w1 by rw [hw1]; exact below1 _ _)
    obtain ⟨c0, c1, c2, c3, c4, c5, c6⟩ := HX.out.cells
    simp only at c0 c1 c2 c3 c4 c5 c6
    rw [hw1] at c0 c1 c2 c3 c4 c5 c6
    go_enter Try.func20, Try.ntmps20
    go_wp2_with fail
    rw [← hw1]
    clear hw1
    refine (HA.out w1).mono ?_
    rintro e w2 ⟨rfl, hb⟩
    have HX := Lib.hid (HX.out.below hb)
    have HB := Lib.hid (below_then HB.out HB.out.size hb)
    clear hb c0 c1 c2 c3 c4 c5 c6
    obtain ⟨c0, c1, c2, c3, c4, c5, c6⟩ := HX.out.cells
    simp only at c0 c1 c2 c3 c4 c5 c6
    go_wp2
    go_ret
    exact ⟨rfl, HB.out⟩
  · rw [hr, if_neg (by decide)]
    clear hr
    have HA := Lib.hid (fun Z : World => (apart_c a f m (by omega) Z))
    rw [h2] at HA
    have HO := Lib.hid (fun Z : World => (odd_c b HBR.out Z))
    rw [h3] at HO
    clear h2 h3
    obtain ⟨w1, hw1⟩ : ∃ X : World, X = W.alloc (.cells #[.int .i64 a, .int .i64 f, .int .i64 m, .int .i64 p, .int .u64 b, .slice q n c, .int .i64 t] 29) := ⟨_, rfl⟩
    have HX := Lib.hid (show RdBox w1 W.heap.size ⟨a, f, m, p, b, t⟩ (.slice q n c) by rw [hw1]; exact World.alloc_heap_new _ _)
    have HB := Lib.hid (show Below W.heap.size W w1 by rw [hw1]; exact below1 _ _)
    obtain ⟨c0, c1, c2, c3, c4, c5, c6⟩ := HX.out.cells
    simp only at c0 c1 c2 c3 c4 c5 c6
    rw [hw1] at c0 c1 c2 c3 c4 c5 c6
    go_enter Try.func20, Try.ntmps20
    go_wp2_with fail
    rw [← hw1]
    clear hw1
    refine (HA.out w1).mono ?_
    rintro e w2 ⟨rfl, hb⟩
    have HX := Lib.hid (HX.out.below hb)
    have HB := Lib.hid (below_then HB.out HB.out.size hb)
    clear hb c0 c1 c2 c3 c4 c5 c6
    obtain ⟨c0, c1, c2, c3, c4, c5, c6⟩ := HX.out.cells
    simp only at c0 c1 c2 c3 c4 c5 c6
    go_wp2_with fail
    refine (HO.out w2).mono ?_
    rintro e w3 ⟨rfl, hb⟩
    have HX := Lib.hid (HX.out.below hb)
    have HB := Lib.hid (below_then HB.out HB.out.size hb)
    clear hb c0 c1 c2 c3 c4 c5 c6
    obtain ⟨c0, c1, c2, c3, c4, c5, c6⟩ := HX.out.cells
    simp only at c0 c1 c2 c3 c4 c5 c6
    go_wp2
    go_ret
    exact ⟨rfl, HB.out⟩
  · rw [hr, if_neg (by decide)]
    clear hr
    have HA := Lib.hid (fun Z : World => (apart_c a f m (by omega) Z))
    rw [h2] at HA
    have HO := Lib.hid (fun Z : World => (odd_c b HBR.out Z))
    rw [h3] at HO
    clear h2 h3
    obtain ⟨w1, hw1⟩ : ∃ X : World, X = W.alloc (.cells #[.int .i64 a, .int .i64 f, .int .i64 m, .int .i64 p, .int .u64 b, .slice q n c, .int .i64 t] 29) := ⟨_, rfl⟩
    have HX := Lib.hid (show RdBox w1 W.heap.size ⟨a, f, m, p, b, t⟩ (.slice q n c) by rw [hw1]; exact World.alloc_heap_new _ _)
    have HB := Lib.hid (show Below W.heap.size W w1 by rw [hw1]; exact below1 _ _)
    obtain ⟨c0, c1, c2, c3, c4, c5, c6⟩ := HX.out.cells
    simp only at c0 c1 c2 c3 c4 c5 c6
    rw [hw1] at c0 c1 c2 c3 c4 c5 c6
    go_enter Try.func20, Try.ntmps20
    go_wp2_with fail
    rw [← hw1]
    clear hw1
    refine (HA.out w1).mono ?_
    rintro e w2 ⟨rfl, hb⟩
    have HX := Lib.hid (HX.out.below hb)
    have HB := Lib.hid (below_then HB.out HB.out.size hb)
    clear hb c0 c1 c2 c3 c4 c5 c6
    obtain ⟨c0, c1, c2, c3, c4, c5, c6⟩ := HX.out.cells
    simp only at c0 c1 c2 c3 c4 c5 c6
    go_wp2_with fail
    refine (HO.out w2).mono ?_
    rintro e w3 ⟨rfl, hb⟩
    have HX := Lib.hid (HX.out.below hb)
    have HB := Lib.hid (below_then HB.out HB.out.size hb)
    clear hb c0 c1 c2 c3 c4 c5 c6
    obtain ⟨c0, c1, c2, c3, c4, c5, c6⟩ := HX.out.cells
    simp only at c0 c1 c2 c3 c4 c5 c6
    go_wp2
    go_ret
    exact ⟨rfl, HB.out⟩
  · rw [hr, if_neg (by decide)]
    clear hr
    have HA := Lib.hid (fun Z : World => (apart_c a f m (by omega) Z))
    rw [h2] at HA
    have HO := Lib.hid (fun Z : World => (odd_c b HBR.out Z))
    rw [h3] at HO
    clear h2 h3
    obtain ⟨w1, hw1⟩ : ∃ X : World, X = W.alloc (.cells #[.int .i64 a, .int .i64 f, .int .i64 m, .int .i64 p, .int .u64 b, .slice q n c, .int .i64 t] 29) := ⟨_, rfl⟩
    have HX := Lib.hid (show RdBox w1 W.heap.size ⟨a, f, m, p, b, t⟩ (.slice q n c) by rw [hw1]; exact World.alloc_heap_new _ _)
    have HB := Lib.hid (show Below W.heap.size W w1 by rw [hw1]; exact below1 _ _)
    obtain ⟨c0, c1, c2, c3, c4, c5, c6⟩ := HX.out.cells
    simp only at c0 c1 c2 c3 c4 c5 c6
    rw [hw1] at c0 c1 c2 c3 c4 c5 c6
    go_enter Try.func20, Try.ntmps20
    go_wp2_with fail
    rw [← hw1]
    clear hw1
    refine (HA.out w1).mono ?_
    rintro e w2 ⟨rfl, hb⟩
    have HX := Lib.hid (HX.out.below hb)
    have HB := Lib.hid (below_then HB.out HB.out.size hb)
    clear hb c0 c1 c2 c3 c4 c5 c6
    obtain ⟨c0, c1, c2, c3, c4, c5, c6⟩ := HX.out.cells
    simp only at c0 c1 c2 c3 c4 c5 c6
    go_wp2_with fail
    refine (HO.out w2).mono ?_
    rintro e w3 ⟨rfl, hb⟩
    have HX := Lib.hid (HX.out.below hb)
    have HB := Lib.hid (below_then HB.out HB.out.size hb)
    clear hb c0 c1 c2 c3 c4 c5 c6
    obtain ⟨c0, c1, c2, c3, c4, c5, c6⟩ := HX.out.cells
    simp only at c0 c1 c2 c3 c4 c5 c6
    go_wp2
    go_ret
    exact ⟨rfl, HB.out⟩
  · rw [hr, if_neg (by decide)]
    clear hr
    have HA := Lib.hid (fun Z : World => (apart_c a f m (by omega) Z))
    rw [h2] at HA
    have HO := Lib.hid (fun Z : World => (odd_c b HBR.out Z))
    rw [h3] at HO
    have HF := Lib.hid (show ∀ Z : World, Calls Try.prog 44 #[rdV ⟨a, f, m, p, b, t⟩ (.slice q n c)] Z fun e w' => e = .returned (.bool (fitsRB p t m n)) ∧ Below Z.heap.size Z w' from fun Z => fitsRead_c ⟨a, f, m, p, b, t⟩ q n c Z)
    rw [h6] at HF
    unfold rdV at HF
    simp only at HF
    clear h2 h3 h6
    obtain ⟨w1, hw1⟩ : ∃ X : World, X = W.alloc (.cells #[.int .i64 a, .int .i64 f, .int .i64 m, .int .i64 p, .int .u64 b, .slice q n c, .int .i64 t] 29) := ⟨_, rfl⟩
    have HX := Lib.hid (show RdBox w1 W.heap.size ⟨a, f, m, p, b, t⟩ (.slice q n c) by rw [hw1]; exact World.alloc_heap_new _ _)
    have HB := Lib.hid (show Below W.heap.size W w1 by rw [hw1]; exact below1 _ _)
    obtain ⟨c0, c1, c2, c3, c4, c5, c6⟩ := HX.out.cells
    simp only at c0 c1 c2 c3 c4 c5 c6
    rw [hw1] at c0 c1 c2 c3 c4 c5 c6
    go_enter Try.func20, Try.ntmps20
    go_wp2_with fail
    rw [← hw1]
    clear hw1
    refine (HA.out w1).mono ?_
    rintro e w2 ⟨rfl, hb⟩
    have HX := Lib.hid (HX.out.below hb)
    have HB := Lib.hid (below_then HB.out HB.out.size hb)
    clear hb c0 c1 c2 c3 c4 c5 c6
    obtain ⟨c0, c1, c2, c3, c4, c5, c6⟩ := HX.out.cells
    simp only at c0 c1 c2 c3 c4 c5 c6
    go_wp2_with fail
    refine (HO.out w2).mono ?_
    rintro e w3 ⟨rfl, hb⟩
    have HX := Lib.hid (HX.out.below hb)
    have HB := Lib.hid (below_then HB.out HB.out.size hb)
    clear hb c0 c1 c2 c3 c4 c5 c6
    obtain ⟨c0, c1, c2, c3, c4, c5, c6⟩ := HX.out.cells
    simp only at c0 c1 c2 c3 c4 c5 c6
    go_wp2_with fail
    refine (HF.out w3).mono ?_
    rintro e w4 ⟨rfl, hb⟩
    have HX := Lib.hid (HX.out.below hb)
    have HB := Lib.hid (below_then HB.out HB.out.size hb)
    clear hb c0 c1 c2 c3 c4 c5 c6
    obtain ⟨c0, c1, c2, c3, c4, c5, c6⟩ := HX.out.cells
    simp only at c0 c1 c2 c3 c4 c5 c6
    go_wp2
    go_ret
    exact ⟨rfl, HB.out⟩
  · rw [hr, if_pos rfl]
    clear hr
    have HA := Lib.hid (fun Z : World => (apart_c a f m (by omega) Z))
    rw [h2] at HA
    have HO := Lib.hid (fun Z : World => (odd_c b HBR.out Z))
    rw [h3] at HO
    have HF := Lib.hid (show ∀ Z : World, Calls Try.prog 44 #[rdV ⟨a, f, m, p, b, t⟩ (.slice q n c)] Z fun e w' => e = .returned (.bool (fitsRB p t m n)) ∧ Below Z.heap.size Z w' from fun Z => fitsRead_c ⟨a, f, m, p, b, t⟩ q n c Z)
    rw [h6] at HF
    unfold rdV at HF
    simp only at HF
    clear h2 h3 h6
    obtain ⟨w1, hw1⟩ : ∃ X : World, X = W.alloc (.cells #[.int .i64 a, .int .i64 f, .int .i64 m, .int .i64 p, .int .u64 b, .slice q n c, .int .i64 t] 29) := ⟨_, rfl⟩
    have HX := Lib.hid (show RdBox w1 W.heap.size ⟨a, f, m, p, b, t⟩ (.slice q n c) by rw [hw1]; exact World.alloc_heap_new _ _)
    have HB := Lib.hid (show Below W.heap.size W w1 by rw [hw1]; exact below1 _ _)
    obtain ⟨c0, c1, c2, c3, c4, c5, c6⟩ := HX.out.cells
    simp only at c0 c1 c2 c3 c4 c5 c6
    rw [hw1] at c0 c1 c2 c3 c4 c5 c6
    go_enter Try.func20, Try.ntmps20
    go_wp2_with fail
    rw [← hw1]
    clear hw1
    refine (HA.out w1).mono ?_
    rintro e w2 ⟨rfl, hb⟩
    have HX := Lib.hid (HX.out.below hb)
    have HB := Lib.hid (below_then HB.out HB.out.size hb)
    clear hb c0 c1 c2 c3 c4 c5 c6
    obtain ⟨c0, c1, c2, c3, c4, c5, c6⟩ := HX.out.cells
    simp only at c0 c1 c2 c3 c4 c5 c6
    go_wp2_with fail
    refine (HO.out w2).mono ?_
    rintro e w3 ⟨rfl, hb⟩
    have HX := Lib.hid (HX.out.below hb)
    have HB := Lib.hid (below_then HB.out HB.out.size hb)
    clear hb c0 c1 c2 c3 c4 c5 c6
    obtain ⟨c0, c1, c2, c3, c4, c5, c6⟩ := HX.out.cells
    simp only at c0 c1 c2 c3 c4 c5 c6
    go_wp2_with fail
    refine (HF.out w3).mono ?_
    rintro e w4 ⟨rfl, hb⟩
    have HX := Lib.hid (HX.out.below hb)
    have HB := Lib.hid (below_then HB.out HB.out.size hb)
    clear hb c0 c1 c2 c3 c4 c5 c6
    obtain ⟨c0, c1, c2, c3, c4, c5, c6⟩ := HX.out.cells
    simp only at c0 c1 c2 c3 c4 c5 c6
    go_wp2
    go_ret
    exact ⟨rfl, HB.out⟩

set_option maxRecDepth 100000 in
set_option maxHeartbeats 4000000 in
theorem checkWrite_c (s : WrM) (q : Option Addr) (n c : Nat) (hb : 0 ≤ s.b ∧ s.b ≤ 18446744073709551615) (W : World) : Calls Try.prog 27 #[wrV s (.slice q n c)] W fun e w' => e = .returned (.int .i64 (if rightWB s n = true then 0 else 160)) ∧ Below W.heap.size W w' := by
  obtain ⟨a, f, p, b, w⟩ := s
  simp only at hb
  have HBR := Lib.hid hb
  unfold wrV
  simp only
  have hc : (n < 1 ∧ rightWB ⟨a, f, p, b, w⟩ n = false) ∨ (1 ≤ n ∧ 16 < n ∧ rightWB ⟨a, f, p, b, w⟩ n = false) ∨ (1 ≤ n ∧ n ≤ 16 ∧ apartB a f (n : Int) = false ∧ rightWB ⟨a, f, p, b, w⟩ n = false) ∨ (1 ≤ n ∧ n ≤ 16 ∧ apartB a f (n : Int) = true ∧ (!decide (b % 2 = 0)) = true ∧ rightWB ⟨a, f, p, b, w⟩ n = false) ∨
      (1 ≤ n ∧ n ≤ 16 ∧ apartB a f (n : Int) = true ∧ (!decide (b % 2 = 0)) = false ∧ fitsWB p w n = false ∧ rightWB ⟨a, f, p, b, w⟩ n = false) ∨ (1 ≤ n ∧ n ≤ 16 ∧ apartB a f (n : Int) = true ∧ (!decide (b % 2 = 0)) = false ∧ fitsWB p w n = true ∧ rightWB ⟨a, f, p, b, w⟩ n = true) := by
    unfold rightWB
    simp only
    cases apartB a f (n : Int) <;> cases fitsWB p w n <;> simp <;> omega
  clear hb
  rcases hc with ⟨h0, hr⟩ | ⟨h0, h1, hr⟩ | ⟨h0, h1, h2, hr⟩ | ⟨h0, h1, h2, h3, hr⟩ | ⟨h0, h1, h2, h3, h4, hr⟩ | ⟨h0, h1, h2, h3, h4, hr⟩
  · rw [hr, if_neg (by decide)]
    clear hr
    obtain ⟨w1, hw1⟩ : ∃ X : World, X = W.alloc (.cells #[.int .i64 a, .int .i64 f, .slice q n c, .int .i64 p, .int .u64 b, .int .i64 w] 34) := ⟨_, rfl⟩
    have HX := Lib.hid (show WrBox w1 W.heap.size ⟨a, f, p, b, w⟩ (.slice q n c) by rw [hw1]; exact World.alloc_heap_new _ _)
    have HB := Lib.hid (show Below W.heap.size W w1 by rw [hw1]; exact below1 _ _)
    obtain ⟨c0, c1, c2, c3, c4, c5⟩ := HX.out.cells
    simp only at c0 c1 c2 c3 c4 c5
    rw [hw1] at c0 c1 c2 c3 c4 c5
    go_enter Try.func27, Try.ntmps27
    go_wp2
    rw [← hw1]
    clear hw1 c0 c1 c2 c3 c4 c5
    go_ret
    exact ⟨rfl, HB.out⟩
  · rw [hr, if_neg (by decide)]
    clear hr
    obtain ⟨w1, hw1⟩ : ∃ X : World, X = W.alloc (.cells #[.int .i64 a, .int .i64 f, .slice q n c, .int .i64 p, .int .u64 b, .int .i64 w] 34) := ⟨_, rfl⟩
    have HX := Lib.hid (show WrBox w1 W.heap.size ⟨a, f, p, b, w⟩ (.slice q n c) by rw [hw1]; exact World.alloc_heap_new _ _)
    have HB := Lib.hid (show Below W.heap.size W w1 by rw [hw1]; exact below1 _ _)
    obtain ⟨c0, c1, c2, c3, c4, c5⟩ := HX.out.cells
    simp only at c0 c1 c2 c3 c4 c5
    rw [hw1] at c0 c1 c2 c3 c4 c5
    go_enter Try.func27, Try.ntmps27
    go_wp2
    rw [← hw1]
    clear hw1 c0 c1 c2 c3 c4 c5
    go_ret
    exact ⟨rfl, HB.out⟩
  · rw [hr, if_neg (by decide)]
    clear hr
    have HA := Lib.hid (fun Z : World => (apart_c a f (n : Int) (by omega) Z))
    rw [h2] at HA
    clear h2
    obtain ⟨w1, hw1⟩ : ∃ X : World, X = W.alloc (.cells #[.int .i64 a, .int .i64 f, .slice q n c, .int .i64 p, .int .u64 b, .int .i64 w] 34) := ⟨_, rfl⟩
    have HX := Lib.hid (show WrBox w1 W.heap.size ⟨a, f, p, b, w⟩ (.slice q n c) by rw [hw1]; exact World.alloc_heap_new _ _)
    have HB := Lib.hid (show Below W.heap.size W w1 by rw [hw1]; exact below1 _ _)
    obtain ⟨c0, c1, c2, c3, c4, c5⟩ := HX.out.cells
    simp only at c0 c1 c2 c3 c4 c5
    rw [hw1] at c0 c1 c2 c3 c4 c5
    go_enter Try.func27, Try.ntmps27
    go_wp2_with fail
    rw [← hw1]
    clear hw1
    refine (HA.out w1).mono ?_
    rintro e w2 ⟨rfl, hb⟩
    have HX := Lib.hid (HX.out.below hb)
    have HB := Lib.hid (below_then HB.out HB.out.size hb)
    clear hb c0 c1 c2 c3 c4 c5
    obtain ⟨c0, c1, c2, c3, c4, c5⟩ := HX.out.cells
    simp only at c0 c1 c2 c3 c4 c5
    go_wp2
    go_ret
    exact ⟨rfl, HB.out⟩
  · rw [hr, if_neg (by decide)]
    clear hr
    have HA := Lib.hid (fun Z : World => (apart_c a f (n : Int) (by omega) Z))
    rw [h2] at HA
    have HO := Lib.hid (fun Z : World => (odd_c b HBR.out Z))
    rw [h3] at HO
    clear h2 h3
    obtain ⟨w1, hw1⟩ : ∃ X : World, X = W.alloc (.cells #[.int .i64 a, .int .i64 f, .slice q n c, .int .i64 p, .int .u64 b, .int .i64 w] 34) := ⟨_, rfl⟩
    have HX := Lib.hid (show WrBox w1 W.heap.size ⟨a, f, p, b, w⟩ (.slice q n c) by rw [hw1]; exact World.alloc_heap_new _ _)
    have HB := Lib.hid (show Below W.heap.size W w1 by rw [hw1]; exact below1 _ _)
    obtain ⟨c0, c1, c2, c3, c4, c5⟩ := HX.out.cells
    simp only at c0 c1 c2 c3 c4 c5
    rw [hw1] at c0 c1 c2 c3 c4 c5
    go_enter Try.func27, Try.ntmps27
    go_wp2_with fail
    rw [← hw1]
    clear hw1
    refine (HA.out w1).mono ?_
    rintro e w2 ⟨rfl, hb⟩
    have HX := Lib.hid (HX.out.below hb)
    have HB := Lib.hid (below_then HB.out HB.out.size hb)
    clear hb c0 c1 c2 c3 c4 c5
    obtain ⟨c0, c1, c2, c3, c4, c5⟩ := HX.out.cells
    simp only at c0 c1 c2 c3 c4 c5
    go_wp2_with fail
    refine (HO.out w2).mono ?_
    rintro e w3 ⟨rfl, hb⟩
    have HX := Lib.hid (HX.out.below hb)
    have HB := Lib.hid (below_then HB.out HB.out.size hb)
    clear hb c0 c1 c2 c3 c4 c5
    obtain ⟨c0, c1, c2, c3, c4, c5⟩ := HX.out.cells
    simp only at c0 c1 c2 c3 c4 c5
    go_wp2
    go_ret
    exact ⟨rfl, HB.out⟩
  · rw [hr, if_neg (by decide)]
    clear hr
    have HA := Lib.hid (fun Z : World => (apart_c a f (n : Int) (by omega) Z))
    rw [h2] at HA
    have HO := Lib.hid (fun Z : World => (odd_c b HBR.out Z))
    rw [h3] at HO
    have HF := Lib.hid (show ∀ Z : World, Calls Try.prog 51 #[wrV ⟨a, f, p, b, w⟩ (.slice q n c)] Z fun e w' => e = .returned (.bool (fitsWB p w n)) ∧ Below Z.heap.size Z w' from fun Z => fitsWrite_c ⟨a, f, p, b, w⟩ q n c Z)
    rw [h4] at HF
    unfold wrV at HF
    simp only at HF
    clear h2 h3 h4
    obtain ⟨w1, hw1⟩ : ∃ X : World, X = W.alloc (.cells #[.int .i64 a, .int .i64 f, .slice q n c, .int .i64 p, .int .u64 b, .int .i64 w] 34) := ⟨_, rfl⟩
    have HX := Lib.hid (show WrBox w1 W.heap.size ⟨a, f, p, b, w⟩ (.slice q n c) by rw [hw1]; exact World.alloc_heap_new _ _)
    have HB := Lib.hid (show Below W.heap.size W w1 by rw [hw1]; exact below1 _ _)
    obtain ⟨c0, c1, c2, c3, c4, c5⟩ := HX.out.cells
    simp only at c0 c1 c2 c3 c4 c5
    rw [hw1] at c0 c1 c2 c3 c4 c5
    go_enter Try.func27, Try.ntmps27
    go_wp2_with fail
    rw [← hw1]
    clear hw1
    refine (HA.out w1).mono ?_
    rintro e w2 ⟨rfl, hb⟩
    have HX := Lib.hid (HX.out.below hb)
    have HB := Lib.hid (below_then HB.out HB.out.size hb)
    clear hb c0 c1 c2 c3 c4 c5
    obtain ⟨c0, c1, c2, c3, c4, c5⟩ := HX.out.cells
    simp only at c0 c1 c2 c3 c4 c5
    go_wp2_with fail
    refine (HO.out w2).mono ?_
    rintro e w3 ⟨rfl, hb⟩
    have HX := Lib.hid (HX.out.below hb)
    have HB := Lib.hid (below_then HB.out HB.out.size hb)
    clear hb c0 c1 c2 c3 c4 c5
    obtain ⟨c0, c1, c2, c3, c4, c5⟩ := HX.out.cells
    simp only at c0 c1 c2 c3 c4 c5
    go_wp2_with fail
    refine (HF.out w3).mono ?_
    rintro e w4 ⟨rfl, hb⟩
    have HX := Lib.hid (HX.out.below hb)
    have HB := Lib.hid (below_then HB.out HB.out.size hb)
    clear hb c0 c1 c2 c3 c4 c5
    obtain ⟨c0, c1, c2, c3, c4, c5⟩ := HX.out.cells
    simp only at c0 c1 c2 c3 c4 c5
    go_wp2
    go_ret
    exact ⟨rfl, HB.out⟩
  · rw [hr, if_pos rfl]
    clear hr
    have HA := Lib.hid (fun Z : World => (apart_c a f (n : Int) (by omega) Z))
    rw [h2] at HA
    have HO := Lib.hid (fun Z : World => (odd_c b HBR.out Z))
    rw [h3] at HO
    have HF := Lib.hid (show ∀ Z : World, Calls Try.prog 51 #[wrV ⟨a, f, p, b, w⟩ (.slice q n c)] Z fun e w' => e = .returned (.bool (fitsWB p w n)) ∧ Below Z.heap.size Z w' from fun Z => fitsWrite_c ⟨a, f, p, b, w⟩ q n c Z)
    rw [h4] at HF
    unfold wrV at HF
    simp only at HF
    clear h2 h3 h4
    obtain ⟨w1, hw1⟩ : ∃ X : World, X = W.alloc (.cells #[.int .i64 a, .int .i64 f, .slice q n c, .int .i64 p, .int .u64 b, .int .i64 w] 34) := ⟨_, rfl⟩
    have HX := Lib.hid (show WrBox w1 W.heap.size ⟨a, f, p, b, w⟩ (.slice q n c) by rw [hw1]; exact World.alloc_heap_new _ _)
    have HB := Lib.hid (show Below W.heap.size W w1 by rw [hw1]; exact below1 _ _)
    obtain ⟨c0, c1, c2, c3, c4, c5⟩ := HX.out.cells
    simp only at c0 c1 c2 c3 c4 c5
    rw [hw1] at c0 c1 c2 c3 c4 c5
    go_enter Try.func27, Try.ntmps27
    go_wp2_with fail
    rw [← hw1]
    clear hw1
    refine (HA.out w1).mono ?_
    rintro e w2 ⟨rfl, hb⟩
    have HX := Lib.hid (HX.out.below hb)
    have HB := Lib.hid (below_then HB.out HB.out.size hb)
    clear hb c0 c1 c2 c3 c4 c5
    obtain ⟨c0, c1, c2, c3, c4, c5⟩ := HX.out.cells
    simp only at c0 c1 c2 c3 c4 c5
    go_wp2_with fail
    refine (HO.out w2).mono ?_
    rintro e w3 ⟨rfl, hb⟩
    have HX := Lib.hid (HX.out.below hb)
    have HB := Lib.hid (below_then HB.out HB.out.size hb)
    clear hb c0 c1 c2 c3 c4 c5
    obtain ⟨c0, c1, c2, c3, c4, c5⟩ := HX.out.cells
    simp only at c0 c1 c2 c3 c4 c5
    go_wp2_with fail
    refine (HF.out w3).mono ?_
    rintro e w4 ⟨rfl, hb⟩
    have HX := Lib.hid (HX.out.below hb)
    have HB := Lib.hid (below_then HB.out HB.out.size hb)
    clear hb c0 c1 c2 c3 c4 c5
    obtain ⟨c0, c1, c2, c3, c4, c5⟩ := HX.out.cells
    simp only at c0 c1 c2 c3 c4 c5
    go_wp2
    go_ret
    exact ⟨rfl, HB.out⟩

end Go.Proofs.Ytaljpggajpoalaa
/-
  The document's answers: which reads and writes there are, and may be.
  Conditions: the ranges of Go's types.
-/
namespace Go.Proofs.Ytaljpggajpoalaa
open Go.RowKit Go.Shelf
attribute [local go_sem] Oper.semAt_some

set_option maxRecDepth 100000 in
set_option maxHeartbeats 4000000 in
theorem eRead_c (a f m : Int) (W : World) : Calls Try.prog 14 #[.int .i64 a, .int .i64 f, .int .i64 m] W fun e w' => e = .returned (.bool (decide (0 ≤ m) && (decide (m ≤ 16) && apartB a f m))) ∧ Below W.heap.size W w' := by
  by_cases h : 0 ≤ m
  · have HW := words_c a f m h W
    obtain ⟨x, hx⟩ : ∃ x, x = (decide (m ≤ 16) && apartB a f m) := ⟨_, rfl⟩
    rw [← hx] at HW ⊢
    rw [decide_eq_true h, Bool.true_and]
    have HH := Lib.hid HW
    clear hx HW
    go_enter Try.func14, Try.ntmps14
    go_wp2_with fail
    refine HH.out.mono ?_
    rintro e w1 ⟨rfl, hb⟩
    have HB := Lib.hid hb
    clear hb HH
    go_wp2
    go_ret
    exact ⟨rfl, HB.out⟩
  · rw [decide_eq_false h, Bool.false_and]
    go_enter Try.func14, Try.ntmps14
    go_wp2
    go_ret
    exact ⟨rfl, Below.refl _ _⟩
set_option maxRecDepth 100000 in
set_option maxHeartbeats 4000000 in
theorem eWrite_c (a f : Int) (q : Option Addr) (n c : Nat) (W : World) : Calls Try.prog 15 #[.int .i64 a, .int .i64 f, .slice q n c] W fun e w' => e = .returned (.bool (decide (1 ≤ n) && (decide (n ≤ 16) && apartB a f (n : Int)))) ∧ Below W.heap.size W w' := by
  by_cases h : 1 ≤ n
  · have HW := words_c a f (n : Int) (by omega) W
    have e16 : decide ((n : Int) ≤ 16) = decide (n ≤ 16) := by rw [Bool.eq_iff_iff]; simp; omega
    rw [e16] at HW
    obtain ⟨x, hx⟩ : ∃ x, x = (decide (n ≤ 16) && apartB a f (n : Int)) := ⟨_, rfl⟩
    rw [← hx] at HW ⊢
    rw [decide_eq_true h, Bool.true_and]
    have HH := Lib.hid HW
    clear hx HW e16
    go_enter Try.func15, Try.ntmps15
    go_wp2_with fail
    refine HH.out.mono ?_
    rintro e w1 ⟨rfl, hb⟩
    have HB := Lib.hid hb
    clear hb HH
    go_wp2
    go_ret
    exact ⟨rfl, HB.out⟩
  · rw [decide_eq_false h, Bool.false_and]
    go_enter Try.func15, Try.ntmps15
    go_wp2
    go_ret
    exact ⟨rfl, Below.refl _ _⟩

theorem rightRB_split (a f m p b t : Int) (n : Nat) : rightRB ⟨a, f, m, p, b, t⟩ n = ((decide (0 ≤ m) && (decide (m ≤ 16) && apartB a f m)) && (decide (b % 2 = 0) && (decide (0 ≤ t) && (decide (t ≤ 1073741824) && fitsRB p t m n)))) := by
  unfold rightRB
  simp only [Bool.and_assoc]
set_option maxRecDepth 100000 in
set_option maxHeartbeats 8000000 in
theorem eRightRead_c (s : RdM) (q : Option Addr) (n c : Nat) (hb : 0 ≤ s.b ∧ s.b ≤ 18446744073709551615) (W : World) : Calls Try.prog 21 #[rdV s (.slice q n c)] W fun e w' => e = .returned (.bool (rightRB s n)) ∧ Below W.heap.size W w' := by
  obtain ⟨a, f, m, p, b, t⟩ := s
  simp only at hb
  unfold rdV
  simp only
  rw [rightRB_split]
  have HR := Lib.hid (fun Z : World => eRead_c a f m Z)
  obtain ⟨x, hx⟩ : ∃ x, x = (decide (0 ≤ m) && (decide (m ≤ 16) && apartB a f m)) := ⟨_, rfl⟩
  rw [← hx] at HR ⊢
  clear hx
  obtain ⟨w1, hw1⟩ : ∃ X : World, X = W.alloc (.cells #[.int .i64 a, .int .i64 f, .int .i64 m, .int .i64 p, .int .u64 b, .slice q n c, .int .i64 t] 29) := ⟨_, rfl⟩
  have HX := Lib.hid (show RdBox w1 W.heap.size ⟨a, f, m, p, b, t⟩ (.slice q n c) by rw [hw1]; exact World.alloc_heap_new _ _)
  have HB := Lib.hid (show Below W.heap.size W w1 by rw [hw1]; exact below1 _ _)
  obtain ⟨c0, c1, c2, c3, c4, c5, c6⟩ := HX.out.cells
  simp only at c0 c1 c2 c3 c4 c5 c6
  rw [hw1] at c0 c1 c2 c3 c4 c5 c6
  cases x with
  | false =>
    rw [Bool.false_and]
    clear hb
    go_enter Try.func21, Try.ntmps21
    go_wp2_with fail
    rw [← hw1]
    clear hw1
    refine (HR.out w1).mono ?_
    rintro e w2 ⟨rfl, hb2⟩
    have HX := Lib.hid (HX.out.below hb2)
    have HB := Lib.hid (below_then HB.out HB.out.size hb2)
    clear hb2 c0 c1 c2 c3 c4 c5 c6 HR
    obtain ⟨c0, c1, c2, c3, c4, c5, c6⟩ := HX.out.cells
    simp only at c0 c1 c2 c3 c4 c5 c6
    go_wp2
    all_goals
      go_ret
      exact ⟨by first | rfl | (refine ret_b ?_; simp; done) | (refine ret_b ?_; simp; omega) | (refine ret_b ?_; simp [*]; done), HB.out⟩
  | true =>
    rw [Bool.true_and]
    by_cases ho : b % 2 = 0
    · have hz : (b.tmod 2 == 1) = false := by rw [Int.tmod_eq_emod_of_nonneg hb.1, ho]; rfl
      rw [decide_eq_true ho, Bool.true_and]
      clear ho hb
      by_cases ht0 : 0 ≤ t
      · rw [decide_eq_true ht0, Bool.true_and]
        by_cases ht1 : t ≤ 1073741824
        · rw [decide_eq_true ht1, Bool.true_and]
          have hc : (p = 0 ∧ t = 0) ∨ (p = 0 ∧ ¬ t = 0) ∨ p = 2 ∨ p = 3 ∨ p = 4 ∨ p = 5 ∨ (¬ p = 0 ∧ ¬ p = 2 ∧ ¬ p = 3 ∧ ¬ p = 4 ∧ ¬ p = 5) := by omega
          rcases hc with ⟨rfl, rfl⟩ | ⟨rfl, ht⟩ | rfl | rfl | rfl | rfl | ⟨h0, h2, h3, h4, h5⟩
          · have hr : fitsRB 0 0 m n = ((n : Int) == 0) := by unfold fitsRB; rw [if_pos rfl, if_pos rfl, Bool.eq_iff_iff]; simp
            rw [hr]
            clear hr
            go_enter Try.func21, Try.ntmps21
            go_wp2_with fail
            rw [← hw1]
            clear hw1
            refine (HR.out w1).mono ?_
            rintro e w2 ⟨rfl, hb2⟩
            have HX := Lib.hid (HX.out.below hb2)
            have HB := Lib.hid (below_then HB.out HB.out.size hb2)
            clear hb2 c0 c1 c2 c3 c4 c5 c6 HR
            obtain ⟨c0, c1, c2, c3, c4, c5, c6⟩ := HX.out.cells
            simp only at c0 c1 c2 c3 c4 c5 c6
            go_wp2
            all_goals
              go_ret
              exact ⟨by first | rfl | (refine ret_b ?_; simp; done) | (refine ret_b ?_; simp; omega) | (refine ret_b ?_; simp [*]; done), HB.out⟩
          · have hr : fitsRB 0 t m n = ((n : Int) == m) := by unfold fitsRB; rw [if_pos rfl, if_neg ht, Bool.eq_iff_iff]; simp
            rw [hr]
            clear hr
            have ht2 : (t == 0) = false := by rw [beq_eq_false_iff_ne]; exact ht
            have ht3 : 0 < t := by omega
            clear ht
            go_enter Try.func21, Try.ntmps21
            go_wp2_with fail
            rw [← hw1]
            clear hw1
            refine (HR.out w1).mono ?_
            rintro e w2 ⟨rfl, hb2⟩
            have HX := Lib.hid (HX.out.below hb2)
            have HB := Lib.hid (below_then HB.out HB.out.size hb2)
            clear hb2 c0 c1 c2 c3 c4 c5 c6 HR
            obtain ⟨c0, c1, c2, c3, c4, c5, c6⟩ := HX.out.cells
            simp only at c0 c1 c2 c3 c4 c5 c6
            go_wp2
            all_goals
              go_ret
              exact ⟨by first | rfl | (refine ret_b ?_; simp; done) | (refine ret_b ?_; simp; omega) | (refine ret_b ?_; simp [*]; done), HB.out⟩
          · have hr : fitsRB 2 t m n = decide ((n : Int) < m) := by unfold fitsRB; rw [if_neg (by decide), if_pos rfl]
            rw [hr]
            clear hr
            go_enter Try.func21, Try.ntmps21
            go_wp2_with fail
            rw [← hw1]
            clear hw1
            refine (HR.out w1).mono ?_
            rintro e w2 ⟨rfl, hb2⟩
            have HX := Lib.hid (HX.out.below hb2)
            have HB := Lib.hid (below_then HB.out HB.out.size hb2)
            clear hb2 c0 c1 c2 c3 c4 c5 c6 HR
            obtain ⟨c0, c1, c2, c3, c4, c5, c6⟩ := HX.out.cells
            simp only at c0 c1 c2 c3 c4 c5 c6
            go_wp2
            all_goals
              go_ret
              exact ⟨by first | rfl | (refine ret_b ?_; simp; done) | (refine ret_b ?_; simp; omega) | (refine ret_b ?_; simp [*]; done), HB.out⟩
          · have hr : fitsRB 3 t m n = ((n : Int) == m) := by unfold fitsRB; rw [if_neg (by decide), if_neg (by decide), if_pos (.inl rfl), Bool.eq_iff_iff]; simp
            rw [hr]
            clear hr
            go_enter Try.func21, Try.ntmps21
            go_wp2_with fail
            rw [← hw1]
            clear hw1
            refine (HR.out w1).mono ?_
            rintro e w2 ⟨rfl, hb2⟩
            have HX := Lib.hid (HX.out.below hb2)
            have HB := Lib.hid (below_then HB.out HB.out.size hb2)
            clear hb2 c0 c1 c2 c3 c4 c5 c6 HR
            obtain ⟨c0, c1, c2, c3, c4, c5, c6⟩ := HX.out.cells
            simp only at c0 c1 c2 c3 c4 c5 c6
            go_wp2
            all_goals
              go_ret
              exact ⟨by first | rfl | (refine ret_b ?_; simp; done) | (refine ret_b ?_; simp; omega) | (refine ret_b ?_; simp [*]; done), HB.out⟩
          · have hr : fitsRB 4 t m n = ((n : Int) == m) := by unfold fitsRB; rw [if_neg (by decide), if_neg (by decide), if_pos (.inr rfl), Bool.eq_iff_iff]; simp
            rw [hr]
            clear hr
            go_enter Try.func21, Try.ntmps21
            go_wp2_with fail
            rw [← hw1]
            clear hw1
            refine (HR.out w1).mono ?_
            rintro e w2 ⟨rfl, hb2⟩
            have HX := Lib.hid (HX.out.below hb2)
            have HB := Lib.hid (below_then HB.out HB.out.size hb2)
            clear hb2 c0 c1 c2 c3 c4 c5 c6 HR
            obtain ⟨c0, c1, c2, c3, c4, c5, c6⟩ := HX.out.cells
            simp only at c0 c1 c2 c3 c4 c5 c6
            go_wp2
            all_goals
              go_ret
              exact ⟨by first | rfl | (refine ret_b ?_; simp; done) | (refine ret_b ?_; simp; omega) | (refine ret_b ?_; simp [*]; done), HB.out⟩
          · have hr : fitsRB 5 t m n = decide ((n : Int) ≤ m) := by unfold fitsRB; rw [if_neg (by decide), if_neg (by decide), if_neg (by decide), if_pos rfl]
            rw [hr]
            clear hr
            go_enter Try.func21, Try.ntmps21
            go_wp2_with fail
            rw [← hw1]
            clear hw1
            refine (HR.out w1).mono ?_
            rintro e w2 ⟨rfl, hb2⟩
            have HX := Lib.hid (HX.out.below hb2)
            have HB := Lib.hid (below_then HB.out HB.out.size hb2)
            clear hb2 c0 c1 c2 c3 c4 c5 c6 HR
            obtain ⟨c0, c1, c2, c3, c4, c5, c6⟩ := HX.out.cells
            simp only at c0 c1 c2 c3 c4 c5 c6
            go_wp2
            all_goals
              go_ret
              exact ⟨by first | rfl | (refine ret_b ?_; simp; done) | (refine ret_b ?_; simp; omega) | (refine ret_b ?_; simp [*]; done), HB.out⟩
          · have hr : fitsRB p t m n = false := by unfold fitsRB; rw [if_neg h0, if_neg h2, if_neg (by omega), if_neg h5]
            rw [hr]
            clear hr
            have g0 : (p == 0) = false := by rw [beq_eq_false_iff_ne]; exact h0
            have g2 : (p == 2) = false := by rw [beq_eq_false_iff_ne]; exact h2
            have g3 : (p == 3) = false := by rw [beq_eq_false_iff_ne]; exact h3
            have g4 : (p == 4) = false := by rw [beq_eq_false_iff_ne]; exact h4
            have g5 : (p == 5) = false := by rw [beq_eq_false_iff_ne]; exact h5
            clear h0 h2 h3 h4 h5
            go_enter Try.func21, Try.ntmps21
            go_wp2_with fail
            rw [← hw1]
            clear hw1
            refine (HR.out w1).mono ?_
            rintro e w2 ⟨rfl, hb2⟩
            have HX := Lib.hid (HX.out.below hb2)
            have HB := Lib.hid (below_then HB.out HB.out.size hb2)
            clear hb2 c0 c1 c2 c3 c4 c5 c6 HR
            obtain ⟨c0, c1, c2, c3, c4, c5, c6⟩ := HX.out.cells
            simp only at c0 c1 c2 c3 c4 c5 c6
            go_wp2
            all_goals
              go_ret
              exact ⟨by first | rfl | (refine ret_b ?_; simp; done) | (refine ret_b ?_; simp; omega) | (refine ret_b ?_; simp [*]; done), HB.out⟩
        · rw [decide_eq_false ht1, Bool.false_and]
          go_enter Try.func21, Try.ntmps21
          go_wp2_with fail
          rw [← hw1]
          clear hw1
          refine (HR.out w1).mono ?_
          rintro e w2 ⟨rfl, hb2⟩
          have HX := Lib.hid (HX.out.below hb2)
          have HB := Lib.hid (below_then HB.out HB.out.size hb2)
          clear hb2 c0 c1 c2 c3 c4 c5 c6 HR
          obtain ⟨c0, c1, c2, c3, c4, c5, c6⟩ := HX.out.cells
          simp only at c0 c1 c2 c3 c4 c5 c6
          go_wp2
          all_goals
            go_ret
            exact ⟨by first | rfl | (refine ret_b ?_; simp; done) | (refine ret_b ?_; simp; omega) | (refine ret_b ?_; simp [*]; done), HB.out⟩
      · rw [decide_eq_false ht0, Bool.false_and]
        go_enter Try.func21, Try.ntmps21
        go_wp2_with fail
        rw [← hw1]
        clear hw1
        refine (HR.out w1).mono ?_
        rintro e w2 ⟨rfl, hb2⟩
        have HX := Lib.hid (HX.out.below hb2)
        have HB := Lib.hid (below_then HB.out HB.out.size hb2)
        clear hb2 c0 c1 c2 c3 c4 c5 c6 HR
        obtain ⟨c0, c1, c2, c3, c4, c5, c6⟩ := HX.out.cells
        simp only at c0 c1 c2 c3 c4 c5 c6
        go_wp2
        all_goals
          go_ret
          exact ⟨by first | rfl | (refine ret_b ?_; simp; done) | (refine ret_b ?_; simp; omega) | (refine ret_b ?_; simp [*]; done), HB.out⟩
    · have hz : (b.tmod 2 == 1) = true := by rw [Int.tmod_eq_emod_of_nonneg hb.1, beq_iff_eq]; omega
      rw [decide_eq_false ho, Bool.false_and]
      clear ho hb
      go_enter Try.func21, Try.ntmps21
      go_wp2_with fail
      rw [← hw1]
      clear hw1
      refine (HR.out w1).mono ?_
      rintro e w2 ⟨rfl, hb2⟩
      have HX := Lib.hid (HX.out.below hb2)
      have HB := Lib.hid (below_then HB.out HB.out.size hb2)
      clear hb2 c0 c1 c2 c3 c4 c5 c6 HR
      obtain ⟨c0, c1, c2, c3, c4, c5, c6⟩ := HX.out.cells
      simp only at c0 c1 c2 c3 c4 c5 c6
      go_wp2
      all_goals
        go_ret
        exact ⟨by first | rfl | (refine ret_b ?_; simp; done) | (refine ret_b ?_; simp; omega) | (refine ret_b ?_; simp [*]; done), HB.out⟩

theorem rightWB_split (a f p b w : Int) (n : Nat) : rightWB ⟨a, f, p, b, w⟩ n = ((decide (1 ≤ n) && (decide (n ≤ 16) && apartB a f (n : Int))) && (decide (b % 2 = 0) && fitsWB p w n)) := by
  unfold rightWB
  simp only [Bool.and_assoc]
set_option maxRecDepth 100000 in
set_option maxHeartbeats 8000000 in
theorem eRightWrite_c (s : WrM) (q : Option Addr) (n c : Nat) (hb : 0 ≤ s.b ∧ s.b ≤ 18446744073709551615) (W : World) : Calls Try.prog 28 #[wrV s (.slice q n c)] W fun e w' => e = .returned (.bool (rightWB s n)) ∧ Below W.heap.size W w' := by
  obtain ⟨a, f, p, b, w⟩ := s
  simp only at hb
  unfold wrV
  simp only
  rw [rightWB_split]
  have HR := Lib.hid (fun Z : World => eWrite_c a f q n c Z)
  obtain ⟨x, hx⟩ : ∃ x, x = (decide (1 ≤ n) && (decide (n ≤ 16) && apartB a f (n : Int))) := ⟨_, rfl⟩
  rw [← hx] at HR ⊢
  clear hx
  obtain ⟨w1, hw1⟩ : ∃ X : World, X = W.alloc (.cells #[.int .i64 a, .int .i64 f, .slice q n c, .int .i64 p, .int .u64 b, .int .i64 w] 34) := ⟨_, rfl⟩
  have HX := Lib.hid (show WrBox w1 W.heap.size ⟨a, f, p, b, w⟩ (.slice q n c) by rw [hw1]; exact World.alloc_heap_new _ _)
  have HB := Lib.hid (show Below W.heap.size W w1 by rw [hw1]; exact below1 _ _)
  obtain ⟨c0, c1, c2, c3, c4, c5⟩ := HX.out.cells
  simp only at c0 c1 c2 c3 c4 c5
  rw [hw1] at c0 c1 c2 c3 c4 c5
  cases x with
  | false =>
    rw [Bool.false_and]
    clear hb
    go_enter Try.func28, Try.ntmps28
    go_wp2_with fail
    rw [← hw1]
    clear hw1
    refine (HR.out w1).mono ?_
    rintro e w2 ⟨rfl, hb2⟩
    have HX := Lib.hid (HX.out.below hb2)
    have HB := Lib.hid (below_then HB.out HB.out.size hb2)
    clear hb2 c0 c1 c2 c3 c4 c5 HR
    obtain ⟨c0, c1, c2, c3, c4, c5⟩ := HX.out.cells
    simp only at c0 c1 c2 c3 c4 c5
    go_wp2
    all_goals
      go_ret
      exact ⟨by first | rfl | (refine ret_b ?_; simp; done) | (refine ret_b ?_; simp; omega) | (refine ret_b ?_; simp [*]; done), HB.out⟩
  | true =>
    rw [Bool.true_and]
    by_cases ho : b % 2 = 0
    · have hz : (b.tmod 2 == 1) = false := by rw [Int.tmod_eq_emod_of_nonneg hb.1, ho]; rfl
      rw [decide_eq_true ho, Bool.true_and]
      clear ho hb
      have hc : p = 0 ∨ p = 1 ∨ p = 2 ∨ p = 3 ∨ p = 4 ∨ p = 5 ∨ (¬ p = 0 ∧ ¬ p = 1 ∧ ¬ p = 2 ∧ ¬ p = 3 ∧ ¬ p = 4 ∧ ¬ p = 5) := by omega
      rcases hc with rfl | rfl | rfl | rfl | rfl | rfl | ⟨h0, h1, h2, h3, h4, h5⟩
      · have hr : fitsWB 0 w n = (w == 0) := by unfold fitsWB; rw [if_pos (.inl rfl), Bool.eq_iff_iff]; simp
        rw [hr]
        clear hr
        go_enter Try.func28, Try.ntmps28
        go_wp2_with fail
        rw [← hw1]
        clear hw1
        refine (HR.out w1).mono ?_
        rintro e w2 ⟨rfl, hb2⟩
        have HX := Lib.hid (HX.out.below hb2)
        have HB := Lib.hid (below_then HB.out HB.out.size hb2)
        clear hb2 c0 c1 c2 c3 c4 c5 HR
        obtain ⟨c0, c1, c2, c3, c4, c5⟩ := HX.out.cells
        simp only at c0 c1 c2 c3 c4 c5
        go_wp2
        all_goals
          go_ret
          exact ⟨by first | rfl | (refine ret_b ?_; simp; done) | (refine ret_b ?_; simp; omega) | (refine ret_b ?_; simp [*]; done), HB.out⟩
      · have hr : fitsWB 1 w n = (w == 0) := by unfold fitsWB; rw [if_pos (.inr rfl), Bool.eq_iff_iff]; simp
        rw [hr]
        clear hr
        go_enter Try.func28, Try.ntmps28
        go_wp2_with fail
        rw [← hw1]
        clear hw1
        refine (HR.out w1).mono ?_
        rintro e w2 ⟨rfl, hb2⟩
        have HX := Lib.hid (HX.out.below hb2)
        have HB := Lib.hid (below_then HB.out HB.out.size hb2)
        clear hb2 c0 c1 c2 c3 c4 c5 HR
        obtain ⟨c0, c1, c2, c3, c4, c5⟩ := HX.out.cells
        simp only at c0 c1 c2 c3 c4 c5
        go_wp2
        all_goals
          go_ret
          exact ⟨by first | rfl | (refine ret_b ?_; simp; done) | (refine ret_b ?_; simp; omega) | (refine ret_b ?_; simp [*]; done), HB.out⟩
      · by_cases hw : 0 ≤ w
        · have hr : fitsWB 2 w n = decide (w < (n : Int)) := by unfold fitsWB; simp [hw]
          rw [hr]
          clear hr
          go_enter Try.func28, Try.ntmps28
          go_wp2_with fail
          rw [← hw1]
          clear hw1
          refine (HR.out w1).mono ?_
          rintro e w2 ⟨rfl, hb2⟩
          have HX := Lib.hid (HX.out.below hb2)
          have HB := Lib.hid (below_then HB.out HB.out.size hb2)
          clear hb2 c0 c1 c2 c3 c4 c5 HR
          obtain ⟨c0, c1, c2, c3, c4, c5⟩ := HX.out.cells
          simp only at c0 c1 c2 c3 c4 c5
          go_wp2
          all_goals
            go_ret
            exact ⟨by first | rfl | (refine ret_b ?_; simp; done) | (refine ret_b ?_; simp; omega) | (refine ret_b ?_; simp [*]; done), HB.out⟩
        · have hr : fitsWB 2 w n = false := by unfold fitsWB; simp [hw]
          rw [hr]
          clear hr
          go_enter Try.func28, Try.ntmps28
          go_wp2_with fail
          rw [← hw1]
          clear hw1
          refine (HR.out w1).mono ?_
          rintro e w2 ⟨rfl, hb2⟩
          have HX := Lib.hid (HX.out.below hb2)
          have HB := Lib.hid (below_then HB.out HB.out.size hb2)
          clear hb2 c0 c1 c2 c3 c4 c5 HR
          obtain ⟨c0, c1, c2, c3, c4, c5⟩ := HX.out.cells
          simp only at c0 c1 c2 c3 c4 c5
          go_wp2
          all_goals
            go_ret
            exact ⟨by first | rfl | (refine ret_b ?_; simp; done) | (refine ret_b ?_; simp; omega) | (refine ret_b ?_; simp [*]; done), HB.out⟩
      · have hr : fitsWB 3 w n = (w == (n : Int)) := by unfold fitsWB; rw [if_neg (by decide), if_neg (by decide), if_pos (.inl rfl), Bool.eq_iff_iff]; simp
        rw [hr]
        clear hr
        go_enter Try.func28, Try.ntmps28
        go_wp2_with fail
        rw [← hw1]
        clear hw1
        refine (HR.out w1).mono ?_
        rintro e w2 ⟨rfl, hb2⟩
        have HX := Lib.hid (HX.out.below hb2)
        have HB := Lib.hid (below_then HB.out HB.out.size hb2)
        clear hb2 c0 c1 c2 c3 c4 c5 HR
        obtain ⟨c0, c1, c2, c3, c4, c5⟩ := HX.out.cells
        simp only at c0 c1 c2 c3 c4 c5
        go_wp2
        all_goals
          go_ret
          exact ⟨by first | rfl | (refine ret_b ?_; simp; done) | (refine ret_b ?_; simp; omega) | (refine ret_b ?_; simp [*]; done), HB.out⟩
      · have hr : fitsWB 4 w n = (w == (n : Int)) := by unfold fitsWB; rw [if_neg (by decide), if_neg (by decide), if_pos (.inr rfl), Bool.eq_iff_iff]; simp
        rw [hr]
        clear hr
        go_enter Try.func28, Try.ntmps28
        go_wp2_with fail
        rw [← hw1]
        clear hw1
        refine (HR.out w1).mono ?_
        rintro e w2 ⟨rfl, hb2⟩
        have HX := Lib.hid (HX.out.below hb2)
        have HB := Lib.hid (below_then HB.out HB.out.size hb2)
        clear hb2 c0 c1 c2 c3 c4 c5 HR
        obtain ⟨c0, c1, c2, c3, c4, c5⟩ := HX.out.cells
        simp only at c0 c1 c2 c3 c4 c5
        go_wp2
        all_goals
          go_ret
          exact ⟨by first | rfl | (refine ret_b ?_; simp; done) | (refine ret_b ?_; simp; omega) | (refine ret_b ?_; simp [*]; done), HB.out⟩
      · by_cases hw : 0 ≤ w
        · have hr : fitsWB 5 w n = decide (w ≤ (n : Int)) := by unfold fitsWB; simp [hw]
          rw [hr]
          clear hr
          go_enter Try.func28, Try.ntmps28
          go_wp2_with fail
          rw [← hw1]
          clear hw1
          refine (HR.out w1).mono ?_
          rintro e w2 ⟨rfl, hb2⟩
          have HX := Lib.hid (HX.out.below hb2)
          have HB := Lib.hid (below_then HB.out HB.out.size hb2)
          clear hb2 c0 c1 c2 c3 c4 c5 HR
          obtain ⟨c0, c1, c2, c3, c4, c5⟩ := HX.out.cells
          simp only at c0 c1 c2 c3 c4 c5
          go_wp2
          all_goals
            go_ret
            exact ⟨by first | rfl | (refine ret_b ?_; simp; done) | (refine ret_b ?_; simp; omega) | (refine ret_b ?_; simp [*]; done), HB.out⟩
        · have hr : fitsWB 5 w n = false := by unfold fitsWB; simp [hw]
          rw [hr]
          clear hr
          go_enter Try.func28, Try.ntmps28
          go_wp2_with fail
          rw [← hw1]
          clear hw1
          refine (HR.out w1).mono ?_
          rintro e w2 ⟨rfl, hb2⟩
          have HX := Lib.hid (HX.out.below hb2)
          have HB := Lib.hid (below_then HB.out HB.out.size hb2)
          clear hb2 c0 c1 c2 c3 c4 c5 HR
          obtain ⟨c0, c1, c2, c3, c4, c5⟩ := HX.out.cells
          simp only at c0 c1 c2 c3 c4 c5
          go_wp2
          all_goals
            go_ret
            exact ⟨by first | rfl | (refine ret_b ?_; simp; done) | (refine ret_b ?_; simp; omega) | (refine ret_b ?_; simp [*]; done), HB.out⟩
      · have hr : fitsWB p w n = false := by unfold fitsWB; rw [if_neg (by omega), if_neg h2, if_neg (by omega), if_neg h5]
        rw [hr]
        clear hr
        have g0 : (p == 0) = false := by rw [beq_eq_false_iff_ne]; exact h0
        have g1 : (p == 1) = false := by rw [beq_eq_false_iff_ne]; exact h1
        have g2 : (p == 2) = false := by rw [beq_eq_false_iff_ne]; exact h2
        have g3 : (p == 3) = false := by rw [beq_eq_false_iff_ne]; exact h3
        have g4 : (p == 4) = false := by rw [beq_eq_false_iff_ne]; exact h4
        have g5 : (p == 5) = false := by rw [beq_eq_false_iff_ne]; exact h5
        clear h0 h1 h2 h3 h4 h5
        go_enter Try.func28, Try.ntmps28
        go_wp2_with fail
        rw [← hw1]
        clear hw1
        refine (HR.out w1).mono ?_
        rintro e w2 ⟨rfl, hb2⟩
        have HX := Lib.hid (HX.out.below hb2)
        have HB := Lib.hid (below_then HB.out HB.out.size hb2)
        clear hb2 c0 c1 c2 c3 c4 c5 HR
        obtain ⟨c0, c1, c2, c3, c4, c5⟩ := HX.out.cells
        simp only at c0 c1 c2 c3 c4 c5
        go_wp2
        all_goals
          go_ret
          exact ⟨by first | rfl | (refine ret_b ?_; simp; done) | (refine ret_b ?_; simp; omega) | (refine ret_b ?_; simp [*]; done), HB.out⟩
    · have hz : (b.tmod 2 == 1) = true := by rw [Int.tmod_eq_emod_of_nonneg hb.1, beq_iff_eq]; omega
      rw [decide_eq_false ho, Bool.false_and]
      clear ho hb
      go_enter Try.func28, Try.ntmps28
      go_wp2_with fail
      rw [← hw1]
      clear hw1
      refine (HR.out w1).mono ?_
      rintro e w2 ⟨rfl, hb2⟩
      have HX := Lib.hid (HX.out.below hb2)
      have HB := Lib.hid (below_then HB.out HB.out.size hb2)
      clear hb2 c0 c1 c2 c3 c4 c5 HR
      obtain ⟨c0, c1, c2, c3, c4, c5⟩ := HX.out.cells
      simp only at c0 c1 c2 c3 c4 c5
      go_wp2
      all_goals
        go_ret
        exact ⟨by first | rfl | (refine ret_b ?_; simp; done) | (refine ret_b ?_; simp; omega) | (refine ret_b ?_; simp [*]; done), HB.out⟩

end Go.Proofs.Ytaljpggajpoalaa
/-
  seq.Read and seq.Write: what they make.
  Conditions: the ranges of Go's types.
-/
namespace Go.Proofs.Ytaljpggajpoalaa
open Go.RowKit Go.Shelf
attribute [local go_sem] Oper.semAt_some

theorem RdBox.marks {w : World} {z : Nat} {s : RdM} {v : Value} (h : RdBox w z s v) (i : Nat) : w.frozen? ⟨z, i, none⟩ = false := by
  have h' := h
  unfold RdBox at h'
  simp [World.frozen?, h']
theorem WrBox.marks {w : World} {z : Nat} {s : WrM} {v : Value} (h : WrBox w z s v) (i : Nat) : w.frozen? ⟨z, i, none⟩ = false := by
  have h' := h
  unfold WrBox at h'
  simp [World.frozen?, h']
theorem RdBox.put {w : World} {z : Nat} {s0 : RdM} {v0 : Value} (h : RdBox w z s0 v0) (s : RdM) (v : Value) : RdBox (((((((w.setCell ⟨z, 0, none⟩ (.int .i64 s.a)).setCell ⟨z, 1, none⟩ (.int .i64 s.f)).setCell ⟨z, 2, none⟩ (.int .i64 s.m)).setCell ⟨z, 3, none⟩ (.int .i64 s.p)).setCell ⟨z, 4, none⟩ (.int .u64 s.b)).setCell ⟨z, 5, none⟩ (v)).setCell ⟨z, 6, none⟩ (.int .i64 s.t)) z s v := by
  have h0 := heap_setCell_same w z 0 _ _ (.int .i64 s.a) h
  have h1 := heap_setCell_same _ z 1 _ _ (.int .i64 s.f) h0
  have h2 := heap_setCell_same _ z 2 _ _ (.int .i64 s.m) h1
  have h3 := heap_setCell_same _ z 3 _ _ (.int .i64 s.p) h2
  have h4 := heap_setCell_same _ z 4 _ _ (.int .u64 s.b) h3
  have h5 := heap_setCell_same _ z 5 _ _ (v) h4
  have h6 := heap_setCell_same _ z 6 _ _ (.int .i64 s.t) h5
  unfold RdBox
  rw [h6]
  rfl
theorem RdBox.putB {w W : World} {z : Nat} (hB : Below W.heap.size W w) (hz : W.heap.size ≤ z) (s : RdM) (v : Value) : Below W.heap.size W (((((((w.setCell ⟨z, 0, none⟩ (.int .i64 s.a)).setCell ⟨z, 1, none⟩ (.int .i64 s.f)).setCell ⟨z, 2, none⟩ (.int .i64 s.m)).setCell ⟨z, 3, none⟩ (.int .i64 s.p)).setCell ⟨z, 4, none⟩ (.int .u64 s.b)).setCell ⟨z, 5, none⟩ (v)).setCell ⟨z, 6, none⟩ (.int .i64 s.t)) :=
  ((((((hB.setCell (p := ⟨z, 0, none⟩) hz (.int .i64 s.a)).setCell (p := ⟨z, 1, none⟩) hz (.int .i64 s.f)).setCell (p := ⟨z, 2, none⟩) hz (.int .i64 s.m)).setCell (p := ⟨z, 3, none⟩) hz (.int .i64 s.p)).setCell (p := ⟨z, 4, none⟩) hz (.int .u64 s.b)).setCell (p := ⟨z, 5, none⟩) hz (v)).setCell (p := ⟨z, 6, none⟩) hz (.int .i64 s.t)
theorem WrBox.put {w : World} {z : Nat} {s0 : WrM} {v0 : Value} (h : WrBox w z s0 v0) (s : WrM) (v : Value) : WrBox ((((((w.setCell ⟨z, 0, none⟩ (.int .i64 s.a)).setCell ⟨z, 1, none⟩ (.int .i64 s.f)).setCell ⟨z, 2, none⟩ (v)).setCell ⟨z, 3, none⟩ (.int .i64 s.p)).setCell ⟨z, 4, none⟩ (.int .u64 s.b)).setCell ⟨z, 5, none⟩ (.int .i64 s.w)) z s v := by
  have h0 := heap_setCell_same w z 0 _ _ (.int .i64 s.a) h
  have h1 := heap_setCell_same _ z 1 _ _ (.int .i64 s.f) h0
  have h2 := heap_setCell_same _ z 2 _ _ (v) h1
  have h3 := heap_setCell_same _ z 3 _ _ (.int .i64 s.p) h2
  have h4 := heap_setCell_same _ z 4 _ _ (.int .u64 s.b) h3
  have h5 := heap_setCell_same _ z 5 _ _ (.int .i64 s.w) h4
  unfold WrBox
  rw [h5]
  rfl
theorem WrBox.putB {w W : World} {z : Nat} (hB : Below W.heap.size W w) (hz : W.heap.size ≤ z) (s : WrM) (v : Value) : Below W.heap.size W ((((((w.setCell ⟨z, 0, none⟩ (.int .i64 s.a)).setCell ⟨z, 1, none⟩ (.int .i64 s.f)).setCell ⟨z, 2, none⟩ (v)).setCell ⟨z, 3, none⟩ (.int .i64 s.p)).setCell ⟨z, 4, none⟩ (.int .u64 s.b)).setCell ⟨z, 5, none⟩ (.int .i64 s.w)) :=
  (((((hB.setCell (p := ⟨z, 0, none⟩) hz (.int .i64 s.a)).setCell (p := ⟨z, 1, none⟩) hz (.int .i64 s.f)).setCell (p := ⟨z, 2, none⟩) hz (v)).setCell (p := ⟨z, 3, none⟩) hz (.int .i64 s.p)).setCell (p := ⟨z, 4, none⟩) hz (.int .u64 s.b)).setCell (p := ⟨z, 5, none⟩) hz (.int .i64 s.w)
set_option maxRecDepth 100000 in
set_option maxHeartbeats 4000000 in
theorem read_c (a f m : Int) (W : World) : Calls Try.prog 12 #[.int .i64 a, .int .i64 f, .int .i64 m] W fun e w' => e = .returned (if rightRB ⟨a, f, m, 0, 0, 0⟩ 0 = true then .tuple #[rdV ⟨a, f, m, 0, 0, 0⟩ (.slice none 0 0), .int .i64 0] else .tuple #[rdV ⟨0, 0, 0, 0, 0, 0⟩ (.slice none 0 0), .int .i64 2]) ∧ Below W.heap.size W w' := by
  have HC := Lib.hid (fun Z : World => checkRead_c ⟨a, f, m, 0, 0, 0⟩ none 0 0 ⟨Int.le_refl 0, by show (0 : Int) ≤ 18446744073709551615; omega⟩ Z)
  obtain ⟨x, hx⟩ : ∃ x, x = rightRB ⟨a, f, m, 0, 0, 0⟩ 0 := ⟨_, rfl⟩
  rw [← hx] at HC ⊢
  clear hx
  unfold rdV at HC ⊢
  simp only at HC ⊢
  obtain ⟨w1, hw1⟩ : ∃ X : World, X = (W.alloc (.cells #[.int .i64 0, .int .i64 0, .int .i64 0, .int .i64 0, .int .u64 0, .slice none 0 0, .int .i64 0] 29)).alloc (.cells #[.int .i64 a, .int .i64 f, .int .i64 m, .int .i64 0, .int .u64 0, .slice none 0 0, .int .i64 0] 29) := ⟨_, rfl⟩
  have HZ := Lib.hid (show RdBox w1 W.heap.size ⟨0, 0, 0, 0, 0, 0⟩ (.slice none 0 0) by rw [hw1]; exact ((((Below.refl _ _).alloc (Nat.le_refl _) _).block W.heap.size (by simp)).trans (World.alloc_heap_new W _)))
  have HX := Lib.hid (show RdBox w1 (W.heap.size + 1) ⟨a, f, m, 0, 0, 0⟩ (.slice none 0 0) by rw [hw1]; have e := World.alloc_heap_new (W.alloc (.cells #[.int .i64 0, .int .i64 0, .int .i64 0, .int .i64 0, .int .u64 0, .slice none 0 0, .int .i64 0] 29)) (.cells #[.int .i64 a, .int .i64 f, .int .i64 m, .int .i64 0, .int .u64 0, .slice none 0 0, .int .i64 0] 29); rw [World.size_alloc] at e; exact e)
  have HB := Lib.hid (show Below W.heap.size W w1 by rw [hw1]; exact below2 _ _ _)
  cases x with
  | false =>
    rw [if_neg (by simp)] at HC ⊢
    go_enter Try.func12, Try.ntmps12
    go_wp2_with fail
    rw [← hw1]
    clear hw1
    refine (HC.out w1).mono ?_
    rintro e w2 ⟨rfl, hb2⟩
    have HZ := Lib.hid (HZ.out.below hb2)
    have HX := Lib.hid (HX.out.below hb2)
    have HB := Lib.hid (below_then HB.out HB.out.size hb2)
    clear hb2 HC
    obtain ⟨c0, c1, c2, c3, c4, c5, c6⟩ := HX.out.cells
    obtain ⟨d0, d1, d2, d3, d4, d5, d6⟩ := HZ.out.cells
    simp only at c0 c1 c2 c3 c4 c5 c6 d0 d1 d2 d3 d4 d5 d6
    have k0 := HZ.out.marks 0
    have k1 := HZ.out.marks 1
    have k2 := HZ.out.marks 2
    have k3 := HZ.out.marks 3
    have k4 := HZ.out.marks 4
    have k5 := HZ.out.marks 5
    have k6 := HZ.out.marks 6
    have HP := Lib.hid (HZ.out.put ⟨0, 0, 0, 0, 0, 0⟩ (.slice none 0 0))
    have HQ := Lib.hid (RdBox.putB HB.out (Nat.le_refl _) ⟨0, 0, 0, 0, 0, 0⟩ (.slice none 0 0))
    simp only at HP HQ
    go_wp2
    clear c0 c1 c2 c3 c4 c5 c6 d0 d1 d2 d3 d4 d5 d6 k0 k1 k2 k3 k4 k5 k6
    revert HP HQ
    generalize World.setCell _ ⟨W.heap.size, 6, none⟩ _ = w3
    intro HP HQ
    obtain ⟨r0, r1, r2, r3, r4, r5, r6⟩ := HP.out.cells
    simp only at r0 r1 r2 r3 r4 r5 r6
    exact bodyPost_ret (v := .tuple #[rdV ⟨0, 0, 0, 0, 0, 0⟩ (.slice none 0 0), .int .i64 2]) (by simp [results, Try.results12, go_sem, r0, r1, r2, r3, r4, r5, r6, rdV]) rfl ⟨rfl, HQ.out⟩
  | true =>
    rw [if_pos rfl] at HC ⊢
    go_enter Try.func12, Try.ntmps12
    go_wp2_with fail
    rw [← hw1]
    clear hw1
    refine (HC.out w1).mono ?_
    rintro e w2 ⟨rfl, hb2⟩
    have HZ := Lib.hid (HZ.out.below hb2)
    have HX := Lib.hid (HX.out.below hb2)
    have HB := Lib.hid (below_then HB.out HB.out.size hb2)
    clear hb2 HC
    obtain ⟨c0, c1, c2, c3, c4, c5, c6⟩ := HX.out.cells
    obtain ⟨d0, d1, d2, d3, d4, d5, d6⟩ := HZ.out.cells
    simp only at c0 c1 c2 c3 c4 c5 c6 d0 d1 d2 d3 d4 d5 d6
    have k0 := HZ.out.marks 0
    have k1 := HZ.out.marks 1
    have k2 := HZ.out.marks 2
    have k3 := HZ.out.marks 3
    have k4 := HZ.out.marks 4
    have k5 := HZ.out.marks 5
    have k6 := HZ.out.marks 6
    have HP := Lib.hid (HZ.out.put ⟨a, f, m, 0, 0, 0⟩ (.slice none 0 0))
    have HQ := Lib.hid (RdBox.putB HB.out (Nat.le_refl _) ⟨a, f, m, 0, 0, 0⟩ (.slice none 0 0))
    simp only at HP HQ
    go_wp2
    clear c0 c1 c2 c3 c4 c5 c6 d0 d1 d2 d3 d4 d5 d6 k0 k1 k2 k3 k4 k5 k6
    revert HP HQ
    generalize World.setCell _ ⟨W.heap.size, 6, none⟩ _ = w3
    intro HP HQ
    obtain ⟨r0, r1, r2, r3, r4, r5, r6⟩ := HP.out.cells
    simp only at r0 r1 r2 r3 r4 r5 r6
    exact bodyPost_ret (v := .tuple #[rdV ⟨a, f, m, 0, 0, 0⟩ (.slice none 0 0), .int .i64 0]) (by simp [results, Try.results12, go_sem, r0, r1, r2, r3, r4, r5, r6, rdV]) rfl ⟨rfl, HQ.out⟩

end Go.Proofs.Ytaljpggajpoalaa
/-
  seq.Write: what it makes.
  Conditions: the ranges of Go's types.
-/
namespace Go.Proofs.Ytaljpggajpoalaa
open Go.RowKit Go.Shelf
attribute [local go_sem] Oper.semAt_some

set_option maxRecDepth 100000 in
set_option maxHeartbeats 4000000 in
theorem write_no (a f : Int) (q : Option Addr) (n c : Nat) (h : rightWB ⟨a, f, 0, 0, 0⟩ n = false) (W : World) : Calls Try.prog 13 #[.int .i64 a, .int .i64 f, .slice q n c] W fun e w' => e = .returned (.tuple #[wrV ⟨0, 0, 0, 0, 0⟩ (.slice none 0 0), .int .i64 2]) ∧ Below W.heap.size W w' := by
  have HC := Lib.hid (fun Z : World => checkWrite_c ⟨a, f, 0, 0, 0⟩ q n c ⟨Int.le_refl 0, by show (0 : Int) ≤ 18446744073709551615; omega⟩ Z)
  rw [if_neg (by rw [h]; simp)] at HC
  unfold wrV at HC
  simp only at HC
  clear h
  obtain ⟨w1, hw1⟩ : ∃ X : World, X = (W.alloc (.cells #[.int .i64 0, .int .i64 0, .slice none 0 0, .int .i64 0, .int .u64 0, .int .i64 0] 34)).alloc (.cells #[.int .i64 a, .int .i64 f, .slice q n c, .int .i64 0, .int .u64 0, .int .i64 0] 34) := ⟨_, rfl⟩
  have HZ := Lib.hid (show WrBox w1 W.heap.size ⟨0, 0, 0, 0, 0⟩ (.slice none 0 0) by rw [hw1]; exact ((((Below.refl _ _).alloc (Nat.le_refl _) _).block W.heap.size (by simp)).trans (World.alloc_heap_new W _)))
  have HX := Lib.hid (show WrBox w1 (W.heap.size + 1) ⟨a, f, 0, 0, 0⟩ (.slice q n c) by rw [hw1]; have e := World.alloc_heap_new (W.alloc (.cells #[.int .i64 0, .int .i64 0, .slice none 0 0, .int .i64 0, .int .u64 0, .int .i64 0] 34)) (.cells #[.int .i64 a, .int .i64 f, .slice q n c, .int .i64 0, .int .u64 0, .int .i64 0] 34); rw [World.size_alloc] at e; exact e)
  have HB := Lib.hid (show Below W.heap.size W w1 by rw [hw1]; exact below2 _ _ _)
  go_enter Try.func13, Try.ntmps13
  go_wp2_with fail
  rw [← hw1]
  clear hw1
  refine (HC.out w1).mono ?_
  rintro e w2 ⟨rfl, hb2⟩
  have HZ := Lib.hid (HZ.out.below hb2)
  have HX := Lib.hid (HX.out.below hb2)
  have HB := Lib.hid (below_then HB.out HB.out.size hb2)
  clear hb2 HC
  obtain ⟨c0, c1, c2, c3, c4, c5⟩ := HX.out.cells
  obtain ⟨d0, d1, d2, d3, d4, d5⟩ := HZ.out.cells
  simp only at c0 c1 c2 c3 c4 c5 d0 d1 d2 d3 d4 d5
  have k0 := HZ.out.marks 0
  have k1 := HZ.out.marks 1
  have k2 := HZ.out.marks 2
  have k3 := HZ.out.marks 3
  have k4 := HZ.out.marks 4
  have k5 := HZ.out.marks 5
  have HP := Lib.hid (HZ.out.put ⟨0, 0, 0, 0, 0⟩ (.slice none 0 0))
  have HQ := Lib.hid (WrBox.putB HB.out (Nat.le_refl _) ⟨0, 0, 0, 0, 0⟩ (.slice none 0 0))
  simp only at HP HQ
  go_wp2
  clear c0 c1 c2 c3 c4 c5 d0 d1 d2 d3 d4 d5 k0 k1 k2 k3 k4 k5
  revert HP HQ
  generalize World.setCell _ ⟨W.heap.size, 5, none⟩ _ = w3
  intro HP HQ
  obtain ⟨r0, r1, r2, r3, r4, r5⟩ := HP.out.cells
  simp only at r0 r1 r2 r3 r4 r5
  exact bodyPost_ret (v := .tuple #[wrV ⟨0, 0, 0, 0, 0⟩ (.slice none 0 0), .int .i64 2]) (by simp [results, Try.results13, go_sem, r0, r1, r2, r3, r4, r5, wrV]) rfl ⟨rfl, HQ.out⟩
theorem WrBox.vals {w : World} {z : Nat} {s : WrM} {v : Value} (h : WrBox w z s v) (u : Value) : WrBox (w.setCell ⟨z, 2, none⟩ u) z s u := by
  have h1 := heap_setCell_same w z 2 _ _ u h
  unfold WrBox
  rw [h1]; rfl
theorem wr_row {w : World} {z B : Nat} (hz : z < B) {E : TypeId} {n : Nat} {v : Value} {xs : List Value} (h : w.ownsRow B E 1 v n xs) (i : Nat) (u : Value) : (w.setCell ⟨z, i, none⟩ u).ownsRow B E 1 v n xs :=
  (Keeps.setCell w (S := fun k => k = z) (p := ⟨z, i, none⟩) rfl u).row h fun g hg e => by have := (h.lt g hg).1; omega
theorem wr_put_row {w : World} {z B : Nat} (hz : z < B) {E : TypeId} {n : Nat} {v : Value} {xs : List Value} (h : w.ownsRow B E 1 v n xs) (u0 u1 u2 u3 u4 u5 : Value) : ((((((w.setCell ⟨z, 0, none⟩ u0).setCell ⟨z, 1, none⟩ u1).setCell ⟨z, 2, none⟩ u2).setCell ⟨z, 3, none⟩ u3).setCell ⟨z, 4, none⟩ u4).setCell ⟨z, 5, none⟩ u5).ownsRow B E 1 v n xs :=
  wr_row hz (wr_row hz (wr_row hz (wr_row hz (wr_row hz (wr_row hz h 0 u0) 1 u1) 2 u2) 3 u3) 4 u4) 5 u5
set_option maxRecDepth 100000 in
set_option maxHeartbeats 4000000 in
theorem write_yes (a f : Int) (q : Option Addr) (n c : Nat) (vs : List Int) (h : rightWB ⟨a, f, 0, 0, 0⟩ n = true) (W : World) (hv : NumsAt W .u64 (.slice q n c) vs) : Calls Try.prog 13 #[.int .i64 a, .int .i64 f, .slice q n c] W fun e w' => (∃ q' c', e = .returned (.tuple #[wrV ⟨a, f, 0, 0, 0⟩ (.slice q' n c'), .int .i64 0]) ∧ w'.ownsRow W.heap.size 27 1 (.slice q' n c') n (vs.map (Value.int .u64))) ∧ Below W.heap.size W w' := by
  have hn16 : n ≤ 16 := by
    unfold rightWB at h; simp at h; omega
  have HL := Lib.hid (show n = vs.length by obtain ⟨p0, cap0, e0, _⟩ := hv; injection e0)
  have HV := Lib.hid hv
  clear hv
  have HC := Lib.hid (fun Z : World => checkWrite_c ⟨a, f, 0, 0, 0⟩ q n c ⟨Int.le_refl 0, by show (0 : Int) ≤ 18446744073709551615; omega⟩ Z)
  rw [if_pos h] at HC
  unfold wrV at HC
  simp only at HC
  clear h
  obtain ⟨w1, hw1⟩ : ∃ X : World, X = (W.alloc (.cells #[.int .i64 0, .int .i64 0, .slice none 0 0, .int .i64 0, .int .u64 0, .int .i64 0] 34)).alloc (.cells #[.int .i64 a, .int .i64 f, .slice q n c, .int .i64 0, .int .u64 0, .int .i64 0] 34) := ⟨_, rfl⟩
  have HZ := Lib.hid (show WrBox w1 W.heap.size ⟨0, 0, 0, 0, 0⟩ (.slice none 0 0) by rw [hw1]; exact ((((Below.refl _ _).alloc (Nat.le_refl _) _).block W.heap.size (by simp)).trans (World.alloc_heap_new W _)))
  have HX := Lib.hid (show WrBox w1 (W.heap.size + 1) ⟨a, f, 0, 0, 0⟩ (.slice q n c) by rw [hw1]; have e := World.alloc_heap_new (W.alloc (.cells #[.int .i64 0, .int .i64 0, .slice none 0 0, .int .i64 0, .int .u64 0, .int .i64 0] 34)) (.cells #[.int .i64 a, .int .i64 f, .slice q n c, .int .i64 0, .int .u64 0, .int .i64 0] 34); rw [World.size_alloc] at e; exact e)
  have HB := Lib.hid (show Below W.heap.size W w1 by rw [hw1]; exact below2 _ _ _)
  go_enter Try.func13, Try.ntmps13
  go_wp2_with fail
  rw [← hw1]
  clear hw1
  refine (HC.out w1).mono ?_
  rintro e w2 ⟨rfl, hb2⟩
  have HZ := Lib.hid (HZ.out.below hb2)
  have HX := Lib.hid (HX.out.below hb2)
  have HB := Lib.hid (below_then HB.out HB.out.size hb2)
  clear hb2 HC
  go_wp2_with fail
  refine (eown _ vs w2 (nums_below HV.out HB.out) (by rw [← HL.out]; omega)).mono ?_
  rintro e w3 ⟨⟨q', c', rfl, ho⟩, hb3⟩
  rw [← HL.out] at ho ⊢
  have HS := Lib.hid (show W.heap.size + 1 < w2.heap.size from HX.out.lt)
  have HO := Lib.hid ho
  have HZ := Lib.hid (HZ.out.below hb3)
  have HX := Lib.hid (HX.out.below hb3)
  have HB := Lib.hid (below_then HB.out HB.out.size hb3)
  clear hb3 ho hn16
  have k9 := HX.out.marks 2
  have HB := Lib.hid (HB.out.setCell (p := ⟨W.heap.size + 1, 2, none⟩) (Nat.le_succ _) (.slice q' n c'))
  have HO := Lib.hid (wr_row HS.out HO.out 2 (.slice q' n c'))
  have HX' := Lib.hid (HX.out.vals (.slice q' n c'))
  have HZ' := Lib.hid (show WrBox (w3.setCell ⟨W.heap.size + 1, 2, none⟩ (.slice q' n c')) W.heap.size ⟨0, 0, 0, 0, 0⟩ (.slice none 0 0) from (Below.heap_setCell _ _ _ _ (by show W.heap.size ≠ W.heap.size + 1; omega)).trans HZ.out)
  obtain ⟨b0, b1, b2, b3, b4, b5⟩ := HX.out.cells
  obtain ⟨d0, d1, d2, d3, d4, d5⟩ := HZ.out.cells
  simp only at b0 b1 b2 b3 b4 b5 d0 d1 d2 d3 d4 d5
  have k0 := HZ.out.marks 0
  have k1 := HZ.out.marks 1
  have k2 := HZ.out.marks 2
  have k3 := HZ.out.marks 3
  have k4 := HZ.out.marks 4
  have k5 := HZ.out.marks 5
  have HP := Lib.hid (HZ'.out.put ⟨a, f, 0, 0, 0⟩ (.slice q' n c'))
  have HQ := Lib.hid (WrBox.putB HB.out (Nat.le_refl _) ⟨a, f, 0, 0, 0⟩ (.slice q' n c'))
  have HR := Lib.hid (wr_put_row (Nat.lt_of_succ_lt HS.out) HO.out (.int .i64 a) (.int .i64 f) (.slice q' n c') (.int .i64 0) (.int .u64 0) (.int .i64 0))
  simp only at HP HQ
  clear HZ' HX' HO
  go_wp2
  clear b0 b1 b2 b3 b4 b5 d0 d1 d2 d3 d4 d5 k0 k1 k2 k3 k4 k5
  revert HP HQ HR
  generalize World.setCell _ ⟨W.heap.size, 5, none⟩ _ = w5
  intro HP HQ HR
  obtain ⟨r0, r1, r2, r3, r4, r5⟩ := HP.out.cells
  simp only at r0 r1 r2 r3 r4 r5
  exact bodyPost_ret (v := .tuple #[wrV ⟨a, f, 0, 0, 0⟩ (.slice q' n c'), .int .i64 0]) (by simp [results, Try.results13, go_sem, r0, r1, r2, r3, r4, r5, wrV]) rfl ⟨⟨q', c', rfl, HR.out.mono (Nat.le_of_lt (Nat.lt_of_succ_lt HS.out))⟩, HQ.out⟩

end Go.Proofs.Ytaljpggajpoalaa
/-
  The document's comparison of values: of the same, true.
  Conditions: the ranges of Go's types.
-/
namespace Go.Proofs.Ytaljpggajpoalaa
open Go.RowKit Go.Shelf
attribute [local go_sem] Oper.semAt_some

set_option maxRecDepth 100000 in
set_option maxHeartbeats 4000000 in
theorem esame (v0 v1 : Value) (xs : List Int) (W : World) (hv0 : NumsAt W .u64 v0 xs) (hv1 : NumsAt W .u64 v1 xs) (hl : xs.length ≤ 9223372036854775807) :
    Calls Try.prog 41 #[v0, v1] W fun e w' => e = .returned (.bool true) ∧ Below W.heap.size W w' := by
  obtain ⟨p0, cap0, rfl, hc0⟩ := hv0
  obtain ⟨p1, cap1, rfl, hc1⟩ := hv1
  have H0 := Lib.hid hc0
  have H1 := Lib.hid hc1
  clear hc0 hc1
  go_enter Try.func41, Try.ntmps41
  have hne : ((xs.length : Int) != (xs.length : Int)) = false := by rw [bne_eq_false_iff_eq]
  go_wp2
  go_loopw [14] (fun iv wr => ∃ i : Nat, i ≤ xs.length ∧ iv = .int .i64 i ∧ Below W.heap.size W wr) (fun iv _ => xs.length - (intOf iv).toNat)
  case atStart => exact ⟨0, Nat.zero_le _, rfl, Below.refl _ _⟩
  case round =>
    obtain ⟨i, hi, rfl, hB⟩ := hrel
    by_cases hlt : i < xs.length
    · obtain ⟨b0, off0, rfl, hcs0⟩ := H0.out (by intro e; rw [e] at hlt; cases hlt)
      obtain ⟨b1, off1, rfl, hcs1⟩ := H1.out (by intro e; rw [e] at hlt; cases hlt)
      obtain ⟨x, hx⟩ : ∃ x, x = xs[i] := ⟨_, rfl⟩
      have x0 := below_cell hB (hcs0 i hlt)
      have y0 := below_cell hB (hcs1 i hlt)
      rw [← hx] at x0 y0
      have hcmp : (x != x) = false := by rw [bne_eq_false_iff_eq]
      clear hcs0 hcs1 hx hne
      go_wp2
      all_goals
        go_roundw
        case rel => exact ⟨i + 1, by omega, by go_num, hB⟩
        case measure => simp [intOf]; omega
    · go_wp2
      go_ret
      exact ⟨rfl, hB⟩

end Go.Proofs.Ytaljpggajpoalaa
namespace Go.Proofs.Ytaljpggajpoalaa
open Go.RowKit Go.Shelf
attribute [local go_sem] Oper.semAt_some

set_option maxRecDepth 100000 in
set_option maxHeartbeats 4000000 in
theorem esameRead (s : RdM) (v0 v1 : Value) (vs : List Int) (W : World) (hv0 : NumsAt W .u64 v0 vs) (hv1 : NumsAt W .u64 v1 vs) (hl : vs.length ≤ 9223372036854775807) :
    Calls Try.prog 16 #[rdV s v0, rdV s v1] W fun e w' => e = .returned (.bool true) ∧ Below W.heap.size W w' := by
  obtain ⟨a, f, m, p, b, t⟩ := s
  unfold rdV
  simp only
  have H0 := Lib.hid hv0
  have H1 := Lib.hid hv1
  obtain ⟨p0, cap0, rfl, -⟩ := hv0
  obtain ⟨p1, cap1, rfl, -⟩ := hv1
  have ea : (a == a) = true := beq_self_eq_true a
  have ef : (f == f) = true := beq_self_eq_true f
  have em : (m == m) = true := beq_self_eq_true m
  have ep : (p == p) = true := beq_self_eq_true p
  have eb : (b == b) = true := beq_self_eq_true b
  have et : (t == t) = true := beq_self_eq_true t
  go_enter Try.func16, Try.ntmps16
  go_wp2_with fail
  refine (esame _ _ vs _ (nums_below H0.out (below2 _ _ _)) (nums_below H1.out (below2 _ _ _)) hl).mono ?_
  rintro e w1 ⟨rfl, hb⟩
  have HB := Lib.hid (below_then (below2 _ _ _) (by simp; omega) hb)
  clear hb
  go_wp2
  go_ret
  exact ⟨rfl, HB.out⟩
set_option maxRecDepth 100000 in
set_option maxHeartbeats 4000000 in
theorem esameWrite (s : WrM) (v0 v1 : Value) (vs : List Int) (W : World) (hv0 : NumsAt W .u64 v0 vs) (hv1 : NumsAt W .u64 v1 vs) (hl : vs.length ≤ 9223372036854775807) :
    Calls Try.prog 17 #[wrV s v0, wrV s v1] W fun e w' => e = .returned (.bool true) ∧ Below W.heap.size W w' := by
  obtain ⟨a, f, p, b, t⟩ := s
  unfold wrV
  simp only
  have H0 := Lib.hid hv0
  have H1 := Lib.hid hv1
  obtain ⟨p0, cap0, rfl, -⟩ := hv0
  obtain ⟨p1, cap1, rfl, -⟩ := hv1
  have ea : (a == a) = true := beq_self_eq_true a
  have ef : (f == f) = true := beq_self_eq_true f
  have ep : (p == p) = true := beq_self_eq_true p
  have eb : (b == b) = true := beq_self_eq_true b
  have et : (t == t) = true := beq_self_eq_true t
  go_enter Try.func17, Try.ntmps17
  go_wp2_with fail
  refine (esame _ _ vs _ (nums_below H0.out (below2 _ _ _)) (nums_below H1.out (below2 _ _ _)) hl).mono ?_
  rintro e w1 ⟨rfl, hb⟩
  have HB := Lib.hid (below_then (below2 _ _ _) (by simp; omega) hb)
  clear hb
  go_wp2
  go_ret
  exact ⟨rfl, HB.out⟩

end Go.Proofs.Ytaljpggajpoalaa
