/-
  What an access is made of: which words are there, a part of a row, and what the three kinds do.
  Conditions: none but the ranges of Go's types; parts lie within their rows.
-/
import Derived.Test.YtcledklajcdfiaaMDouble
import Derived.Laws.EntriesVeiled
namespace Go.Proofs.Ytcledklajcdfiaa
open Go.RowKit Go.Shelf

/-- Are so many words there, from one on? -/
def thereB (n : Nat) (a k : Int) : Bool := decide (1 ≤ k) && decide (0 ≤ a) && decide (a ≤ (n : Int) - k)

set_option maxRecDepth 100000 in
set_option maxHeartbeats 1000000 in
theorem there_c (p : Option Addr) (n cap : Nat) (vl : Value) (f : Bool) (a k : Int) (hk : k ≤ 9223372036854775807) (hn : n ≤ 9223372036854775807) (W : World) :
    Calls Try.prog 69 #[.agg #[.slice p n cap, vl, .bool f], .int .i64 a, .int .i64 k] W fun e w' => e = .returned (.bool (thereB n a k)) ∧ Below W.heap.size W w' := by
  by_cases h1 : 1 ≤ k
  · by_cases h2 : 0 ≤ a
    · by_cases h3 : a ≤ (n : Int) - k
      · have hr : thereB n a k = true := by simp [thereB, h1, h2, h3]
        have HR := Lib.hid hr
        clear hr
        go_enter Try.func69, Try.ntmps69
        go_wp2
        go_ret
        exact ⟨ret_bool HR.out.symm, (Below.refl _ _).alloc (Nat.le_refl _) _⟩
      · have hr : thereB n a k = false := by simp [thereB, h3]
        have HR := Lib.hid hr
        clear hr
        go_enter Try.func69, Try.ntmps69
        go_wp2
        go_ret
        exact ⟨ret_bool HR.out.symm, (Below.refl _ _).alloc (Nat.le_refl _) _⟩
    · have hr : thereB n a k = false := by simp [thereB, h2]
      have HR := Lib.hid hr
      clear hr
      go_enter Try.func69, Try.ntmps69
      go_wp2
      go_ret
      exact ⟨ret_bool HR.out.symm, (Below.refl _ _).alloc (Nat.le_refl _) _⟩
  · have hr : thereB n a k = false := by simp [thereB, h1]
    have HR := Lib.hid hr
    clear hr
    go_enter Try.func69, Try.ntmps69
    go_wp2
    go_ret
    exact ⟨ret_bool HR.out.symm, (Below.refl _ _).alloc (Nat.le_refl _) _⟩

set_option maxRecDepth 100000 in
set_option maxHeartbeats 1000000 in
theorem cutW_c (b off n cap a k : Nat) (hk : 1 ≤ k) (h : a + k ≤ cap) (hc : cap ≤ 9223372036854775807) (W : World) :
    Calls Try.prog 86 #[.slice (some ⟨b, off, none⟩) n cap, .int .i64 a, .int .i64 k] W fun e w' => e = .returned (.slice (some ⟨b, off + a, none⟩) k k) ∧ w' = W := by
  go_enter Try.func86, Try.ntmps86
  go_wp2
  go_ret
  rw [show a + k - a = k by omega]
  exact ⟨rfl, rfl⟩
set_option maxRecDepth 100000 in
set_option maxHeartbeats 1000000 in
theorem cutB_c (b off n cap a k : Nat) (hk : 1 ≤ k) (h : a + k ≤ cap) (hc : cap ≤ 9223372036854775807) (W : World) :
    Calls Try.prog 89 #[.slice (some ⟨b, off, none⟩) n cap, .int .i64 a, .int .i64 k] W fun e w' => e = .returned (.slice (some ⟨b, off + a, none⟩) k k) ∧ w' = W := by
  go_enter Try.func89, Try.ntmps89
  go_wp2
  go_ret
  rw [show a + k - a = k by omega]
  exact ⟨rfl, rfl⟩

set_option maxRecDepth 100000 in
theorem load_c (k a o n : Int) (v : Value) (W : World) : Calls Try.prog 98 #[.agg #[.int .i64 k, .int .i64 a, .int .u64 o, .int .u64 n], v] W fun e w' => e = .returned (.bool true) ∧ Below W.heap.size W w' := by
  go_enter Try.func98, Try.ntmps98
  go_wp2
  go_ret
  exact ⟨rfl, (Below.refl _ _).alloc (Nat.le_refl _) _⟩

/-- What a store leaves: of what was there, one cell is another one. -/
def Stores (p : Addr) (u : Value) (W w' : World) : Prop := Below W.heap.size (W.setCell p u) w'
theorem below_both {W W1 : World} (h : Below W.heap.size W W1) (p : Addr) (u : Value) : Stores p u W (W1.setCell p u) := by
  refine ⟨h.os, h.tape, h.output, by simp [World.setCell]; exact h.size, fun k hk => ?_⟩
  have := h.block k hk
  simp only [World.setCell, Array.getElem?_modify]
  split <;> rw [this]
theorem Stores.after {p : Addr} {u : Value} {W X Y : World} (h : Below W.heap.size W X) (k : Stores p u X Y) : Stores p u W Y :=
  (below_both h p u).trans (Below.mono k h.size)
theorem Stores.then {p : Addr} {u : Value} {W X Y : World} (h : Stores p u W X) (k : Below W.heap.size X Y) : Stores p u W Y := Below.trans h k
theorem Stores.size {p : Addr} {u : Value} {W X : World} (h : Stores p u W X) : W.heap.size ≤ X.heap.size := by
  have := Below.size h; simpa [World.setCell] using this
theorem Stores.keeps {p : Addr} {u : Value} {W X : World} (h : Stores p u W X) : Keeps (· = p.block) W X :=
  (Keeps.setCell W (S := (· = p.block)) rfl u).trans (Keeps.of_below (by have := h; unfold Stores at this; simpa [World.setCell] using this))
theorem Stores.cell {p : Addr} {u : Value} {W X : World} (h : Stores p u W X) {q : Addr} {v : Value} (hq : W.cell? q = some v) (hne : q.block ≠ p.block) : X.cell? q = some v := h.keeps.cell hq hne
theorem Stores.frozen {p : Addr} {u : Value} {W X : World} (h : Stores p u W X) {q : Addr} (hq : q.block < W.heap.size) (hne : q.block ≠ p.block) : X.frozen? q = W.frozen? q :=
  World.frozen?_of_block (h.keeps.block _ hq hne)

set_option maxRecDepth 100000 in
theorem store_c (k a o n : Int) (b off : Nat) (old : Value) (W : World) (hc : W.cell? ⟨b, off, none⟩ = some old) (hf : W.frozen? ⟨b, off, none⟩ = false) :
    Calls Try.prog 99 #[.agg #[.int .i64 k, .int .i64 a, .int .u64 o, .int .u64 n], .slice (some ⟨b, off, none⟩) 1 1] W fun e w' => e = .returned (.bool true) ∧ Stores ⟨b, off, none⟩ (.int .u64 n) W w' := by
  have hc1 : (W.alloc (.cells #[.int .i64 k, .int .i64 a, .int .u64 o, .int .u64 n] 106)).cell? ⟨b, off, none⟩ = some old := by
    rw [World.cell?_alloc_lt _ _ _ (World.block_lt_of_cell? W _ hc)]; exact hc
  have hf1 : (W.alloc (.cells #[.int .i64 k, .int .i64 a, .int .u64 o, .int .u64 n] 106)).frozen? ⟨b, off, none⟩ = false :=
    (((Below.refl W.heap.size W).alloc (Nat.le_refl _) _).frozen (World.block_lt_of_cell? W _ hc)).trans hf
  go_enter Try.func99, Try.ntmps99
  go_wp2
  go_ret
  exact ⟨rfl, below_both ((Below.refl _ _).alloc (Nat.le_refl _) _) _ _⟩

set_option maxHeartbeats 2000000 in
theorem deeds_c (W : World) : Calls Try.prog 87 #[] W fun e w' => e = .returned (.agg #[.nilFunc, .func (.func 98) #[] #[], .func (.func 99) #[] #[], .func (.func 100) #[] #[]]) ∧ Below W.heap.size W w' := by
  go_enter Try.func87, Try.ntmps87
  go_wp2
  exact bodyPost_ret (v := .agg #[.nilFunc, .func (.func 98) #[] #[], .func (.func 99) #[] #[], .func (.func 100) #[] #[]]) (by simp [results, Try.results87, go_sem]) rfl ⟨rfl, (Below.refl _ _).alloc (Nat.le_refl _) _⟩

end Go.Proofs.Ytcledklajcdfiaa
