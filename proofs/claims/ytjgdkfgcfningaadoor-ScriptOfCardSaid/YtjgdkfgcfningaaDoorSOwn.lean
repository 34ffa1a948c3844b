/-
  Rows are cloned, and cut short; own, of the statements of layer 3: a script in memory of its own, its rows cut short.
  Conditions: as each has them.
-/
import Derived.Test.YtjgdkfgcfningaaDoorSSame2
namespace Go.Proofs.YtjgdkfgcfningaaDoor
open Go.RowKit Go.Shelf

theorem cellsC_take : ∀ (l : List CallM) (k : Nat), cellsC (l.take k) = (cellsC l).take (k * 5)
  | [], k => by simp [cellsC]
  | x :: r, 0 => by simp [cellsC]
  | x :: r, k + 1 => by
    rw [List.take_succ_cons, cellsC, cellsC, cellsC_take r k, show (k + 1) * 5 = (cells5 x).length + k * 5 by simp [cells5]; omega, List.take_length_add_append]
theorem VRow.take {W : World} {p : Option Addr} {n c : Nat} {xs : List CallM} (h : VRow W p n c 5 (cellsC xs)) (k : Nat) (hk : k ≤ n) : VRow W p k c 5 (cellsC (xs.take k)) := by
  have hl := h.len
  rw [cellsC_length] at hl
  refine ⟨by rw [cellsC_length, List.length_take]; omega, Nat.le_trans hk h.room, h.nil, fun hne => ?_⟩
  rw [cellsC_take] at hne ⊢
  obtain ⟨b, off, hp, hc⟩ := h.cells (by intro e; rw [e] at hne; simp at hne)
  refine ⟨b, off, hp, fun j hj => ?_⟩
  rw [List.getElem_take]
  exact hc j (by rw [List.length_take] at hj; omega)
theorem RI.take {w : World} {p : Option Addr} {n c : Nat} {xs : List Int} (h : RI w p n c xs) (m : Nat) (hm : m ≤ n) : RI w p m c (xs.take m) := by
  obtain ⟨q, cap, e, hc⟩ := h.nums
  injection e with e1 e2 e3
  have hl : (xs.take m).length = m := by rw [List.length_take]; have := h.len; omega
  refine ⟨⟨p, c, by rw [hl], fun hne => ?_⟩, hl.symm, Nat.le_trans hm h.room, h.nil⟩
  have hne' : xs ≠ [] := by rintro rfl; simp at hne
  obtain ⟨b, off, hq, hcs⟩ := hc hne'
  refine ⟨b, off, by rw [e1]; exact hq, fun i hi => ?_⟩
  rw [List.getElem_take]
  exact hcs i (by rw [List.length_take] at hi; omega)
theorem RI.of_owns {w : World} {B : Nat} {p : Option Addr} {n m c : Nat} {xs : List Int} (h : w.ownsRow B 3 1 (.slice p n c) m (xs.map (Value.int .i64))) : RI w p n c xs := by
  obtain ⟨hnm, hr, hn0⟩ := owns_room h
  have hl : xs.length = m := by have := h.1; simpa using this
  exact ⟨nums_of_owns hl h, by omega, hr, hn0⟩
theorem ints_size (w : World) : (sizeOf (Tryd.prog.elem 23)).run Tryd.prog w = .ok 1 w := by go_simp
theorem calls_size (w : World) : (sizeOf (Tryd.prog.elem 47)).run Tryd.prog w = .ok 5 w := by go_simp
set_option maxRecDepth 100000 in
theorem run_cutI (p : Option Addr) (n c k : Nat) (h : k ≤ c) (w : World) : (Instr.slice 23 (.slice p n c) none (some (.int .i64 (k : Int))) none).run Tryd.prog w = .ok (.slice p k c) w := by
  rw [run_slice_h w 23 p n c Tryd.underlying23 .i64 (k : Int) (by omega) (by omega), ints_size]
  have : Option.map (fun x : Addr => x.add 0) p = p := by cases p <;> simp [Addr.add_zero']
  simp [sliced, Result.andThen, this]
set_option maxRecDepth 100000 in
theorem run_cutC (p : Option Addr) (n c k : Nat) (h : k ≤ c) (w : World) : (Instr.slice 47 (.slice p n c) none (some (.int .i64 (k : Int))) none).run Tryd.prog w = .ok (.slice p k c) w := by
  rw [run_slice_h w 47 p n c Tryd.underlying47 .i64 (k : Int) (by omega) (by omega), calls_size]
  have : Option.map (fun x : Addr => x.add 0) p = p := by cases p <;> simp [Addr.add_zero']
  simp [sliced, Result.andThen, this]
set_option maxRecDepth 100000 in
theorem run_cutU (p : Option Addr) (n c k : Nat) (h : k ≤ c) (w : World) : (Instr.slice 32 (.slice p n c) none (some (.int .i64 (k : Int))) none).run Tryd.prog w = .ok (.slice p k c) w := by
  rw [run_slice_h w 32 p n c Tryd.underlying32 .i64 (k : Int) (by omega) (by omega), words_size]
  have : Option.map (fun x : Addr => x.add 0) p = p := by cases p <;> simp [Addr.add_zero']
  simp [sliced, Result.andThen, this]
theorem run_minI (n k m : Nat) (hk : k = min n m) (w : World) : (Builtin.min_ #[3, 3] 3 #[.int .i64 (n : Int), .int .i64 (m : Int)]).run Tryd.prog w = .ok (.int .i64 (k : Int)) w := by
  have : (if m < n then (m : Int) else n) = (k : Int) := by rw [hk]; split <;> omega
  simp [Builtin.min_, Builtin.min2, this]

set_option maxHeartbeats 2000000 in
theorem cloneC (v : Value) (n : Nat) (xs : List Value) (W : World) (hv : ValsAt W v 5 n xs) (h1 : ∀ u ∈ xs, u.oneCell' = true) (hn : n ≤ 1099511627776) :
    Calls Tryd.prog 26 #[v] W fun e w' => OwnsNew W.heap.size 53 5 n xs e w' ∧ Below W.heap.size W w' := by
  obtain ⟨hlen, p, cap, rfl, ⟨rfl, rfl, rfl⟩ | ⟨ad, rfl, hcells⟩⟩ := hv
  · obtain rfl : xs = [] := List.eq_nil_of_length_eq_zero (by omega)
    have hcmp := fun w => Lib.run_eql_slice_nil (P := Tryd.prog) w 47 53 none 0 0 0 0 Tryd.underlying47
    go_enter Tryd.func26, Tryd.ntmps26
    go_wp2
    go_ret
    exact ⟨⟨_, rfl, World.ownsRow_nil _ _ _ _⟩, Below.refl _ _⟩
  · have hcmp := fun w => Lib.run_eql_slice_nil (P := Tryd.prog) w 47 53 (some ad) n cap 0 0 Tryd.underlying47
    obtain ⟨i0, zz, hi, hz0, hz1, hz2, hz3⟩ := call_info
    have hown := World.ownsRow_lit (base := W.heap.size) (e := 53) (size := 5) W #[] 0 (Nat.le_refl _) (by decide) rfl
    have hnews : ∀ j u, xs[j]? = some u → (W.alloc (Obj.cells #[] 53)).cell? (ad.add j) = some u := fun j u hj => by
      have h0 := hcells j u hj
      rw [World.cell?_alloc_lt _ _ _ (World.block_lt_of_cell? W _ h0)]
      exact h0
    have HN := Lib.hid hnews
    have H1 := Lib.hid h1
    have HO := Lib.hid hown
    clear hnews h1 hown hcells
    go_enter Tryd.func26, Tryd.ntmps26
    go_wp2_with (at_builtin; refine wpList_append_own _ rfl _ _ 47 rfl W.heap.size 53 i0 zz 5 40 Tryd.underlying47 hi hz0 hz1 hz2 hz3 (by decide) _ _ _ rfl HO.out ad n cap xs rfl hlen HN.out H1.out (by unfold maxLen; omega) (by omega) (by simp) ?_; intro v' w1 hown' hgrow _)
    go_ret
    rw [Nat.zero_add, List.nil_append] at hown'
    exact ⟨⟨v', rfl, hown'⟩, below_grown ((Below.refl _ _).alloc (Nat.le_refl _) _) hgrow (fun k e => by cases e; exact Nat.le_refl _)⟩

set_option maxHeartbeats 2000000 in
theorem cloneU (v : Value) (n : Nat) (xs : List Value) (W : World) (hv : ValsAt W v 1 n xs) (h1 : ∀ u ∈ xs, u.oneCell' = true) (hn : n ≤ 1099511627776) :
    Calls Tryd.prog 20 #[v] W fun e w' => OwnsNew W.heap.size 37 1 n xs e w' ∧ Below W.heap.size W w' := by
  obtain ⟨hlen, p, cap, rfl, ⟨rfl, rfl, rfl⟩ | ⟨ad, rfl, hcells⟩⟩ := hv
  · obtain rfl : xs = [] := List.eq_nil_of_length_eq_zero (by omega)
    have hcmp := fun w => Lib.run_eql_slice_nil (P := Tryd.prog) w 32 37 none 0 0 0 0 Tryd.underlying32
    go_enter Tryd.func20, Tryd.ntmps20
    go_wp2
    go_ret
    exact ⟨⟨_, rfl, World.ownsRow_nil _ _ _ _⟩, Below.refl _ _⟩
  · have hcmp := fun w => Lib.run_eql_slice_nil (P := Tryd.prog) w 32 37 (some ad) n cap 0 0 Tryd.underlying32
    obtain ⟨i0, hi, hz0, hz1, hz2⟩ := info_parts u64_info
    have hown := World.ownsRow_lit (base := W.heap.size) (e := 37) (size := 1) W #[] 0 (Nat.le_refl _) (by decide) rfl
    have hnews : ∀ j u, xs[j]? = some u → (W.alloc (Obj.cells #[] 37)).cell? (ad.add j) = some u := fun j u hj => by
      have h0 := hcells j u hj
      rw [World.cell?_alloc_lt _ _ _ (World.block_lt_of_cell? W _ h0)]
      exact h0
    have HN := Lib.hid hnews
    have H1 := Lib.hid h1
    have HO := Lib.hid hown
    clear hnews h1 hown hcells
    go_enter Tryd.func20, Tryd.ntmps20
    go_wp2_with (at_builtin; refine wpList_append_own _ rfl _ _ 32 rfl W.heap.size 37 i0 (.int .u64 0) 1 8 Tryd.underlying32 hi hz0 hz1 hz2 rfl (by decide) _ _ _ rfl HO.out ad n cap xs rfl hlen HN.out H1.out (by unfold maxLen; omega) (by omega) (by simp) ?_; intro v' w1 hown' hgrow _)
    go_ret
    rw [Nat.zero_add, List.nil_append] at hown'
    exact ⟨⟨v', rfl, hown'⟩, below_grown ((Below.refl _ _).alloc (Nat.le_refl _) _) hgrow (fun k e => by cases e; exact Nat.le_refl _)⟩

end Go.Proofs.YtjgdkfgcfningaaDoor
