/-
  get, of package script: what a word has in a part.
  Conditions: the package's table of parts is as it was laid.
-/
import Derived.Test.YtjgdkfgcfningaaDoorSGet
import Derived.Test.YtjgdkfgcfningaaDoorGRows
namespace Go.Proofs.YtjgdkfgcfningaaDoor
open Go.RowKit Go.Shelf

/-- Where a part begins, and how wide it is. -/
def partAt (i : Nat) : Nat := [0, 8, 0, 8, 16].getD i 0
def partW (i : Nat) : Nat := [3, 6, 2, 3, 8].getD i 0
theorem part_ok {i : Nat} (h : i < 5) : 1 ≤ partW i ∧ partAt i + partW i ≤ 64 ∧ partW i ≤ 8 := by
  rcases i with _ | _ | _ | _ | _ | i <;> first | decide | omega
/-- The package's table of parts. -/
def Tab (W : World) : Prop := ∀ i, i < 5 → W.cell? ⟨0, i * 2, none⟩ = some (.int .i64 (partAt i)) ∧ W.cell? ⟨0, i * 2 + 1, none⟩ = some (.int .i64 (partW i))
theorem Tab.below {W W' : World} (h : Tab W) (hb : Below W.heap.size W W') : Tab W' := fun i hi => ⟨below_cell hb (h i hi).1, below_cell hb (h i hi).2⟩
theorem Tab.lt {W : World} (h : Tab W) : 0 < W.heap.size := World.block_lt_of_cell? _ _ (h 0 (by decide)).1
theorem Tab.keeps {S : Nat → Prop} {W W' : World} (h : Tab W) (hk : Keeps S W W') (hz : ¬ S 0) : Tab W' := fun i hi => ⟨hk.cell (h i hi).1 hz, hk.cell (h i hi).2 hz⟩
theorem getN_small (w : Nat) {i : Nat} (h : i < 5) : getN w (partAt i) (partW i) < 256 := by
  have h1 : getN w (partAt i) (partW i) < 2 ^ partW i := by unfold getN; exact Nat.mod_lt _ (Nat.two_pow_pos _)
  have h2 : 2 ^ partW i ≤ 2 ^ 8 := Nat.pow_le_pow_right (by decide) (part_ok h).2.2
  omega

set_option maxHeartbeats 1000000 in
theorem part_c (w : Nat) (hw : w < 18446744073709551616) (i : Nat) (hi : i < 5) (W : World) (ht : Tab W) :
    Calls Tryd.prog 38 #[.int .u64 w, .int .i64 (i : Int)] W fun e w' => e = .returned (.int .i64 (getN w (partAt i) (partW i) : Nat)) ∧ Below W.heap.size W w' := by
  obtain ⟨g0, g1⟩ := ht i hi
  obtain ⟨h1, h2, h3⟩ := part_ok hi
  have HC := get_yes w hw (partAt i) (partW i) h1 h2
  have hs := getN_small w hi
  obtain ⟨x, hx⟩ : ∃ x, x = getN w (partAt i) (partW i) := ⟨_, rfl⟩
  rw [← hx] at HC hs ⊢
  clear hx
  obtain ⟨pa, hpa⟩ : ∃ x, x = partAt i := ⟨_, rfl⟩
  obtain ⟨pw, hpw⟩ : ∃ x, x = partW i := ⟨_, rfl⟩
  rw [← hpa, ← hpw] at HC
  rw [← hpa] at g0
  rw [← hpw] at g1
  clear hpa hpw h1 h2 h3 ht
  go_enter Tryd.func38, Tryd.ntmps38
  go_wp2_with fail
  refine (HC W).mono ?_
  rintro e w1 ⟨rfl, hb⟩
  clear HC
  go_wp2
  go_ret
  exact ⟨rfl, hb⟩

/-- How many calls rows have together. -/
def sumL (ls : List Nat) : Nat := ls.foldl (· + ·) 0
theorem sumL_snoc (ls : List Nat) (n : Nat) : sumL (ls ++ [n]) = sumL ls + n := by simp [sumL]
/-- A row of rows of calls, of these lengths. -/
def LensAt (W : World) (v : Value) (ls : List Nat) : Prop := ∃ p c, v = .slice p ls.length c ∧ (ls ≠ [] → ∃ b off, p = some ⟨b, off, none⟩ ∧ ∀ i (h : i < ls.length), ∃ q d, W.cell? ⟨b, off + i, none⟩ = some (.slice q ls[i] d))

set_option maxHeartbeats 2000000 in
theorem calls_c (v : Value) (ls : List Nat) (W : World) (hv : LensAt W v ls) (hl : ls.length ≤ 1048576) (hs : ∀ n ∈ ls, n ≤ 1099511627776) :
    Calls Tryd.prog 42 #[v] W fun e w' => e = .returned (.int .i64 (sumL ls : Nat)) ∧ w' = W := by
  obtain ⟨p, c, rfl, hc⟩ := hv
  obtain ⟨n, hn⟩ : ∃ n, n = ls.length := ⟨_, rfl⟩
  rw [← hn] at hl ⊢
  have HN := Lib.hid hn
  have HS := Lib.hid hs
  clear hn hs
  go_enter Tryd.func42, Tryd.ntmps42
  go_wp2
  go_loop [3, 8] (fun sv iv => ∃ i s : Nat, i ≤ n ∧ iv = .int .i64 i ∧ sv = .int .i64 s ∧ s ≤ i * 1099511627776 ∧ Hid (s = sumL (ls.take i))) (fun _ iv => n - (intOf iv).toNat)
  case atStart => exact ⟨0, 0, Nat.zero_le _, rfl, rfl, Nat.zero_le _, rfl⟩
  case round =>
    obtain ⟨i, s, hi, rfl, rfl, hsi, HA⟩ := hrel
    by_cases hlt : i < n
    · have hil : i < ls.length := by have := HN.out; omega
      obtain ⟨b, off, rfl, hcs⟩ := hc (by intro e; rw [e] at hil; cases hil)
      obtain ⟨q, d, hx⟩ := hcs i hil
      have hm := HS.out _ (List.getElem_mem hil)
      have htk := List.take_succ_eq_append_getElem hil
      obtain ⟨m, hme⟩ : ∃ m, m = ls[i] := ⟨_, rfl⟩
      rw [← hme] at hx hm htk
      have HA2 := Lib.hid (show s + m = sumL (ls.take (i + 1)) by rw [htk, sumL_snoc, ← HA.out])
      clear hcs hme htk hc
      go_wp2
      go_round
      case rel => exact ⟨i + 1, s + m, by omega, by go_num, by go_num, by omega, HA2⟩
      case measure => simp [intOf]; omega
    · obtain rfl : n = i := by omega
      have HR := Lib.hid (show s = sumL ls by rw [HA.out, List.take_of_length_le (by have := HN.out; omega)])
      go_wp2
      go_ret
      exact ⟨ret_int (by rw [HR.out]), rfl⟩

end Go.Proofs.YtjgdkfgcfningaaDoor
