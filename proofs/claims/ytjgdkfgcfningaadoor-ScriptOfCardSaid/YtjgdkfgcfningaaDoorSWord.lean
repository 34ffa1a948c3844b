/-
  word, of package script: a word with these numbers in these parts.
  Conditions: the package's table of parts is as it was laid; each number fits.
-/
import Derived.Test.YtjgdkfgcfningaaDoorSParts
import Derived.Deep.RegionHeld3
import Derived.Deep.Cut
namespace Go.Proofs.YtjgdkfgcfningaaDoor
open Go.RowKit Go.Shelf

/-- A row of parts and numbers. -/
def HasAt (W : World) (v : Value) (l : List (Nat × Nat)) : Prop := ∃ p c, v = .slice p l.length c ∧ (l ≠ [] → ∃ b off, p = some ⟨b, off, none⟩ ∧ ∀ i (h : i < l.length), W.cell? ⟨b, off + i * 2, none⟩ = some (.int .i64 l[i].1) ∧ W.cell? ⟨b, off + i * 2 + 1, none⟩ = some (.int .i64 l[i].2))
def setH (w : Nat) (h : Nat × Nat) : Nat := setN w (partAt h.1) (partW h.1) h.2
def wordN (l : List (Nat × Nat)) : Nat := l.foldl setH 0
theorem wordN_snoc (l : List (Nat × Nat)) (h : Nat × Nat) : wordN (l ++ [h]) = setH (wordN l) h := by simp [wordN]
theorem setH_lt {w : Nat} {h : Nat × Nat} (hw : w < 18446744073709551616) (h1 : h.1 < 5) (h2 : h.2 < 2 ^ partW h.1) : setH w h < 18446744073709551616 := by
  have := (part_ok h1).2.1
  exact setN_lt w _ _ _ hw this h2

set_option maxRecDepth 100000 in
set_option maxHeartbeats 4000000 in
theorem word_c (v : Value) (l : List (Nat × Nat)) (W : World) (hv : HasAt W v l) (hl : l.length ≤ 1048576) (ht : Tab W) (hh : ∀ h ∈ l, h.1 < 5 ∧ h.2 < 2 ^ partW h.1) :
    Calls Tryd.prog 31 #[v] W fun e w' => e = .returned (.int .u64 (wordN l : Nat)) ∧ Below W.heap.size W w' := by
  obtain ⟨p, c, rfl, hc⟩ := hv
  obtain ⟨n, hn⟩ : ∃ n, n = l.length := ⟨_, rfl⟩
  rw [← hn] at hl ⊢
  have HN := Lib.hid hn
  have HH := Lib.hid hh
  have HT := Lib.hid ht
  clear hn hh ht
  go_enter Tryd.func31, Tryd.ntmps31
  go_wp2
  go_loopw [3, 8] (fun sv iv wr => ∃ i s : Nat, i ≤ n ∧ iv = .int .i64 i ∧ sv = .int .u64 s ∧ s < 18446744073709551616 ∧ Hid (s = wordN (l.take i)) ∧ Below W.heap.size W wr) (fun _ iv _ => n - (intOf iv).toNat)
  case atStart => exact ⟨0, 0, Nat.zero_le _, rfl, rfl, by decide, rfl, Below.refl _ _⟩
  case round =>
    obtain ⟨i, s, hi, rfl, rfl, hsi, HA, hB⟩ := hrel
    by_cases hlt : i < n
    · have hil : i < l.length := by have := HN.out; omega
      obtain ⟨b, off, rfl, hcs⟩ := hc (by intro e; rw [e] at hil; cases hil)
      obtain ⟨hy0, hy1⟩ := hcs i hil
      have hx0 := below_cell hB hy0
      have hx1 := below_cell hB hy1
      clear hy0 hy1
      obtain ⟨hm0, hm1⟩ := HH.out _ (List.getElem_mem hil)
      have htk := List.take_succ_eq_append_getElem hil
      obtain ⟨m, hme⟩ : ∃ m, m = l[i] := ⟨_, rfl⟩
      rw [← hme] at hx0 hx1 hm0 hm1 htk
      obtain ⟨pi, x⟩ := m
      simp only at hx0 hx1 hm0 hm1
      have HA2 := Lib.hid (show setH s (pi, x) = wordN (l.take (i + 1)) by rw [htk, wordN_snoc, ← HA.out])
      have hlt2 := setH_lt (h := (pi, x)) hsi hm0 hm1
      obtain ⟨g0, g1⟩ := (HT.out.below hB) pi hm0
      obtain ⟨ho1, ho2, ho3⟩ := part_ok hm0
      have hx256 : x < 256 := Nat.lt_of_lt_of_le hm1 (Nat.le_trans (Nat.pow_le_pow_right (by decide) ho3) (by decide))
      have HC := Lib.hid (fun w => set_yes s x hsi (by omega) (partAt pi) (partW pi) ho1 ho2 (by simpa [fitsB] using hm1) w)
      have hsz := hB.size
      have HLT := Lib.hid hlt2
      have hpi : (pi : Int) < 5 := by omega
      clear hcs hme htk hc hlt2 hm1 ho1 ho2 ho3
      obtain ⟨wA, hwA⟩ : ∃ w : World, w = wr.alloc (.cells #[.int .i64 (pi : Int), .int .i64 (x : Int)] 63) := ⟨_, rfl⟩
      have hbA : Below wr.heap.size wr wA := by rw [hwA]; exact (Below.refl _ _).alloc (Nat.le_refl _) _
      have hc0 : wA.cell? ⟨wr.heap.size, 0, none⟩ = some (.int .i64 (pi : Int)) := by rw [hwA]; simp
      have hc1 : wA.cell? ⟨wr.heap.size, 1, none⟩ = some (.int .i64 (x : Int)) := by rw [hwA]; simp
      have k0 := below_cell hbA g0
      have k1 := below_cell hbA g1
      have hHA := Lib.hid hwA
      clear hwA g0 g1
      go_upto_region 5 with (fail)
      have hcv : IntKind.u64.wrap (x : Int) = (x : Int) := by simp [IntKind.wrap, IntKind.signed, IntKind.bits]; omega
      rw [← hHA.out]
      clear hHA hx0 hx1
      obtain ⟨zb, hzb⟩ : ∃ z, z = wr.heap.size := ⟨_, rfl⟩
      rw [← hzb] at hc0 hc1 ⊢
      have hW2 : Below wA.heap.size wA wA.drew := (Below.refl _ _).drew
      obtain ⟨s2, hs2⟩ : ∃ s2, s2 = setN s (partAt pi) (partW pi) x := ⟨_, rfl⟩
      rw [← hs2] at HC
      have HS2 := Lib.hid hs2
      clear hs2 hzb
      have HSD := Lib.hid (show (wA.drew.cell? ⟨zb, 0, none⟩ = some (.int .i64 (pi : Int)) ∧ wA.drew.cell? ⟨zb, 1, none⟩ = some (.int .i64 (x : Int))) ∧ wA.drew.cell? ⟨0, pi * 2, none⟩ = some (.int .i64 (partAt pi)) ∧ wA.drew.cell? ⟨0, pi * 2 + 1, none⟩ = some (.int .i64 (partW pi)) from ⟨⟨hc0, hc1⟩, k0, k1⟩)
      go_region_held3 (fun w' => (w'.cell? ⟨zb, 0, none⟩ = some (.int .i64 (pi : Int)) ∧ w'.cell? ⟨zb, 1, none⟩ = some (.int .i64 (x : Int))) ∧ w'.cell? ⟨0, pi * 2, none⟩ = some (.int .i64 (partAt pi)) ∧ w'.cell? ⟨0, pi * 2 + 1, none⟩ = some (.int .i64 (partW pi)))
        (first
          | with_reducible exact HSD.out
          | (go_split_ands; with_reducible exact ⟨⟨below_cell hb3 (by assumption), below_cell hb3 (by assumption)⟩, below_cell hb3 (by assumption), below_cell hb3 (by assumption)⟩))
        ((go_at_call 47; refine (HC.out _).mono ?_; rintro e w3 ⟨rfl, hb3⟩; replace hW2 := below_then hW2 hW2.size hb3))
      all_goals
        have hB2 := below_then (below_then hB hsz hbA) (Nat.le_trans hsz hbA.size) hW2
        go_wp2
        go_roundw
        case rel => exact ⟨i + 1, s2, by omega, by go_num, rfl, by rw [HS2.out]; exact HLT.out, by rw [HS2.out]; exact HA2, hB2⟩
        case measure => simp [intOf]; omega
    · obtain rfl : n = i := by omega
      have HR := Lib.hid (show s = wordN l by rw [HA.out, List.take_of_length_le (by have := HN.out; omega)])
      go_wp2
      go_ret
      exact ⟨ret_int (by rw [HR.out]), hB⟩

end Go.Proofs.YtjgdkfgcfningaaDoor
