/-
  Package size: Parts: the blocks of a class within one that may be, in new memory.
  Conditions: the package's table of sizes is as it was laid; the ranges of Go's types.
-/
import Derived.Test.YtklbbcaebdfjeaaDoorZLeast
namespace Go.Proofs.YtklbbcaebdfjeaaDoor
open Go.RowKit Go.Shelf
attribute [local go_sem] Oper.semAt_some

/-- The i-th block of the class j from a on. -/
def inAt (a j i : Nat) : Nat × Nat := (a + i * szN j, j)
def inL (a j n : Nat) : List (Nat × Nat) := (List.range n).map (inAt a j)
theorem inL_succ (a j n : Nat) : inL a j (n + 1) = inL a j n ++ [inAt a j n] := by unfold inL; rw [List.range_succ, List.map_append]; rfl
theorem inL_length (a j n : Nat) : (inL a j n).length = n := by simp [inL]
/-- How many blocks of the class j one of the class k has. -/
def inN (k j : Nat) : Nat := szN k / szN j
theorem inN_mul {k j : Nat} (hk : k < 4) (hj : j ≤ k) : inN k j * szN j = szN k ∧ inN k j ≤ 8 ∧ 1 ≤ inN k j := by
  have : ∀ k, k < 4 → ∀ j, j < 4 → j ≤ k → inN k j * szN j = szN k ∧ inN k j ≤ 8 ∧ 1 ≤ inN k j := by decide
  exact this k hk j (by omega) hj

theorem inside_c (a c d : Int) (W : World) : Calls Tryd.prog 40 #[blkV a c, .int .i64 d] W fun e w' => e = .returned (.func (.func 46) #[] #[.pointer (some ⟨W.heap.size, 0, none⟩), .pointer (some ⟨W.heap.size + 1, 0, none⟩)]) ∧ w' = (W.alloc (.cells #[.int .i64 a, .int .i64 c] 33)).alloc (.cells #[.int .i64 d] 3) := by
  go_enter Tryd.func40, Tryd.ntmps40
  go_wp2
  go_ret
  exact ⟨rfl, rfl⟩

set_option maxRecDepth 100000 in
set_option maxHeartbeats 4000000 in
theorem inside_stops (n : Nat) (hn : 1 ≤ n) (B b d a k j : Nat) (hk : k < 4) (hj : j ≤ k) (ha : a + szN k ≤ 4096) (w : World) (hbB : b < B) (hdB : d < B) (hB : B ≤ w.heap.size) (hB0 : 0 < B) (hT : Tab w) (hbx : BBox w b a k) (hdx : Boxed w d 3 (.int .i64 (j : Int))) :
    SeqBound Fence.wide n Tryd.prog 46 #[] #[.pointer (some ⟨b, 0, none⟩), .pointer (some ⟨d, 0, none⟩)] (fun s : Blk => #[blkE s]) (Below B) (fun xs => xs.map (·.1) = inL a j (inN k j)) (fun _ => True) (inN k j) w := fun l J Jx W hW hJ hJx hY h0 => by
  refine callsIn_of_wp Tryd.func46 rfl trivial ?_ rfl
  simp only [Tryd.ntmps46, List.size_toArray, List.length_cons, List.length_nil, Nat.reduceAdd, Nat.reduceSub, Array.replicate_succ, Array.replicate_zero, List.push_toArray, List.append_toArray, List.nil_append, List.cons_append]
  have HX0 := Lib.hid (show Tab W ∧ BBox W b a k ∧ Boxed W d 3 (.int .i64 (j : Int)) ∧ B ≤ W.heap.size from ⟨hT.below hW, (hW.block b (by omega)).trans hbx, (hW.block d (by omega)).trans hdx, Nat.le_trans hB hW.size⟩)
  have HJ := Lib.hid hJ
  obtain ⟨c0, c1⟩ := HX0.out.2.1.cells
  obtain ⟨hm1, hm2, hm3⟩ := inN_mul hk hj
  obtain ⟨hs1, hs2⟩ := sz_ok (show j < 4 by omega)
  obtain ⟨hq1, hq2⟩ := sz_ok hk
  have HSZ := Lib.hid (fun (X : World) (h : Tab X) => And.intro (h k hk) (h j (by omega)))
  have HA := Lib.hid (fun i : Nat => show inAt a j i = (a + i * szN j, j) from rfl)
  generalize hm : inN k j = m at *
  obtain ⟨s, hs⟩ : ∃ s, s = szN j := ⟨_, rfl⟩
  have HS := Lib.hid hs
  rw [← hs] at hm1 hs1 hs2 HSZ HA
  generalize szN k = q at *
  have hmx : Tryd.prog.follows .mixedOrders = true := by kernel_rfl
  have HM := Lib.hid hm1
  clear hW hT hbx hdx hJ hm hm1 hs
  gi_wp2
  gi_loopw [4] (fun iv wr => ∃ (i t : Nat) (pre : List Blk), t ≤ q ∧ iv = .int .i64 ((a : Int) + (t : Int)) ∧ Hid (Tab wr ∧ BBox wr b a k ∧ Boxed wr d 3 (.int .i64 (j : Int)) ∧ B ≤ wr.heap.size) ∧ J pre wr ∧ Hid (t = i * s ∧ pre.length = i ∧ pre.map (·.1) = inL a j i)) (fun iv _ => a + q - (intOf iv).toNat)
  case atStart => exact ⟨0, 0, [], by omega, by go_num, HX0, h0, by simp, rfl, rfl⟩
  case round =>
    obtain ⟨i, t, pre, htq, rfl, HX, hJp, HL⟩ := hrel
    obtain ⟨d0, d1⟩ := HX.out.2.1.cells
    have dj := HX.out.2.2.1.cell
    obtain ⟨z0, z1⟩ := HSZ.out _ HX.out.1
    by_cases hlt : t < q
    · have him : i < m := by
        rcases Nat.lt_or_ge i m with h | h
        · exact h
        · have h1 := Nat.mul_le_mul_right s h
          have h2 := HL.out.1
          have h3 := HM.out
          omega
      have hts : t + s ≤ q := by
        have h1 := Nat.mul_le_mul_right s him
        rw [Nat.succ_mul] at h1
        have h2 := HL.out.1
        have h3 := HM.out
        omega
      have hx4 : a + t ≤ 4096 := by omega
      have HJd := HJ.out pre _ _ none hJp (grownBy_drew' wr) (fun r e => by cases e)
      have hj4 : j < 4 := by omega
      obtain ⟨fn, tmps, assign, body, hy, hR⟩ := hY pre ⟨(a + t, j), hx4, hj4⟩ _ HJd (by rw [HL.out.2.1]; exact him)
      have HL2 := Lib.hid (show t + s = (i + 1) * s ∧ (pre ++ [(⟨(a + t, j), hx4, hj4⟩ : Blk)]).length = i + 1 ∧ (pre ++ [(⟨(a + t, j), hx4, hj4⟩ : Blk)]).map (·.1) = inL a j (i + 1) from ⟨by rw [Nat.succ_mul, HL.out.1], by rw [List.length_append, HL.out.2.1]; rfl, by rw [List.map_append, HL.out.2.2, inL_succ, HA.out i, ← HL.out.1]; rfl⟩)
      have HXd := Lib.hid (show Tab wr.drew ∧ BBox wr.drew b a k ∧ Boxed wr.drew d 3 (.int .i64 (j : Int)) ∧ B ≤ wr.drew.heap.size from HX.out)
      dsimp only [blkE, blkV] at hy
      rw [Int.natCast_add] at hy
      have e0 : wr.drew.cell? ⟨d, 0, none⟩ = some (.int .i64 (j : Int)) := dj
      clear him hJp HX HL HSZ
      gi_wp2_with fail
      gi_region_o
      all_goals
        gi_wp2
        refine hR.mono ?_
        rintro e W3 (⟨rfl, hJ3, hk3⟩ | ⟨rfl, hJx3⟩)
        · have HX3 := Lib.hid (show Tab W3 ∧ BBox W3 b a k ∧ Boxed W3 d 3 (.int .i64 (j : Int)) ∧ B ≤ W3.heap.size from ⟨HXd.out.1.belowB hB0 hk3, (hk3.block b (by have := HXd.out.2.2.2; omega)).trans HXd.out.2.1, (hk3.block d (by have := HXd.out.2.2.2; omega)).trans HXd.out.2.2.1, Nat.le_trans HXd.out.2.2.2 hk3.size⟩)
          have q1 := HX3.out.2.2.1.cell
          have q0 := HX3.out.1 j (by omega)
          rw [← HS.out] at q0
          gi_wp2
          go_roundw
          case rel => exact ⟨i + 1, t + s, pre ++ [⟨(a + t, j), hx4, hj4⟩], by omega, by go_num, HX3, hJ3, HL2⟩
          case measure => simp [intOf]; omega
        · gi_wp2
          refine bodyPost_ret (results_none rfl _ _ _) rfl ?_
          exact ⟨⟨_, rfl⟩, .inr ⟨pre ++ [⟨(a + t, j), hx4, hj4⟩], trivial, hJx3⟩⟩
    · obtain rfl : q = t := by omega
      have HI := Lib.hid (show i = m from by
        have h1 := HL.out.1
        have h2 := HM.out
        rw [h1] at h2
        exact (Nat.eq_of_mul_eq_mul_right (by omega) h2).symm)
      have HJd := Lib.hid (HJ.out pre _ _ none hJp (grownBy_drew' wr) (fun r e => by cases e))
      gi_wp2_with fail
      gi_region_o
      all_goals
        gi_wp2
        go_end0
        exact ⟨⟨_, rfl⟩, .inl ⟨pre, by rw [← HI.out]; exact HL.out.2.2, HJd.out⟩⟩

end Go.Proofs.YtklbbcaebdfjeaaDoor
