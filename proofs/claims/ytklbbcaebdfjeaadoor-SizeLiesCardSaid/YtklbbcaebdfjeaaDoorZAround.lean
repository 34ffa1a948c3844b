/-
  Package size: Around: the block of a class that has all words of one that may be.
  Conditions: the package's table of sizes is as it was laid; the ranges of Go's types.
-/
import Derived.Test.YtklbbcaebdfjeaaDoorZClass
import Derived.Stop.RegionWithIn
namespace Go.Proofs.YtklbbcaebdfjeaaDoor
open Go.RowKit Go.Shelf
attribute [local go_sem] Oper.semAt_some

/-- A block as numbers. -/
abbrev Blk := { p : Nat × Nat // p.1 ≤ 4096 ∧ p.2 < 4 }
abbrev blkE (s : Blk) : Value := blkV (s.1.1 : Int) (s.1.2 : Int)
/-- The i-th block told around the one at a of the class k. -/
def arAt (a k i : Nat) : Nat × Nat := (a - a % szN (k + i), k + i)
def arL (a k n : Nat) : List (Nat × Nat) := (List.range n).map (arAt a k)
theorem arL_succ (a k n : Nat) : arL a k (n + 1) = arL a k n ++ [arAt a k n] := by unfold arL; rw [List.range_succ, List.map_append]; rfl
theorem Tab.belowB {W W' : World} {B : Nat} (h : Tab W) (hB : 0 < B) (hb : Below B W W') : Tab W' := fun i hi => (hb.cell (p := ⟨0, i, none⟩) hB).trans (h i hi)
theorem grownBy_drew' (W : World) : W.grownBy W.drew none := ⟨rfl, rfl, rfl, Nat.le_refl _, fun _ _ _ => rfl⟩
theorem yield_b {e : Ending} {P Q : Prop} (h : (e = .returned (.bool true) ∧ P) ∨ (e = .returned (.bool false) ∧ Q)) : ∃ b, e = .returned (.bool b) ∧ Hid ((b = true → P) ∧ (b = false → Q)) := by
  rcases h with ⟨rfl, h⟩ | ⟨rfl, h⟩
  · exact ⟨true, rfl, fun _ => h, fun h => by cases h⟩
  · exact ⟨false, rfl, fun h => (by cases h), fun _ => h⟩

set_option maxRecDepth 100000 in
set_option maxHeartbeats 4000000 in
theorem around_stops (n : Nat) (hn : 1 ≤ n) (B b a k : Nat) (ha : a ≤ 4096) (hk : k < 4) (w : World) (hbB : b < B) (hB : B ≤ w.heap.size) (hB0 : 0 < B) (hT : Tab w) (hbx : BBox w b a k) :
    SeqBound Fence.wide n Tryd.prog 47 #[] #[.pointer (some ⟨b, 0, none⟩)] (fun s : Blk => #[blkE s]) (Below B) (fun xs => xs.map (·.1) = arL a k (4 - k)) (fun pre => pre.length ≤ 4 - k ∧ pre.map (·.1) = arL a k pre.length) (4 - k) w := fun l J Jx W hW hJ hJx hY h0 => by
  refine callsIn_of_wp Tryd.func47 rfl trivial ?_ rfl
  simp only [Tryd.ntmps47, List.size_toArray, List.length_cons, List.length_nil, Nat.reduceAdd, Nat.reduceSub, Array.replicate_succ, Array.replicate_zero, List.push_toArray, List.append_toArray, List.nil_append, List.cons_append]
  have HX0 := Lib.hid (show Tab W ∧ BBox W b a k from ⟨hT.below hW, (hW.block b (by omega)).trans hbx⟩)
  have HJ := Lib.hid hJ
  have HBW := Lib.hid (Nat.le_trans hB hW.size)
  obtain ⟨c0, c1⟩ := HX0.out.2.cells
  clear hW hT hbx hJ
  gi_wp2
  gi_loopw [3] (fun iv wr => ∃ (p : Nat) (pre : List Blk), k ≤ p ∧ p ≤ 4 ∧ iv = .int .i64 (p : Int) ∧ Hid (Tab wr ∧ BBox wr b a k ∧ B ≤ wr.heap.size) ∧ J pre wr ∧ Hid (pre.length = p - k ∧ pre.map (·.1) = arL a k (p - k))) (fun iv _ => 4 - (intOf iv).toNat)
  case atStart => exact ⟨k, [], by omega, by omega, rfl, ⟨HX0.out.1, HX0.out.2, HBW.out⟩, h0, by rw [Nat.sub_self]; exact ⟨rfl, rfl⟩⟩
  case round =>
    obtain ⟨p, pre, hkp, hp, rfl, HX, hJp, HL⟩ := hrel
    by_cases hlt : p < 4
    · have HJd := HJ.out pre _ _ none hJp (grownBy_drew' wr) (fun r e => by cases e)
      have hcp := HX.out.1 p hlt
      obtain ⟨hs1, hs2⟩ := sz_ok hlt
      obtain ⟨d0, d1⟩ := HX.out.2.1.cells
      have HA := Lib.hid (show arAt a k (p - k) = (a - a % szN p, p) by unfold arAt; rw [show k + (p - k) = p by omega])
      obtain ⟨s, hs⟩ : ∃ s, s = szN p := ⟨_, rfl⟩
      rw [← hs] at hcp hs1 hs2 HA
      obtain ⟨y, hy0⟩ : ∃ y, y = a - a % s := ⟨_, rfl⟩
      have hy4 : y ≤ 4096 := by rw [hy0]; exact Nat.le_trans (Nat.sub_le _ _) ha
      have HY := Lib.hid (show IntKind.i64.wrap ((a : Int) - (a : Int).tmod (s : Int)) = (y : Int) by
        have h1 : a % s ≤ a := Nat.mod_le _ _
        have h2 : ((a % s : Nat) : Int) = (a : Int).tmod (s : Int) := rfl
        rw [← h2, hy0, IntWalk.i64_in _ (by omega)]
        omega)
      rw [← hy0] at HA
      clear hs hy0
      obtain ⟨fn, tmps, assign, body, hy, hR⟩ := hY pre ⟨(y, p), hy4, hlt⟩ _ HJd (by rw [HL.out.1]; omega)
      have HL2 := Lib.hid (show (pre ++ [(⟨(y, p), hy4, hlt⟩ : Blk)]).length = p + 1 - k ∧ (pre ++ [(⟨(y, p), hy4, hlt⟩ : Blk)]).map (·.1) = arL a k (p + 1 - k) from ⟨by rw [List.length_append, HL.out.1, List.length_singleton]; omega, by rw [List.map_append, HL.out.2, show p + 1 - k = (p - k) + 1 by omega, arL_succ, HA.out]; rfl⟩)
      have HXd := Lib.hid (show Tab wr.drew ∧ BBox wr.drew b a k ∧ B ≤ wr.drew.heap.size from HX.out)
      dsimp only [blkE, blkV] at hy
      rw [← HY.out] at hy
      clear HA HY hJp
      have hs0 : ¬ s = 0 := by omega
      gi_wp2_with fail
      gi_region_with (refine hR.mono ?_; intro e W3 h3; obtain ⟨bb, rfl, h4⟩ := yield_b h3; clear h3)
      all_goals
        cases bb with
        | true =>
          obtain ⟨hJ3, hk3⟩ := h4.out.1 rfl
          gi_wp2
          go_roundw
          case rel => exact ⟨p + 1, pre ++ [⟨(y, p), hy4, hlt⟩], by omega, by omega, by go_num, ⟨HXd.out.1.belowB hB0 hk3, (hk3.block b (by have := HXd.out.2.2; omega)).trans HXd.out.2.1, Nat.le_trans HXd.out.2.2 hk3.size⟩, hJ3, HL2⟩
          case measure => simp [intOf]; omega
        | false =>
          have hJx3 := h4.out.2 rfl
          gi_wp2
          refine bodyPost_ret (results_none rfl _ _ _) rfl ?_
          exact ⟨⟨_, rfl⟩, .inr ⟨pre ++ [⟨(y, p), hy4, hlt⟩], ⟨by rw [HL2.out.1]; omega, by rw [HL2.out.1]; exact HL2.out.2⟩, hJx3⟩⟩
    · obtain rfl : p = 4 := by omega
      gi_wp2
      go_end0
      exact ⟨⟨_, rfl⟩, .inl ⟨pre, HL.out.2, hJp⟩⟩

end Go.Proofs.YtklbbcaebdfjeaaDoor
