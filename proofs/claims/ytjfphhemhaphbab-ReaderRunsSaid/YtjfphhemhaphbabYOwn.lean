/-
  Package reader: rows in memory of their own; what a turn holds, and the steps that it makes.
  Conditions: the ranges of Go's types.
-/
import Derived.Test.YtjfphhemhaphbabYOld
import Derived.Laws.CopyOwn
import Derived.BigRegion
import Derived.Deep.Cut
import Derived.Deep.DeepCutAuto
import Derived.Deep.CutBlock
import Derived.WalkSpells
namespace Go.Proofs.Ytjfphhemhaphbab
open Go.RowKit Go.Shelf
attribute [local go_sem] Oper.semAt_some

/-- A block that holds these numbers. -/
def IBlock (W : World) (g : Nat) (ns : List Int) : Prop := W.heap[g]? = some (.cells (ns.map (Value.int .i64)).toArray 3 (0, 0))
theorem IBlock.lt {W : World} {g : Nat} {ns : List Int} (h : IBlock W g ns) : g < W.heap.size := (Array.getElem?_eq_some_iff.1 h).1
theorem IBlock.below {W W' : World} {g : Nat} {ns : List Int} (h : IBlock W g ns) (hb : Below W.heap.size W W') : IBlock W' g ns := (hb.block g h.lt).trans h
theorem IBlock.keeps {S : Nat → Prop} {W W' : World} {g : Nat} {ns : List Int} (h : IBlock W g ns) (hk : Keeps S W W') (hS : ¬ S g) : IBlock W' g ns := (hk.block g h.lt hS).trans h
theorem IBlock.cell {W : World} {g : Nat} {ns : List Int} (h : IBlock W g ns) (i : Nat) (hi : i < ns.length) : W.cell? ⟨g, i, none⟩ = some (.int .i64 ns[i]) := block_cell h i hi
theorem IBlock.free {W : World} {g : Nat} {ns : List Int} (h : IBlock W g ns) (i : Nat) : W.frozen? ⟨g, i, none⟩ = false := block_free h i
theorem IBlock.nums {W : World} {g : Nat} {ns : List Int} (h : IBlock W g ns) : NumsAt W .i64 (.slice (some ⟨g, 0, none⟩) ns.length ns.length) ns := by
  have := nums_block (c := ns.length) h (Nat.le_refl _)
  rwa [List.take_length] at this
theorem IBlock.owns {W : World} {B g : Nat} {ns : List Int} (h : IBlock W g ns) (hB : B ≤ g) (hl : ns.length ≤ 1099511627776) : W.ownsRow B 3 1 (.slice (some ⟨g, 0, none⟩) ns.length ns.length) ns.length (ns.map (Value.int .i64)) :=
  ⟨by rw [List.length_map]; omega, .inr ⟨g, ns.length, _, rfl, hB, h, Nat.le_refl _, by unfold maxLen; omega, by rw [List.size_toArray, List.length_map]; omega, by rw [List.toList_toArray]; exact List.take_of_length_le (by rw [List.length_map]; omega)⟩⟩

theorem run_makeI (n : Nat) (hn : n ≤ 1099511627776) (w : World) : (Instr.makeSlice 22 (.int .i64 (n : Int)) (.int .i64 (n : Int))).run Try.prog w = .ok (.slice (some ⟨w.heap.size, 0, none⟩) n n) (w.alloc (.cells (Array.replicate n (Value.int .i64 0)) 3)) := by
  obtain ⟨i0, hi, hz0, hz1, hz2⟩ := info_parts cloneI_info
  have := run_make (P := Try.prog) w 22 3 i0 (.int .i64 0) Try.underlying22 hi hz0 .i64 .i64 (n : Int) (n : Int) (by omega) (by omega) (by rw [hz2]; omega) (by omega)
  rw [this, hz1]
  have e : madeCells (Value.int .i64 0).cells ((n : Int).toNat * 1) = Array.replicate n (Value.int .i64 0) := by
    apply Array.toList_inj.1
    rw [Nat.mul_one, Int.toNat_natCast, Array.toList_replicate]
    exact toList_madeCells_one _ n
  rw [e]
  simp
set_option maxRecDepth 100000 in
set_option maxHeartbeats 4000000 in
theorem own_c (v : Value) (vs : List Int) (W : World) (hv : NumsAt W .i64 v vs) (hn : vs.length ≤ 1099511627776) :
    Calls Try.prog 23 #[v] W fun e w' => (e = .returned (.slice (some ⟨W.heap.size, 0, none⟩) vs.length vs.length) ∧ IBlock w' W.heap.size vs) ∧ Below W.heap.size W w' := by
  obtain ⟨p, cap, rfl, hc⟩ := hv
  obtain ⟨n, hn0⟩ : ∃ n, n = vs.length := ⟨_, rfl⟩
  rw [← hn0] at hn ⊢
  have hmk := run_makeI n hn
  obtain ⟨w1, hw1⟩ : ∃ w : World, w = W.alloc (.cells (Array.replicate n (Value.int .i64 0)) 3) := ⟨_, rfl⟩
  obtain ⟨g, hg⟩ : ∃ g, g = W.heap.size := ⟨_, rfl⟩
  have hb1 : Below g W w1 := by rw [hw1, hg]; exact (Below.refl _ _).alloc (Nat.le_refl _) _
  have hg1 : w1.heap[g]? = some (.cells (List.replicate n (Value.int .i64 0)).toArray 3 (0, 0)) := by rw [hw1, hg, List.toArray_replicate]; exact World.alloc_heap_new _ _
  have HSR := Lib.hid (show 0 < (vs.map (Value.int .i64)).length → (some (⟨g, 0, none⟩ : Addr)) = some ⟨g, 0, none⟩ ∧ ∃ ad, p = some ad ∧ ∀ j u, (vs.map (Value.int .i64))[j]? = some u → w1.cell? (ad.add j) = some u from fun hpos => by
    refine ⟨rfl, ?_⟩
    obtain ⟨b, off, rfl, hcs⟩ := hc (by rintro rfl; simp at hpos)
    refine ⟨_, rfl, fun j u hj => ?_⟩
    obtain ⟨hj1, rfl⟩ := List.getElem?_eq_some_iff.1 hj
    rw [List.length_map] at hj1
    rw [addr_add_off, List.getElem_map]
    exact below_cell (by rw [← hg]; exact hb1) (hcs j hj1))
  have HLN := Lib.hid (show (vs.map (Value.int .i64)).length = Nat.min n n by rw [List.length_map, ← hn0]; exact (Nat.min_self n).symm)
  have HFT := Lib.hid (show 0 + (vs.map (Value.int .i64)).length ≤ (List.replicate n (Value.int .i64 0)).length by rw [List.length_map, List.length_replicate, ← hn0]; omega)
  have HOC := Lib.hid (show ∀ u ∈ vs.map (Value.int .i64), u.oneCell' = true from fun u hu => by obtain ⟨x, _, rfl⟩ := List.mem_map.1 hu; rfl)
  have HG1 := Lib.hid hg1
  have HB1 := Lib.hid hb1
  have HW1 := Lib.hid (And.intro hw1 hg)
  have HN := Lib.hid hn0
  clear hb1 hg1 hw1 hg hc hn0
  go_enter Try.func23, Try.ntmps23
  go_upto_region 2 with fail
  rw [← HW1.out.1, ← HW1.out.2]
  clear hmk
  go_wp2_with (with_reducible refine wpList_copy_splice (o := ⟨some 9, _, _, _, _, _⟩) rfl (.tmp 7) (.tmp 8) 22 22 rfl 3 Try.underlying22 (by kernel_rfl) (some ⟨g, 0, none⟩) p n n n cap rfl rfl g 0 (List.replicate n (Value.int .i64 0)) 3 HG1.out (vs.map (Value.int .i64)) HLN.out HSR.out HFT.out HOC.out g W HB1.out (Nat.le_refl _) ?_; intro w2 HG2 hB2)
  have hsp : splice (List.replicate n (Value.int .i64 0)) 0 (vs.map (Value.int .i64)) = vs.map (Value.int .i64) := by
    unfold splice
    rw [List.take_zero, List.nil_append, List.drop_eq_nil_of_le (by rw [List.length_replicate, List.length_map, ← HN.out]; omega), List.append_nil]
  rw [hsp] at HG2
  have HE := Lib.hid (show IBlock w2 g vs from HG2.out)
  have HB := Lib.hid hB2
  clear HG2 hB2 hsp HG1 HB1
  go_wp2
  go_ret
  exact ⟨⟨by rw [← HW1.out.2]; rfl, by rw [← HW1.out.2]; exact HE.out⟩, by rw [← HW1.out.2]; exact HB.out⟩

end Go.Proofs.Ytjfphhemhaphbab
