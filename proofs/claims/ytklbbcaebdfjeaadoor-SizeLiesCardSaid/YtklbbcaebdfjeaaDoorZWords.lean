/-
  Package size: the words of a block, told one by one; the map of the words that are taken.
  Conditions: the package's table of sizes is as it was laid; who ranges over the words leaves the block, and the table, as they are.
-/
import Derived.Test.YtklbbcaebdfjeaaDoorZLeast
import Derived.Maps.OwnIn
import Derived.Scope
namespace Go.Proofs.YtklbbcaebdfjeaaDoor
open Go.RowKit Go.Shelf
attribute [local go_sem] Oper.semAt_some

/-- The cells outside of some blocks stay as they are. -/
def KeepsCells (S : Nat → Prop) (W W' : World) : Prop := ∀ b o v, ¬ S b → W.cell? ⟨b, o, none⟩ = some v → W'.cell? ⟨b, o, none⟩ = some v
theorem KeepsCells.refl (S : Nat → Prop) (W : World) : KeepsCells S W W := fun _ _ _ _ h => h
theorem KeepsCells.trans {S : Nat → Prop} {X Y Z : World} (h : KeepsCells S X Y) (k : KeepsCells S Y Z) : KeepsCells S X Z := fun b o v hb hx => k b o v hb (h b o v hb hx)
theorem KeepsCells.grown {S : Nat → Prop} {X Y : World} {r : Option Nat} (h : X.grownBy Y r) (hr : ∀ k, r = some k → S k) : KeepsCells S X Y := fun b o v hb hx => by
  have hlt := World.block_lt_of_cell? X _ hx
  simp only [World.cell?] at hx ⊢
  rw [h.block b hlt (fun e => hb (hr b e.symm))]
  exact hx
theorem KeepsCells.turn (S : Nat → Prop) (W : World) (l : Nat) (o o' : Obj) (hl : W.heap[l]? = some o) (ho : o.isCells = false) (_ : o.isWalk = false) : KeepsCells S W (W.putObj l o') := fun b i v _ h => by
  by_cases e : b = l
  · subst e
    simp only [World.cell?, hl] at h
    cases o <;> simp_all [Obj.isCells]
  · have hp : (W.putObj l o').heap[b]? = W.heap[b]? := World.putObj_heap_other e
    simp only [World.cell?] at h ⊢
    rw [hp]
    exact h

abbrev Wd := { x : Nat // x ≤ 8192 }
def wrL (a n : Nat) : List Nat := (List.range n).map (a + ·)
theorem wrL_succ (a n : Nat) : wrL a (n + 1) = wrL a n ++ [a + n] := by unfold wrL; rw [List.range_succ, List.map_append]; rfl

theorem wordsOf_c (a c : Int) (W : World) : Calls Tryd.prog 37 #[blkV a c] W fun e w' => e = .returned (.func (.func 44) #[] #[.pointer (some ⟨W.heap.size, 0, none⟩)]) ∧ w' = W.alloc (.cells #[.int .i64 a, .int .i64 c] 33) := by
  go_enter Tryd.func37, Tryd.ntmps37
  go_wp2
  go_ret
  exact ⟨rfl, rfl⟩

set_option maxRecDepth 100000 in
set_option maxHeartbeats 4000000 in
theorem words_stops (n : Nat) (hn : 1 ≤ n) (S : Nat → Prop) (b a k : Nat) (hk : k < 4) (ha : a ≤ 4096) (w : World) (hSb : ¬ S b) (hT : Tab w) (hbx : BBox w b a k) :
    SeqBound Fence.wide n Tryd.prog 44 #[] #[.pointer (some ⟨b, 0, none⟩)] (fun s : Wd => #[.int .i64 (s.1 : Int)]) (KeepsCells S) (fun xs => xs.map (·.1) = wrL a (szN k)) (fun pre => ∃ suf, pre.map (·.1) ++ suf = wrL a (szN k)) (szN k) w := fun l J Jx W hW hJ hJx hY h0 => by
  refine callsIn_of_wp Tryd.func44 rfl trivial ?_ rfl
  simp only [Tryd.ntmps44, List.size_toArray, List.length_cons, List.length_nil, Nat.reduceAdd, Nat.reduceSub, Array.replicate_succ, Array.replicate_zero, List.push_toArray, List.append_toArray, List.nil_append, List.cons_append]
  have hT1 := hT.below hW
  have hX1 : BBox W b a k := (hW.block b hbx.lt).trans hbx
  obtain ⟨c0, c1⟩ := hX1.cells
  have cs := hT1 k hk
  obtain ⟨hs1, hs2⟩ := sz_ok hk
  generalize szN k = s at *
  clear hW hT hbx hT1 hX1
  gi_wp2
  gi_loopw [8] (fun iv wr => ∃ (i : Nat) (pre : List Wd), i ≤ s ∧ iv = .int .i64 (i : Int) ∧ wr.cell? ⟨b, 0, none⟩ = some (.int .i64 (a : Int)) ∧ J pre wr ∧ Hid (pre.length = i ∧ pre.map (·.1) = wrL a i)) (fun iv _ => s - (intOf iv).toNat)
  case atStart => exact ⟨0, [], by omega, rfl, c0, h0, rfl, rfl⟩
  case round =>
    obtain ⟨i, pre, hi, rfl, d0, hJp, HL⟩ := hrel
    by_cases hlt : i < s
    · have hx8 : a + i ≤ 8192 := by omega
      obtain ⟨fn, tmps, assign, body, hy, hR⟩ := hY pre ⟨a + i, hx8⟩ _ hJp (by rw [HL.out.1]; exact hlt)
      have HL2 := Lib.hid (show (pre ++ [(⟨a + i, hx8⟩ : Wd)]).length = i + 1 ∧ (pre ++ [(⟨a + i, hx8⟩ : Wd)]).map (·.1) = wrL a (i + 1) from ⟨by rw [List.length_append, HL.out.1]; rfl, by rw [List.map_append, HL.out.2, wrL_succ]; rfl⟩)
      dsimp only at hy
      rw [Int.natCast_add] at hy
      gi_wp2
      refine hR.mono ?_
      rintro e W3 (⟨rfl, hJ3, hk3⟩ | ⟨rfl, hJx3⟩)
      · have d3 := hk3 _ _ _ hSb d0
        gi_wp2
        go_roundw
        case rel => exact ⟨i + 1, pre ++ [⟨a + i, hx8⟩], by omega, by go_num, d3, hJ3, HL2⟩
        case measure => simp [intOf]; omega
      · have HP := Lib.hid (show ∃ suf, (pre ++ [(⟨a + i, hx8⟩ : Wd)]).map (·.1) ++ suf = wrL a s from by
          refine ⟨(wrL a s).drop (i + 1), ?_⟩
          rw [HL2.out.2]
          have : wrL a (i + 1) = (wrL a s).take (i + 1) := by unfold wrL; rw [← List.map_take, List.take_range, Nat.min_eq_left hlt]
          rw [this, List.take_append_drop])
        gi_wp2
        refine bodyPost_ret (results_none rfl _ _ _) rfl ?_
        exact ⟨⟨_, rfl⟩, .inr ⟨pre ++ [⟨a + i, hx8⟩], HP.out, hJx3⟩⟩
    · obtain rfl : i = s := by omega
      gi_wp2
      go_end0
      exact ⟨⟨_, rfl⟩, .inl ⟨pre, HL.out.2, hJp⟩⟩

end Go.Proofs.YtklbbcaebdfjeaaDoor
