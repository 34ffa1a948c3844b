/-
  memory.New, called with 8: eight words, all free, of 0; what was in memory stays.
  Conditions: none.
-/
import Derived.Test.YtcledklajcdfiaaMTurn
namespace Go.Proofs.Ytcledklajcdfiaa
open Go.RowKit Go.Shelf

theorem word_info : (Try.prog.info? 22).map (fun i => (i.zero, i.size, i.bytes)) = some (some (.int .u64 0), 1, 8) := by kernel_rfl
theorem bool_info : (Try.prog.info? 4).map (fun i => (i.zero, i.size, i.bytes)) = some (some (.bool false), 1, 1) := by kernel_rfl
/-- What New hands over. -/
def NewOk (B : Nat) (e : Ending) (w' : World) : Prop :=
  ∃ v', e = .returned (.tuple #[v', .int .i64 0]) ∧ OwnsMem w' B v' (List.replicate 8 0) (List.replicate 8 false) false

set_option maxRecDepth 100000 in
set_option maxHeartbeats 4000000 in
theorem new_c (W : World) : Calls Try.prog 45 #[.int .i64 8] W fun e w' => NewOk W.heap.size e w' ∧ Below W.heap.size W w' := by
  obtain ⟨i0, hi, hz0, hz1, hz2⟩ := info_parts word_info
  obtain ⟨i1, hj, hy0, hy1, hy2⟩ := info_parts bool_info
  obtain ⟨c8, hc8⟩ : ∃ c : Array Value, c = madeCells (Value.int .u64 0).cells 8 := ⟨_, rfl⟩
  obtain ⟨b8, hb8⟩ : ∃ c : Array Value, c = madeCells (Value.bool false).cells 8 := ⟨_, rfl⟩
  have hm1 : ∀ w, (Instr.makeSlice 43 (.int .i64 8) (.int .i64 8)).run Try.prog w = .ok (.slice (some ⟨w.heap.size, 0, none⟩) 8 8) (w.alloc (.cells c8 22)) := fun w => by
    have := run_make (P := Try.prog) w 43 22 i0 (.int .u64 0) Try.underlying43 hi hz0 .i64 .i64 8 8 (by decide) (by decide) (by rw [hz2]; decide) (by decide)
    rw [this, hc8, hz1]; rfl
  have hm2 : ∀ w, (Instr.makeSlice 44 (.int .i64 8) (.int .i64 8)).run Try.prog w = .ok (.slice (some ⟨w.heap.size, 0, none⟩) 8 8) (w.alloc (.cells b8 4)) := fun w => by
    have := run_make (P := Try.prog) w 44 4 i1 (.bool false) Try.underlying44 hj hy0 .i64 .i64 8 8 (by decide) (by decide) (by rw [hy2]; decide) (by decide)
    rw [this, hb8, hy1]; rfl
  have HC := Lib.hid (show c8.toList = (List.replicate 8 (0 : Int)).map (Value.int .u64) by rw [hc8, List.map_replicate]; exact toList_madeCells_one _ 8)
  have HB := Lib.hid (show b8.toList = (List.replicate 8 false).map Value.bool by rw [hb8, List.map_replicate]; exact toList_madeCells_one _ 8)
  have HC8 := Lib.hid (show c8.size = 8 * 1 by rw [hc8, size_madeCells])
  have HB8 := Lib.hid (show b8.size = 8 * 1 by rw [hb8, size_madeCells])
  clear hc8 hb8 hi hj hz0 hz1 hz2 hy0 hy1 hy2
  go_enter Try.func45, Try.ntmps45
  go_wp2
  go_region
  all_goals go_wp2
  · have ho1 := (World.ownsRow_lit (base := W.heap.size) (e := 22) (size := 1) (W.alloc (.cells #[.slice (some ⟨W.heap.size + 1, 0, none⟩) 8 8, .slice (some ⟨W.heap.size + 1 + 1, 0, none⟩) 8 8, .bool false] 46)) c8 8 (by simp) (by decide) HC8.out).alloc (.cells b8 4)
    have ho2 := World.ownsRow_lit (base := W.heap.size) (e := 4) (size := 1) ((W.alloc (.cells #[.slice (some ⟨W.heap.size + 1, 0, none⟩) 8 8, .slice (some ⟨W.heap.size + 1 + 1, 0, none⟩) 8 8, .bool false] 46)).alloc (.cells c8 22)) b8 8 (by simp; omega) (by decide) HB8.out
    rw [World.size_alloc] at ho1
    rw [World.size_alloc, World.size_alloc] at ho2
    refine bodyPost_ret (v := .tuple #[.agg #[.slice (some ⟨W.heap.size + 1, 0, none⟩) 8 8, .slice (some ⟨W.heap.size + 1 + 1, 0, none⟩) 8 8, .bool false], .int .i64 0]) (by simp [results, Try.results45, go_sem]) rfl ⟨⟨_, rfl, _, _, rfl, ?_, ?_⟩, ((((Below.refl _ _).alloc (Nat.le_refl _) _).alloc (by simp) _).alloc (by simp; omega) _).drew⟩
    · rw [HC.out] at ho1; exact ho1.drew
    · rw [HB.out] at ho2; exact ho2.drew
  · have ho1 := (World.ownsRow_lit (base := W.heap.size) (e := 4) (size := 1) (W.alloc (.cells #[.slice (some ⟨W.heap.size + 1 + 1, 0, none⟩) 8 8, .slice (some ⟨W.heap.size + 1, 0, none⟩) 8 8, .bool false] 46)) b8 8 (by simp) (by decide) HB8.out).alloc (.cells c8 22)
    have ho2 := World.ownsRow_lit (base := W.heap.size) (e := 22) (size := 1) ((W.alloc (.cells #[.slice (some ⟨W.heap.size + 1 + 1, 0, none⟩) 8 8, .slice (some ⟨W.heap.size + 1, 0, none⟩) 8 8, .bool false] 46)).alloc (.cells b8 4)) c8 8 (by simp; omega) (by decide) HC8.out
    rw [World.size_alloc] at ho1
    rw [World.size_alloc, World.size_alloc] at ho2
    refine bodyPost_ret (v := .tuple #[.agg #[.slice (some ⟨W.heap.size + 1 + 1, 0, none⟩) 8 8, .slice (some ⟨W.heap.size + 1, 0, none⟩) 8 8, .bool false], .int .i64 0]) (by simp [results, Try.results45, go_sem]) rfl ⟨⟨_, rfl, _, _, rfl, ?_, ?_⟩, ((((Below.refl _ _).alloc (Nat.le_refl _) _).alloc (by simp) _).alloc (by simp; omega) _).drew⟩
    · rw [HC.out] at ho2; exact ho2.drew
    · rw [HB.out] at ho1; exact ho1.drew

end Go.Proofs.Ytcledklajcdfiaa
