/-
  memory.every at a row of accesses, asked whether each is of a kind.
  Conditions: the slice reads as these accesses.
-/
import Derived.Test.YthkfjgfhaicfkaaSB1
/-
  What an access of a word comes to, that is there: free, or loaded.
  Conditions: the word is there, and may be written.
-/
namespace Go.Proofs.Ythkfjgfhaicfkaa
open Go.RowKit Go.Shelf

theorem fn_info : (Try.prog.info? 146).map (fun i => (i.zero, i.size, i.bytes)) = some (some .nilFunc, 1, 8) := by kernel_rfl
theorem run_deeds (i : Nat) (v : Value) (hi : i < 4) (cs : Array Value) (hv : cs[i]? = some v) (w : World) : (Instr.index 147 (.agg cs) (.int .i64 i)).run Try.prog w = .ok v w := by
  obtain ⟨i0, hi0, _, hz1, _⟩ := info_parts fn_info
  have hin : 0 ≤ (i : Int) ∧ (i : Int) < (4 : Nat) := by omega
  simp [Instr.index, asIntOf, run_underlying Try.underlying147, part, isAgg, run_underlying Try.underlying146, sizeOf, typeInfo, hi0, hz1, hv]
  omega

set_option maxRecDepth 100000 in
set_option maxHeartbeats 4000000 in
theorem on_free (a : Nat) (k o n : Int) (z gw nw cw gl nl cl : Nat) (f : Bool) (held : Int) (W : World) (hz0 : W.cell? ⟨z, 0, none⟩ = some (.slice (some ⟨gw, 0, none⟩) nw cw)) (hz1 : W.cell? ⟨z, 1, none⟩ = some (.slice (some ⟨gl, 0, none⟩) nl cl)) (hz2 : W.cell? ⟨z, 2, none⟩ = some (.bool f)) (hfz : W.frozen? ⟨z, 2, none⟩ = false)
    (hw : W.cell? ⟨gw, a, none⟩ = some (.int .u64 held)) (hfw : W.frozen? ⟨gw, a, none⟩ = false) (han : a < nw) (hnl : nl = nw) (hnc : nw ≤ cw) (hcm : cw ≤ 9223372036854775807) (hn : nw ≤ 4096)
    (hl : W.cell? ⟨gl, a, none⟩ = some (.bool false)) :
    Calls Try.prog 81 #[.agg #[.int .i64 k, .int .i64 a, .int .u64 o, .int .u64 n], .pointer (some ⟨z, 0, none⟩)] W fun e w' => e = .returned (.agg #[.int .u64 0, .bool false]) ∧ Stores ⟨z, 2, none⟩ (.bool true) W w' := by
  obtain ⟨wo, hwo⟩ : ∃ wo : World, wo = (W.alloc (.cells #[.int .i64 k, .int .i64 a, .int .u64 o, .int .u64 n] 133)).alloc (.cells #[.int .u64 0, .bool false] 120) := ⟨_, rfl⟩
  have hB : Below W.heap.size W wo := by rw [hwo]; exact ((Below.refl _ _).alloc (Nat.le_refl _) _).alloc (by simp) _
  have hsz : W.heap.size + 1 < wo.heap.size := by rw [hwo]; simp
  have hp0 : wo.cell? ⟨W.heap.size, 0, none⟩ = some (.int .i64 k) := by rw [hwo]; simp
  have hp1 : wo.cell? ⟨W.heap.size, 1, none⟩ = some (.int .i64 a) := by rw [hwo]; simp
  have hp2 : wo.cell? ⟨W.heap.size, 2, none⟩ = some (.int .u64 o) := by rw [hwo]; simp
  have hp3 : wo.cell? ⟨W.heap.size, 3, none⟩ = some (.int .u64 n) := by rw [hwo]; simp
  have hq0 : wo.cell? ⟨W.heap.size + 1, 0, none⟩ = some (.int .u64 0) := by rw [hwo]; simp
  have hq1 : wo.cell? ⟨W.heap.size + 1, 1, none⟩ = some (.bool false) := by rw [hwo]; simp
  have hg0 : wo.frozen? ⟨W.heap.size + 1, 0, none⟩ = false := by rw [hwo]; simp
  have hg1 : wo.frozen? ⟨W.heap.size + 1, 1, none⟩ = false := by rw [hwo]; simp
  have hzlt := World.block_lt_of_cell? W _ hz0
  have hfz' := below_frozen hB hz2 hfz
  have hz0' := below_cell hB hz0
  have hz1' := below_cell hB hz1
  have hz2' := below_cell hB hz2
  have hl' := below_cell hB hl
  have hw' := below_cell hB hw
  have hfw' := below_frozen hB hw hfw
  have hgw := World.block_lt_of_cell? W _ hw
  simp only at hgw hzlt
  have hne1 : W.heap.size ≠ gw := by omega
  have hne2 : W.heap.size + 1 ≠ gw := by omega
  have hai : (a : Int) < nl := by omega
  have hai0 : (0 : Int) ≤ a := by omega
  clear hz0 hz1 hz2 hfz hl hw hfw
  have HTH : ∀ W' : World, Calls Try.prog 74 #[.agg #[.slice (some ⟨gw, 0, none⟩) nw cw, .slice (some ⟨gl, 0, none⟩) nl cl, .bool f], .int .i64 a, .int .i64 1] W' fun e w' => e = .returned (.bool true) ∧ Below W'.heap.size W' w' := fun W' => by
    have := there_c (some ⟨gw, 0, none⟩) nw cw (.slice (some ⟨gl, 0, none⟩) nl cl) f a 1 (by decide) (by omega) W'
    rwa [show thereB nw a 1 = true by simp [thereB]; omega] at this
  have HCUT : ∀ W' : World, Calls Try.prog 89 #[.slice (some ⟨gw, 0, none⟩) nw cw, .int .i64 a, .int .i64 1] W' fun e w' => e = .returned (.slice (some ⟨gw, a, none⟩) 1 1) ∧ w' = W' := fun W' => by
    simpa using cutW_c gw 0 nw cw a 1 (by omega) (by omega) hcm W'
  clear han hnl hnc hcm
  go_enter Try.func81, Try.ntmps81
  go_wp2_with fail
  rw [← hwo]
  clear hwo
  go_region_held3 (fun w' => (w'.cell? ⟨z, 0, none⟩ = some (.slice (some ⟨gw, 0, none⟩) nw cw) ∧ w'.cell? ⟨z, 1, none⟩ = some (.slice (some ⟨gl, 0, none⟩) nl cl) ∧ w'.cell? ⟨z, 2, none⟩ = some (.bool f)) ∧ (w'.cell? ⟨W.heap.size, 0, none⟩ = some (.int .i64 k) ∧ w'.cell? ⟨W.heap.size, 1, none⟩ = some (.int .i64 a) ∧ w'.cell? ⟨W.heap.size, 2, none⟩ = some (.int .u64 o) ∧ w'.cell? ⟨W.heap.size, 3, none⟩ = some (.int .u64 n)) ∧ w'.cell? ⟨gl, a, none⟩ = some (.bool false))
    (first
      | exact ⟨⟨hz0', hz1', hz2'⟩, ⟨hp0, hp1, hp2, hp3⟩, hl'⟩
      | go_keep
      | (go_split_ands; exact ⟨⟨below_cell hb3 (by assumption), below_cell hb3 (by assumption), below_cell hb3 (by assumption)⟩, ⟨below_cell hb3 (by assumption), below_cell hb3 (by assumption), below_cell hb3 (by assumption), below_cell hb3 (by assumption)⟩, below_cell hb3 (by assumption)⟩))
    (first
      | (go_at_call 74; refine (HTH _).mono ?_; rintro e w3 ⟨rfl, hb3⟩))
  have hq0' := below_cell hb3 hq0
  have hq1' := below_cell hb3 hq1
  have hg0' := below_frozen hb3 hq0 hg0
  have hg1' := below_frozen hb3 hq1 hg1
  have hfz3 := below_frozen hb3 hz2' hfz'
  have hw3 := below_cell hb3 hw'
  have hfw3 := below_frozen hb3 hw' hfw'
  have hB3 := below_then hB.drew hB.size hb3
  have hS3 : (fun w' => (w'.cell? ⟨z, 0, none⟩ = some (.slice (some ⟨gw, 0, none⟩) nw cw) ∧ w'.cell? ⟨z, 1, none⟩ = some (.slice (some ⟨gl, 0, none⟩) nl cl) ∧ w'.cell? ⟨z, 2, none⟩ = some (.bool f)) ∧ (w'.cell? ⟨W.heap.size, 0, none⟩ = some (.int .i64 k) ∧ w'.cell? ⟨W.heap.size, 1, none⟩ = some (.int .i64 a) ∧ w'.cell? ⟨W.heap.size, 2, none⟩ = some (.int .u64 o) ∧ w'.cell? ⟨W.heap.size, 3, none⟩ = some (.int .u64 n)) ∧ w'.cell? ⟨gl, a, none⟩ = some (.bool false)) w3 := ⟨⟨below_cell hb3 hz0', below_cell hb3 hz1', below_cell hb3 hz2'⟩, ⟨below_cell hb3 hp0, below_cell hb3 hp1, below_cell hb3 hp2, below_cell hb3 hp3⟩, below_cell hb3 hl'⟩
  obtain ⟨⟨hz0'', hz1'', hz2''⟩, ⟨hp0', hp1', hp2', hp3'⟩, _⟩ := hS3
  clear hb3 hq0 hq1 hg0 hg1 hfz' hw' hfw' hz0' hz1' hz2' hp0 hp1 hp2 hp3 hl'
  go_wp2
  have hS := ((below_both hB3 ⟨z, 2, none⟩ (.bool true)).setCell (p := ⟨W.heap.size + 1, 0, none⟩) (Nat.le_succ _) (.int .u64 0)).setCell (p := ⟨W.heap.size + 1, 1, none⟩) (Nat.le_succ _) (.bool false)
  exact bodyPost_ret (v := .agg #[.int .u64 0, .bool false]) (by simp [results, Try.results81, go_sem, hq0', hq1']) rfl ⟨rfl, hS⟩

set_option maxRecDepth 100000 in
set_option maxHeartbeats 4000000 in
theorem on_load (a : Nat) (o n : Int) (z gw nw cw gl nl cl : Nat) (f : Bool) (held : Int) (W : World) (hz0 : W.cell? ⟨z, 0, none⟩ = some (.slice (some ⟨gw, 0, none⟩) nw cw)) (hz1 : W.cell? ⟨z, 1, none⟩ = some (.slice (some ⟨gl, 0, none⟩) nl cl)) (hz2 : W.cell? ⟨z, 2, none⟩ = some (.bool f)) (hfz : W.frozen? ⟨z, 2, none⟩ = false)
    (hw : W.cell? ⟨gw, a, none⟩ = some (.int .u64 held)) (hfw : W.frozen? ⟨gw, a, none⟩ = false) (han : a < nw) (hnl : nl = nw) (hnc : nw ≤ cw) (hcm : cw ≤ 9223372036854775807) (hn : nw ≤ 4096)
    (hl : W.cell? ⟨gl, a, none⟩ = some (.bool true)) :
    Calls Try.prog 81 #[.agg #[.int .i64 1, .int .i64 a, .int .u64 o, .int .u64 n], .pointer (some ⟨z, 0, none⟩)] W fun e w' => e = .returned (.agg #[.int .u64 held, .bool true]) ∧ Below W.heap.size W w' := by
  obtain ⟨wo, hwo⟩ : ∃ wo : World, wo = (W.alloc (.cells #[.int .i64 1, .int .i64 a, .int .u64 o, .int .u64 n] 133)).alloc (.cells #[.int .u64 0, .bool false] 120) := ⟨_, rfl⟩
  have hB : Below W.heap.size W wo := by rw [hwo]; exact ((Below.refl _ _).alloc (Nat.le_refl _) _).alloc (by simp) _
  have hsz : W.heap.size + 1 < wo.heap.size := by rw [hwo]; simp
  have hp0 : wo.cell? ⟨W.heap.size, 0, none⟩ = some (.int .i64 1) := by rw [hwo]; simp
  have hp1 : wo.cell? ⟨W.heap.size, 1, none⟩ = some (.int .i64 a) := by rw [hwo]; simp
  have hp2 : wo.cell? ⟨W.heap.size, 2, none⟩ = some (.int .u64 o) := by rw [hwo]; simp
  have hp3 : wo.cell? ⟨W.heap.size, 3, none⟩ = some (.int .u64 n) := by rw [hwo]; simp
  have hq0 : wo.cell? ⟨W.heap.size + 1, 0, none⟩ = some (.int .u64 0) := by rw [hwo]; simp
  have hq1 : wo.cell? ⟨W.heap.size + 1, 1, none⟩ = some (.bool false) := by rw [hwo]; simp
  have hg0 : wo.frozen? ⟨W.heap.size + 1, 0, none⟩ = false := by rw [hwo]; simp
  have hg1 : wo.frozen? ⟨W.heap.size + 1, 1, none⟩ = false := by rw [hwo]; simp
  have hzlt := World.block_lt_of_cell? W _ hz0
  have hfz' := below_frozen hB hz2 hfz
  have hz0' := below_cell hB hz0
  have hz1' := below_cell hB hz1
  have hz2' := below_cell hB hz2
  have hl' := below_cell hB hl
  have hw' := below_cell hB hw
  have hfw' := below_frozen hB hw hfw
  have hgw := World.block_lt_of_cell? W _ hw
  simp only at hgw hzlt
  have hne1 : W.heap.size ≠ gw := by omega
  have hne2 : W.heap.size + 1 ≠ gw := by omega
  have hai : (a : Int) < nl := by omega
  have hai0 : (0 : Int) ≤ a := by omega
  clear hz0 hz1 hz2 hfz hl hw hfw
  have HTH : ∀ W' : World, Calls Try.prog 74 #[.agg #[.slice (some ⟨gw, 0, none⟩) nw cw, .slice (some ⟨gl, 0, none⟩) nl cl, .bool f], .int .i64 a, .int .i64 1] W' fun e w' => e = .returned (.bool true) ∧ Below W'.heap.size W' w' := fun W' => by
    have := there_c (some ⟨gw, 0, none⟩) nw cw (.slice (some ⟨gl, 0, none⟩) nl cl) f a 1 (by decide) (by omega) W'
    rwa [show thereB nw a 1 = true by simp [thereB]; omega] at this
  have HCUT : ∀ W' : World, Calls Try.prog 89 #[.slice (some ⟨gw, 0, none⟩) nw cw, .int .i64 a, .int .i64 1] W' fun e w' => e = .returned (.slice (some ⟨gw, a, none⟩) 1 1) ∧ w' = W' := fun W' => by
    simpa using cutW_c gw 0 nw cw a 1 (by omega) (by omega) hcm W'
  clear han hnl hnc hcm
  go_enter Try.func81, Try.ntmps81
  go_wp2_with fail
  rw [← hwo]
  clear hwo
  go_region_held3 (fun w' => (w'.cell? ⟨z, 0, none⟩ = some (.slice (some ⟨gw, 0, none⟩) nw cw) ∧ w'.cell? ⟨z, 1, none⟩ = some (.slice (some ⟨gl, 0, none⟩) nl cl) ∧ w'.cell? ⟨z, 2, none⟩ = some (.bool f)) ∧ (w'.cell? ⟨W.heap.size, 0, none⟩ = some (.int .i64 1) ∧ w'.cell? ⟨W.heap.size, 1, none⟩ = some (.int .i64 a) ∧ w'.cell? ⟨W.heap.size, 2, none⟩ = some (.int .u64 o) ∧ w'.cell? ⟨W.heap.size, 3, none⟩ = some (.int .u64 n)) ∧ w'.cell? ⟨gl, a, none⟩ = some (.bool true))
    (first
      | exact ⟨⟨hz0', hz1', hz2'⟩, ⟨hp0, hp1, hp2, hp3⟩, hl'⟩
      | go_keep
      | (go_split_ands; exact ⟨⟨below_cell hb3 (by assumption), below_cell hb3 (by assumption), below_cell hb3 (by assumption)⟩, ⟨below_cell hb3 (by assumption), below_cell hb3 (by assumption), below_cell hb3 (by assumption), below_cell hb3 (by assumption)⟩, below_cell hb3 (by assumption)⟩))
    (first
      | (go_at_call 74; refine (HTH _).mono ?_; rintro e w3 ⟨rfl, hb3⟩))
  have hq0' := below_cell hb3 hq0
  have hq1' := below_cell hb3 hq1
  have hg0' := below_frozen hb3 hq0 hg0
  have hg1' := below_frozen hb3 hq1 hg1
  have hfz3 := below_frozen hb3 hz2' hfz'
  have hw3 := below_cell hb3 hw'
  have hfw3 := below_frozen hb3 hw' hfw'
  have hB3 := below_then hB.drew hB.size hb3
  have hS3 : (fun w' => (w'.cell? ⟨z, 0, none⟩ = some (.slice (some ⟨gw, 0, none⟩) nw cw) ∧ w'.cell? ⟨z, 1, none⟩ = some (.slice (some ⟨gl, 0, none⟩) nl cl) ∧ w'.cell? ⟨z, 2, none⟩ = some (.bool f)) ∧ (w'.cell? ⟨W.heap.size, 0, none⟩ = some (.int .i64 1) ∧ w'.cell? ⟨W.heap.size, 1, none⟩ = some (.int .i64 a) ∧ w'.cell? ⟨W.heap.size, 2, none⟩ = some (.int .u64 o) ∧ w'.cell? ⟨W.heap.size, 3, none⟩ = some (.int .u64 n)) ∧ w'.cell? ⟨gl, a, none⟩ = some (.bool true)) w3 := ⟨⟨below_cell hb3 hz0', below_cell hb3 hz1', below_cell hb3 hz2'⟩, ⟨below_cell hb3 hp0, below_cell hb3 hp1, below_cell hb3 hp2, below_cell hb3 hp3⟩, below_cell hb3 hl'⟩
  obtain ⟨⟨hz0'', hz1'', hz2''⟩, ⟨hp0', hp1', hp2', hp3'⟩, _⟩ := hS3
  clear hb3 hq0 hq1 hg0 hg1 hfz' hw' hfw' hz0' hz1' hz2' hp0 hp1 hp2 hp3 hl'
  go_wp2_with fail
  go_quiet ((go_at_call 89; exact Calls.quiet_of_same (HCUT _)))
  replace hB3 := below_drewN hB3 nq
  replace hB3 := hB3.drew
  have hix : ∀ w, (Instr.index 147 (.agg #[.nilFunc, .func (.func 94) #[] #[], .func (.func 95) #[] #[], .func (.func 96) #[] #[]]) (.int .i64 1)).run Try.prog w = .ok (.func (.func 94) #[] #[]) w := fun w => run_deeds 1 _ (by decide) _ rfl w
  go_wp2_with fail
  go_region_held3 (fun w' => w'.cell? ⟨W.heap.size, 0, none⟩ = some (.int .i64 1) ∧ w'.cell? ⟨W.heap.size, 1, none⟩ = some (.int .i64 a) ∧ w'.cell? ⟨W.heap.size, 2, none⟩ = some (.int .u64 o) ∧ w'.cell? ⟨W.heap.size, 3, none⟩ = some (.int .u64 n))
    (first
      | exact ⟨hp0', hp1', hp2', hp3'⟩
      | go_keep
      | (go_split_ands; exact ⟨below_cell hb4 (by assumption), below_cell hb4 (by assumption), below_cell hb4 (by assumption), below_cell hb4 (by assumption)⟩)
      | (go_split_ands; exact ⟨below_cell hb5 (by assumption), below_cell hb5 (by assumption), below_cell hb5 (by assumption), below_cell hb5 (by assumption)⟩))
    (first
      | (go_at_call 91; refine (deeds_c _).mono ?_; rintro e w4 ⟨rfl, hb4⟩; replace hg0' := below_frozen hb4 hq0' hg0'; replace hg1' := below_frozen hb4 hq1' hg1'; replace hq0' := below_cell hb4 hq0'; replace hq1' := below_cell hb4 hq1'; replace hfw3 := below_frozen hb4 hw3 hfw3; replace hw3 := below_cell hb4 hw3; replace hB3 := below_then hB3 hB3.size hb4)
      | (go_at_call 94; refine (load_c 1 a o n _ _).mono ?_; rintro e w5 ⟨rfl, hb5⟩; replace hg0' := below_frozen hb5 hq0' hg0'; replace hg1' := below_frozen hb5 hq1' hg1'; replace hq0' := below_cell hb5 hq0'; replace hq1' := below_cell hb5 hq1'; replace hB3 := below_then hB3 hB3.size hb5))
  have hS := (hB3.setCell (p := ⟨W.heap.size + 1, 0, none⟩) (Nat.le_succ _) (.int .u64 held)).setCell (p := ⟨W.heap.size + 1, 1, none⟩) (Nat.le_succ _) (.bool true)
  go_wp2
  exact bodyPost_ret (v := .agg #[.int .u64 held, .bool true]) (by simp [results, Try.results81, go_sem, hq0', hq1']) rfl ⟨rfl, hS⟩

end Go.Proofs.Ythkfjgfhaicfkaa
/-
  What an access of a word comes to, that is there: stored, or swapped.
  Conditions: the word is there, and may be written.
-/
namespace Go.Proofs.Ythkfjgfhaicfkaa
open Go.RowKit Go.Shelf

set_option maxRecDepth 100000 in
set_option maxHeartbeats 4000000 in
theorem on_store (a : Nat) (o n : Int) (z gw nw cw gl nl cl : Nat) (f : Bool) (held : Int) (W : World) (hz0 : W.cell? ⟨z, 0, none⟩ = some (.slice (some ⟨gw, 0, none⟩) nw cw)) (hz1 : W.cell? ⟨z, 1, none⟩ = some (.slice (some ⟨gl, 0, none⟩) nl cl)) (hz2 : W.cell? ⟨z, 2, none⟩ = some (.bool f)) (hfz : W.frozen? ⟨z, 2, none⟩ = false)
    (hw : W.cell? ⟨gw, a, none⟩ = some (.int .u64 held)) (hfw : W.frozen? ⟨gw, a, none⟩ = false) (han : a < nw) (hnl : nl = nw) (hnc : nw ≤ cw) (hcm : cw ≤ 9223372036854775807) (hn : nw ≤ 4096)
    (hl : W.cell? ⟨gl, a, none⟩ = some (.bool true)) :
    Calls Try.prog 81 #[.agg #[.int .i64 2, .int .i64 a, .int .u64 o, .int .u64 n], .pointer (some ⟨z, 0, none⟩)] W fun e w' => e = .returned (.agg #[.int .u64 held, .bool true]) ∧ Stores ⟨gw, a, none⟩ (.int .u64 n) W w' := by
  obtain ⟨wo, hwo⟩ : ∃ wo : World, wo = (W.alloc (.cells #[.int .i64 2, .int .i64 a, .int .u64 o, .int .u64 n] 133)).alloc (.cells #[.int .u64 0, .bool false] 120) := ⟨_, rfl⟩
  have hB : Below W.heap.size W wo := by rw [hwo]; exact ((Below.refl _ _).alloc (Nat.le_refl _) _).alloc (by simp) _
  have hsz : W.heap.size + 1 < wo.heap.size := by rw [hwo]; simp
  have hp0 : wo.cell? ⟨W.heap.size, 0, none⟩ = some (.int .i64 2) := by rw [hwo]; simp
  have hp1 : wo.cell? ⟨W.heap.size, 1, none⟩ = some (.int .i64 a) := by rw [hwo]; simp
  have hp2 : wo.cell? ⟨W.heap.size, 2, none⟩ = some (.int .u64 o) := by rw [hwo]; simp
  have hp3 : wo.cell? ⟨W.heap.size, 3, none⟩ = some (.int .u64 n) := by rw [hwo]; simp
  have hq0 : wo.cell? ⟨W.heap.size + 1, 0, none⟩ = some (.int .u64 0) := by rw [hwo]; simp
  have hq1 : wo.cell? ⟨W.heap.size + 1, 1, none⟩ = some (.bool false) := by rw [hwo]; simp
  have hg0 : wo.frozen? ⟨W.heap.size + 1, 0, none⟩ = false := by rw [hwo]; simp
  have hg1 : wo.frozen? ⟨W.heap.size + 1, 1, none⟩ = false := by rw [hwo]; simp
  have hzlt := World.block_lt_of_cell? W _ hz0
  have hfz' := below_frozen hB hz2 hfz
  have hz0' := below_cell hB hz0
  have hz1' := below_cell hB hz1
  have hz2' := below_cell hB hz2
  have hl' := below_cell hB hl
  have hw' := below_cell hB hw
  have hfw' := below_frozen hB hw hfw
  have hgw := World.block_lt_of_cell? W _ hw
  simp only at hgw hzlt
  have hne1 : W.heap.size ≠ gw := by omega
  have hne2 : W.heap.size + 1 ≠ gw := by omega
  have hai : (a : Int) < nl := by omega
  have hai0 : (0 : Int) ≤ a := by omega
  clear hz0 hz1 hz2 hfz hl hw hfw
  have HTH : ∀ W' : World, Calls Try.prog 74 #[.agg #[.slice (some ⟨gw, 0, none⟩) nw cw, .slice (some ⟨gl, 0, none⟩) nl cl, .bool f], .int .i64 a, .int .i64 1] W' fun e w' => e = .returned (.bool true) ∧ Below W'.heap.size W' w' := fun W' => by
    have := there_c (some ⟨gw, 0, none⟩) nw cw (.slice (some ⟨gl, 0, none⟩) nl cl) f a 1 (by decide) (by omega) W'
    rwa [show thereB nw a 1 = true by simp [thereB]; omega] at this
  have HCUT : ∀ W' : World, Calls Try.prog 89 #[.slice (some ⟨gw, 0, none⟩) nw cw, .int .i64 a, .int .i64 1] W' fun e w' => e = .returned (.slice (some ⟨gw, a, none⟩) 1 1) ∧ w' = W' := fun W' => by
    simpa using cutW_c gw 0 nw cw a 1 (by omega) (by omega) hcm W'
  clear han hnl hnc hcm
  go_enter Try.func81, Try.ntmps81
  go_wp2_with fail
  rw [← hwo]
  clear hwo
  go_region_held3 (fun w' => (w'.cell? ⟨z, 0, none⟩ = some (.slice (some ⟨gw, 0, none⟩) nw cw) ∧ w'.cell? ⟨z, 1, none⟩ = some (.slice (some ⟨gl, 0, none⟩) nl cl) ∧ w'.cell? ⟨z, 2, none⟩ = some (.bool f)) ∧ (w'.cell? ⟨W.heap.size, 0, none⟩ = some (.int .i64 2) ∧ w'.cell? ⟨W.heap.size, 1, none⟩ = some (.int .i64 a) ∧ w'.cell? ⟨W.heap.size, 2, none⟩ = some (.int .u64 o) ∧ w'.cell? ⟨W.heap.size, 3, none⟩ = some (.int .u64 n)) ∧ w'.cell? ⟨gl, a, none⟩ = some (.bool true))
    (first
      | exact ⟨⟨hz0', hz1', hz2'⟩, ⟨hp0, hp1, hp2, hp3⟩, hl'⟩
      | go_keep
      | (go_split_ands; exact ⟨⟨below_cell hb3 (by assumption), below_cell hb3 (by assumption), below_cell hb3 (by assumption)⟩, ⟨below_cell hb3 (by assumption), below_cell hb3 (by assumption), below_cell hb3 (by assumption), below_cell hb3 (by assumption)⟩, below_cell hb3 (by assumption)⟩))
    (first
      | (go_at_call 74; refine (HTH _).mono ?_; rintro e w3 ⟨rfl, hb3⟩))
  have hq0' := below_cell hb3 hq0
  have hq1' := below_cell hb3 hq1
  have hg0' := below_frozen hb3 hq0 hg0
  have hg1' := below_frozen hb3 hq1 hg1
  have hfz3 := below_frozen hb3 hz2' hfz'
  have hw3 := below_cell hb3 hw'
  have hfw3 := below_frozen hb3 hw' hfw'
  have hB3 := below_then hB.drew hB.size hb3
  have hS3 : (fun w' => (w'.cell? ⟨z, 0, none⟩ = some (.slice (some ⟨gw, 0, none⟩) nw cw) ∧ w'.cell? ⟨z, 1, none⟩ = some (.slice (some ⟨gl, 0, none⟩) nl cl) ∧ w'.cell? ⟨z, 2, none⟩ = some (.bool f)) ∧ (w'.cell? ⟨W.heap.size, 0, none⟩ = some (.int .i64 2) ∧ w'.cell? ⟨W.heap.size, 1, none⟩ = some (.int .i64 a) ∧ w'.cell? ⟨W.heap.size, 2, none⟩ = some (.int .u64 o) ∧ w'.cell? ⟨W.heap.size, 3, none⟩ = some (.int .u64 n)) ∧ w'.cell? ⟨gl, a, none⟩ = some (.bool true)) w3 := ⟨⟨below_cell hb3 hz0', below_cell hb3 hz1', below_cell hb3 hz2'⟩, ⟨below_cell hb3 hp0, below_cell hb3 hp1, below_cell hb3 hp2, below_cell hb3 hp3⟩, below_cell hb3 hl'⟩
  obtain ⟨⟨hz0'', hz1'', hz2''⟩, ⟨hp0', hp1', hp2', hp3'⟩, _⟩ := hS3
  clear hb3 hq0 hq1 hg0 hg1 hfz' hw' hfw' hz0' hz1' hz2' hp0 hp1 hp2 hp3 hl'
  go_wp2_with fail
  go_quiet ((go_at_call 89; exact Calls.quiet_of_same (HCUT _)))
  replace hB3 := below_drewN hB3 nq
  replace hB3 := hB3.drew
  have hix : ∀ w, (Instr.index 147 (.agg #[.nilFunc, .func (.func 94) #[] #[], .func (.func 95) #[] #[], .func (.func 96) #[] #[]]) (.int .i64 2)).run Try.prog w = .ok (.func (.func 95) #[] #[]) w := fun w => run_deeds 2 _ (by decide) _ rfl w
  go_wp2_with fail
  go_region_held3 (fun w' => w'.cell? ⟨W.heap.size, 0, none⟩ = some (.int .i64 2) ∧ w'.cell? ⟨W.heap.size, 1, none⟩ = some (.int .i64 a) ∧ w'.cell? ⟨W.heap.size, 2, none⟩ = some (.int .u64 o) ∧ w'.cell? ⟨W.heap.size, 3, none⟩ = some (.int .u64 n))
    (first
      | exact ⟨hp0', hp1', hp2', hp3'⟩
      | go_keep
      | (go_split_ands; exact ⟨below_cell hb4 (by assumption), below_cell hb4 (by assumption), below_cell hb4 (by assumption), below_cell hb4 (by assumption)⟩)
      | (go_split_ands; exact ⟨hs5.cell (by assumption) hne1, hs5.cell (by assumption) hne1, hs5.cell (by assumption) hne1, hs5.cell (by assumption) hne1⟩))
    (first
      | (go_at_call 91; refine (deeds_c _).mono ?_; rintro e w4 ⟨rfl, hb4⟩; replace hg0' := below_frozen hb4 hq0' hg0'; replace hg1' := below_frozen hb4 hq1' hg1'; replace hq0' := below_cell hb4 hq0'; replace hq1' := below_cell hb4 hq1'; replace hfw3 := below_frozen hb4 hw3 hfw3; replace hw3 := below_cell hb4 hw3; replace hB3 := below_then hB3 hB3.size hb4)
      | (go_at_call 95; refine (store_c 2 a o n gw a (.int .u64 held) _ ?_ ?_).mono ?_; exact hw3; exact hfw3; rintro e w5 ⟨rfl, hs5⟩; replace hg0' := (hs5.frozen (World.block_lt_of_cell? _ _ hq0') hne2).trans hg0'; replace hg1' := (hs5.frozen (World.block_lt_of_cell? _ _ hq1') hne2).trans hg1'; replace hq0' := hs5.cell hq0' hne2; replace hq1' := hs5.cell hq1' hne2; have hSt := Stores.after hB3 hs5))
  have hS : Stores ⟨gw, a, none⟩ (.int .u64 n) W ((w5.setCell ⟨W.heap.size + 1, 0, none⟩ (.int .u64 held)).setCell ⟨W.heap.size + 1, 1, none⟩ (.bool true)) := Below.setCell (p := ⟨W.heap.size + 1, 1, none⟩) (Below.setCell (p := ⟨W.heap.size + 1, 0, none⟩) hSt (Nat.le_succ _) _) (Nat.le_succ _) _
  go_wp2
  exact bodyPost_ret (v := .agg #[.int .u64 held, .bool true]) (by simp [results, Try.results81, go_sem, hq0', hq1']) rfl ⟨rfl, hS⟩

set_option maxRecDepth 100000 in
set_option maxHeartbeats 4000000 in
theorem on_swap_no (a : Nat) (o n : Int) (z gw nw cw gl nl cl : Nat) (f : Bool) (held : Int) (W : World) (hz0 : W.cell? ⟨z, 0, none⟩ = some (.slice (some ⟨gw, 0, none⟩) nw cw)) (hz1 : W.cell? ⟨z, 1, none⟩ = some (.slice (some ⟨gl, 0, none⟩) nl cl)) (hz2 : W.cell? ⟨z, 2, none⟩ = some (.bool f)) (hfz : W.frozen? ⟨z, 2, none⟩ = false)
    (hw : W.cell? ⟨gw, a, none⟩ = some (.int .u64 held)) (hfw : W.frozen? ⟨gw, a, none⟩ = false) (han : a < nw) (hnl : nl = nw) (hnc : nw ≤ cw) (hcm : cw ≤ 9223372036854775807) (hn : nw ≤ 4096)
    (hl : W.cell? ⟨gl, a, none⟩ = some (.bool true)) (hheld : held ≠ o) :
    Calls Try.prog 81 #[.agg #[.int .i64 3, .int .i64 a, .int .u64 o, .int .u64 n], .pointer (some ⟨z, 0, none⟩)] W fun e w' => e = .returned (.agg #[.int .u64 held, .bool false]) ∧ Below W.heap.size W w' := by
  obtain ⟨wo, hwo⟩ : ∃ wo : World, wo = (W.alloc (.cells #[.int .i64 3, .int .i64 a, .int .u64 o, .int .u64 n] 133)).alloc (.cells #[.int .u64 0, .bool false] 120) := ⟨_, rfl⟩
  have hB : Below W.heap.size W wo := by rw [hwo]; exact ((Below.refl _ _).alloc (Nat.le_refl _) _).alloc (by simp) _
  have hsz : W.heap.size + 1 < wo.heap.size := by rw [hwo]; simp
  have hp0 : wo.cell? ⟨W.heap.size, 0, none⟩ = some (.int .i64 3) := by rw [hwo]; simp
  have hp1 : wo.cell? ⟨W.heap.size, 1, none⟩ = some (.int .i64 a) := by rw [hwo]; simp
  have hp2 : wo.cell? ⟨W.heap.size, 2, none⟩ = some (.int .u64 o) := by rw [hwo]; simp
  have hp3 : wo.cell? ⟨W.heap.size, 3, none⟩ = some (.int .u64 n) := by rw [hwo]; simp
  have hq0 : wo.cell? ⟨W.heap.size + 1, 0, none⟩ = some (.int .u64 0) := by rw [hwo]; simp
  have hq1 : wo.cell? ⟨W.heap.size + 1, 1, none⟩ = some (.bool false) := by rw [hwo]; simp
  have hg0 : wo.frozen? ⟨W.heap.size + 1, 0, none⟩ = false := by rw [hwo]; simp
  have hg1 : wo.frozen? ⟨W.heap.size + 1, 1, none⟩ = false := by rw [hwo]; simp
  have hzlt := World.block_lt_of_cell? W _ hz0
  have hfz' := below_frozen hB hz2 hfz
  have hz0' := below_cell hB hz0
  have hz1' := below_cell hB hz1
  have hz2' := below_cell hB hz2
  have hl' := below_cell hB hl
  have hw' := below_cell hB hw
  have hfw' := below_frozen hB hw hfw
  have hgw := World.block_lt_of_cell? W _ hw
  simp only at hgw hzlt
  have hne1 : W.heap.size ≠ gw := by omega
  have hne2 : W.heap.size + 1 ≠ gw := by omega
  have hai : (a : Int) < nl := by omega
  have hai0 : (0 : Int) ≤ a := by omega
  clear hz0 hz1 hz2 hfz hl hw hfw
  have HTH : ∀ W' : World, Calls Try.prog 74 #[.agg #[.slice (some ⟨gw, 0, none⟩) nw cw, .slice (some ⟨gl, 0, none⟩) nl cl, .bool f], .int .i64 a, .int .i64 1] W' fun e w' => e = .returned (.bool true) ∧ Below W'.heap.size W' w' := fun W' => by
    have := there_c (some ⟨gw, 0, none⟩) nw cw (.slice (some ⟨gl, 0, none⟩) nl cl) f a 1 (by decide) (by omega) W'
    rwa [show thereB nw a 1 = true by simp [thereB]; omega] at this
  have HCUT : ∀ W' : World, Calls Try.prog 89 #[.slice (some ⟨gw, 0, none⟩) nw cw, .int .i64 a, .int .i64 1] W' fun e w' => e = .returned (.slice (some ⟨gw, a, none⟩) 1 1) ∧ w' = W' := fun W' => by
    simpa using cutW_c gw 0 nw cw a 1 (by omega) (by omega) hcm W'
  have HNE := Lib.hid hheld
  clear han hnl hnc hcm hheld
  go_enter Try.func81, Try.ntmps81
  go_wp2_with fail
  rw [← hwo]
  clear hwo
  go_region_held3 (fun w' => (w'.cell? ⟨z, 0, none⟩ = some (.slice (some ⟨gw, 0, none⟩) nw cw) ∧ w'.cell? ⟨z, 1, none⟩ = some (.slice (some ⟨gl, 0, none⟩) nl cl) ∧ w'.cell? ⟨z, 2, none⟩ = some (.bool f)) ∧ (w'.cell? ⟨W.heap.size, 0, none⟩ = some (.int .i64 3) ∧ w'.cell? ⟨W.heap.size, 1, none⟩ = some (.int .i64 a) ∧ w'.cell? ⟨W.heap.size, 2, none⟩ = some (.int .u64 o) ∧ w'.cell? ⟨W.heap.size, 3, none⟩ = some (.int .u64 n)) ∧ w'.cell? ⟨gl, a, none⟩ = some (.bool true))
    (first
      | exact ⟨⟨hz0', hz1', hz2'⟩, ⟨hp0, hp1, hp2, hp3⟩, hl'⟩
      | go_keep
      | (go_split_ands; exact ⟨⟨below_cell hb3 (by assumption), below_cell hb3 (by assumption), below_cell hb3 (by assumption)⟩, ⟨below_cell hb3 (by assumption), below_cell hb3 (by assumption), below_cell hb3 (by assumption), below_cell hb3 (by assumption)⟩, below_cell hb3 (by assumption)⟩))
    (first
      | (go_at_call 74; refine (HTH _).mono ?_; rintro e w3 ⟨rfl, hb3⟩))
  have hq0' := below_cell hb3 hq0
  have hq1' := below_cell hb3 hq1
  have hg0' := below_frozen hb3 hq0 hg0
  have hg1' := below_frozen hb3 hq1 hg1
  have hfz3 := below_frozen hb3 hz2' hfz'
  have hw3 := below_cell hb3 hw'
  have hfw3 := below_frozen hb3 hw' hfw'
  have hB3 := below_then hB.drew hB.size hb3
  have hS3 : (fun w' => (w'.cell? ⟨z, 0, none⟩ = some (.slice (some ⟨gw, 0, none⟩) nw cw) ∧ w'.cell? ⟨z, 1, none⟩ = some (.slice (some ⟨gl, 0, none⟩) nl cl) ∧ w'.cell? ⟨z, 2, none⟩ = some (.bool f)) ∧ (w'.cell? ⟨W.heap.size, 0, none⟩ = some (.int .i64 3) ∧ w'.cell? ⟨W.heap.size, 1, none⟩ = some (.int .i64 a) ∧ w'.cell? ⟨W.heap.size, 2, none⟩ = some (.int .u64 o) ∧ w'.cell? ⟨W.heap.size, 3, none⟩ = some (.int .u64 n)) ∧ w'.cell? ⟨gl, a, none⟩ = some (.bool true)) w3 := ⟨⟨below_cell hb3 hz0', below_cell hb3 hz1', below_cell hb3 hz2'⟩, ⟨below_cell hb3 hp0, below_cell hb3 hp1, below_cell hb3 hp2, below_cell hb3 hp3⟩, below_cell hb3 hl'⟩
  obtain ⟨⟨hz0'', hz1'', hz2''⟩, ⟨hp0', hp1', hp2', hp3'⟩, _⟩ := hS3
  clear hb3 hq0 hq1 hg0 hg1 hfz' hw' hfw' hz0' hz1' hz2' hp0 hp1 hp2 hp3 hl'
  go_wp2_with fail
  go_quiet ((go_at_call 89; exact Calls.quiet_of_same (HCUT _)))
  replace hB3 := below_drewN hB3 nq
  replace hB3 := hB3.drew
  have hix : ∀ w, (Instr.index 147 (.agg #[.nilFunc, .func (.func 94) #[] #[], .func (.func 95) #[] #[], .func (.func 96) #[] #[]]) (.int .i64 3)).run Try.prog w = .ok (.func (.func 96) #[] #[]) w := fun w => run_deeds 3 _ (by decide) _ rfl w
  go_wp2_with fail
  go_region_held3 (fun w' => w'.cell? ⟨W.heap.size, 0, none⟩ = some (.int .i64 3) ∧ w'.cell? ⟨W.heap.size, 1, none⟩ = some (.int .i64 a) ∧ w'.cell? ⟨W.heap.size, 2, none⟩ = some (.int .u64 o) ∧ w'.cell? ⟨W.heap.size, 3, none⟩ = some (.int .u64 n))
    (first
      | exact ⟨hp0', hp1', hp2', hp3'⟩
      | go_keep
      | (go_split_ands; exact ⟨below_cell hb4 (by assumption), below_cell hb4 (by assumption), below_cell hb4 (by assumption), below_cell hb4 (by assumption)⟩)
      | (go_split_ands; exact ⟨below_cell hb5 (by assumption), below_cell hb5 (by assumption), below_cell hb5 (by assumption), below_cell hb5 (by assumption)⟩))
    (first
      | (go_at_call 91; refine (deeds_c _).mono ?_; rintro e w4 ⟨rfl, hb4⟩; replace hg0' := below_frozen hb4 hq0' hg0'; replace hg1' := below_frozen hb4 hq1' hg1'; replace hq0' := below_cell hb4 hq0'; replace hq1' := below_cell hb4 hq1'; replace hfw3 := below_frozen hb4 hw3 hfw3; replace hw3 := below_cell hb4 hw3; replace hB3 := below_then hB3 hB3.size hb4)
      | (go_at_call 96; refine (swap_no 3 a o n held gw a _ ?_ HNE.out).mono ?_; exact hw3; rintro e w5 ⟨rfl, hb5⟩; replace hg0' := below_frozen hb5 hq0' hg0'; replace hg1' := below_frozen hb5 hq1' hg1'; replace hq0' := below_cell hb5 hq0'; replace hq1' := below_cell hb5 hq1'; replace hB3 := below_then hB3 hB3.size hb5))
  have hS := (hB3.setCell (p := ⟨W.heap.size + 1, 0, none⟩) (Nat.le_succ _) (.int .u64 held)).setCell (p := ⟨W.heap.size + 1, 1, none⟩) (Nat.le_succ _) (.bool false)
  go_wp2
  exact bodyPost_ret (v := .agg #[.int .u64 held, .bool false]) (by simp [results, Try.results81, go_sem, hq0', hq1']) rfl ⟨rfl, hS⟩

set_option maxRecDepth 100000 in
set_option maxHeartbeats 4000000 in
theorem on_swap_yes (a : Nat) (o n : Int) (z gw nw cw gl nl cl : Nat) (f : Bool) (W : World) (hz0 : W.cell? ⟨z, 0, none⟩ = some (.slice (some ⟨gw, 0, none⟩) nw cw)) (hz1 : W.cell? ⟨z, 1, none⟩ = some (.slice (some ⟨gl, 0, none⟩) nl cl)) (hz2 : W.cell? ⟨z, 2, none⟩ = some (.bool f)) (hfz : W.frozen? ⟨z, 2, none⟩ = false)
    (hw : W.cell? ⟨gw, a, none⟩ = some (.int .u64 o)) (hfw : W.frozen? ⟨gw, a, none⟩ = false) (han : a < nw) (hnl : nl = nw) (hnc : nw ≤ cw) (hcm : cw ≤ 9223372036854775807) (hn : nw ≤ 4096)
    (hl : W.cell? ⟨gl, a, none⟩ = some (.bool true)) :
    Calls Try.prog 81 #[.agg #[.int .i64 3, .int .i64 a, .int .u64 o, .int .u64 n], .pointer (some ⟨z, 0, none⟩)] W fun e w' => e = .returned (.agg #[.int .u64 o, .bool true]) ∧ Stores ⟨gw, a, none⟩ (.int .u64 n) W w' := by
  obtain ⟨wo, hwo⟩ : ∃ wo : World, wo = (W.alloc (.cells #[.int .i64 3, .int .i64 a, .int .u64 o, .int .u64 n] 133)).alloc (.cells #[.int .u64 0, .bool false] 120) := ⟨_, rfl⟩
  have hB : Below W.heap.size W wo := by rw [hwo]; exact ((Below.refl _ _).alloc (Nat.le_refl _) _).alloc (by simp) _
  have hsz : W.heap.size + 1 < wo.heap.size := by rw [hwo]; simp
  have hp0 : wo.cell? ⟨W.heap.size, 0, none⟩ = some (.int .i64 3) := by rw [hwo]; simp
  have hp1 : wo.cell? ⟨W.heap.size, 1, none⟩ = some (.int .i64 a) := by rw [hwo]; simp
  have hp2 : wo.cell? ⟨W.heap.size, 2, none⟩ = some (.int .u64 o) := by rw [hwo]; simp
  have hp3 : wo.cell? ⟨W.heap.size, 3, none⟩ = some (.int .u64 n) := by rw [hwo]; simp
  have hq0 : wo.cell? ⟨W.heap.size + 1, 0, none⟩ = some (.int .u64 0) := by rw [hwo]; simp
  have hq1 : wo.cell? ⟨W.heap.size + 1, 1, none⟩ = some (.bool false) := by rw [hwo]; simp
  have hg0 : wo.frozen? ⟨W.heap.size + 1, 0, none⟩ = false := by rw [hwo]; simp
  have hg1 : wo.frozen? ⟨W.heap.size + 1, 1, none⟩ = false := by rw [hwo]; simp
  have hzlt := World.block_lt_of_cell? W _ hz0
  have hfz' := below_frozen hB hz2 hfz
  have hz0' := below_cell hB hz0
  have hz1' := below_cell hB hz1
  have hz2' := below_cell hB hz2
  have hl' := below_cell hB hl
  have hw' := below_cell hB hw
  have hfw' := below_frozen hB hw hfw
  have hgw := World.block_lt_of_cell? W _ hw
  simp only at hgw hzlt
  have hne1 : W.heap.size ≠ gw := by omega
  have hne2 : W.heap.size + 1 ≠ gw := by omega
  have hai : (a : Int) < nl := by omega
  have hai0 : (0 : Int) ≤ a := by omega
  clear hz0 hz1 hz2 hfz hl hw hfw
  have HTH : ∀ W' : World, Calls Try.prog 74 #[.agg #[.slice (some ⟨gw, 0, none⟩) nw cw, .slice (some ⟨gl, 0, none⟩) nl cl, .bool f], .int .i64 a, .int .i64 1] W' fun e w' => e = .returned (.bool true) ∧ Below W'.heap.size W' w' := fun W' => by
    have := there_c (some ⟨gw, 0, none⟩) nw cw (.slice (some ⟨gl, 0, none⟩) nl cl) f a 1 (by decide) (by omega) W'
    rwa [show thereB nw a 1 = true by simp [thereB]; omega] at this
  have HCUT : ∀ W' : World, Calls Try.prog 89 #[.slice (some ⟨gw, 0, none⟩) nw cw, .int .i64 a, .int .i64 1] W' fun e w' => e = .returned (.slice (some ⟨gw, a, none⟩) 1 1) ∧ w' = W' := fun W' => by
    simpa using cutW_c gw 0 nw cw a 1 (by omega) (by omega) hcm W'
  clear han hnl hnc hcm
  go_enter Try.func81, Try.ntmps81
  go_wp2_with fail
  rw [← hwo]
  clear hwo
  go_region_held3 (fun w' => (w'.cell? ⟨z, 0, none⟩ = some (.slice (some ⟨gw, 0, none⟩) nw cw) ∧ w'.cell? ⟨z, 1, none⟩ = some (.slice (some ⟨gl, 0, none⟩) nl cl) ∧ w'.cell? ⟨z, 2, none⟩ = some (.bool f)) ∧ (w'.cell? ⟨W.heap.size, 0, none⟩ = some (.int .i64 3) ∧ w'.cell? ⟨W.heap.size, 1, none⟩ = some (.int .i64 a) ∧ w'.cell? ⟨W.heap.size, 2, none⟩ = some (.int .u64 o) ∧ w'.cell? ⟨W.heap.size, 3, none⟩ = some (.int .u64 n)) ∧ w'.cell? ⟨gl, a, none⟩ = some (.bool true))
    (first
      | exact ⟨⟨hz0', hz1', hz2'⟩, ⟨hp0, hp1, hp2, hp3⟩, hl'⟩
      | go_keep
      | (go_split_ands; exact ⟨⟨below_cell hb3 (by assumption), below_cell hb3 (by assumption), below_cell hb3 (by assumption)⟩, ⟨below_cell hb3 (by assumption), below_cell hb3 (by assumption), below_cell hb3 (by assumption), below_cell hb3 (by assumption)⟩, below_cell hb3 (by assumption)⟩))
    (first
      | (go_at_call 74; refine (HTH _).mono ?_; rintro e w3 ⟨rfl, hb3⟩))
  have hq0' := below_cell hb3 hq0
  have hq1' := below_cell hb3 hq1
  have hg0' := below_frozen hb3 hq0 hg0
  have hg1' := below_frozen hb3 hq1 hg1
  have hfz3 := below_frozen hb3 hz2' hfz'
  have hw3 := below_cell hb3 hw'
  have hfw3 := below_frozen hb3 hw' hfw'
  have hB3 := below_then hB.drew hB.size hb3
  have hS3 : (fun w' => (w'.cell? ⟨z, 0, none⟩ = some (.slice (some ⟨gw, 0, none⟩) nw cw) ∧ w'.cell? ⟨z, 1, none⟩ = some (.slice (some ⟨gl, 0, none⟩) nl cl) ∧ w'.cell? ⟨z, 2, none⟩ = some (.bool f)) ∧ (w'.cell? ⟨W.heap.size, 0, none⟩ = some (.int .i64 3) ∧ w'.cell? ⟨W.heap.size, 1, none⟩ = some (.int .i64 a) ∧ w'.cell? ⟨W.heap.size, 2, none⟩ = some (.int .u64 o) ∧ w'.cell? ⟨W.heap.size, 3, none⟩ = some (.int .u64 n)) ∧ w'.cell? ⟨gl, a, none⟩ = some (.bool true)) w3 := ⟨⟨below_cell hb3 hz0', below_cell hb3 hz1', below_cell hb3 hz2'⟩, ⟨below_cell hb3 hp0, below_cell hb3 hp1, below_cell hb3 hp2, below_cell hb3 hp3⟩, below_cell hb3 hl'⟩
  obtain ⟨⟨hz0'', hz1'', hz2''⟩, ⟨hp0', hp1', hp2', hp3'⟩, _⟩ := hS3
  clear hb3 hq0 hq1 hg0 hg1 hfz' hw' hfw' hz0' hz1' hz2' hp0 hp1 hp2 hp3 hl'
  go_wp2_with fail
  go_quiet ((go_at_call 89; exact Calls.quiet_of_same (HCUT _)))
  replace hB3 := below_drewN hB3 nq
  replace hB3 := hB3.drew
  have hix : ∀ w, (Instr.index 147 (.agg #[.nilFunc, .func (.func 94) #[] #[], .func (.func 95) #[] #[], .func (.func 96) #[] #[]]) (.int .i64 3)).run Try.prog w = .ok (.func (.func 96) #[] #[]) w := fun w => run_deeds 3 _ (by decide) _ rfl w
  go_wp2_with fail
  go_region_held3 (fun w' => w'.cell? ⟨W.heap.size, 0, none⟩ = some (.int .i64 3) ∧ w'.cell? ⟨W.heap.size, 1, none⟩ = some (.int .i64 a) ∧ w'.cell? ⟨W.heap.size, 2, none⟩ = some (.int .u64 o) ∧ w'.cell? ⟨W.heap.size, 3, none⟩ = some (.int .u64 n))
    (first
      | exact ⟨hp0', hp1', hp2', hp3'⟩
      | go_keep
      | (go_split_ands; exact ⟨below_cell hb4 (by assumption), below_cell hb4 (by assumption), below_cell hb4 (by assumption), below_cell hb4 (by assumption)⟩)
      | (go_split_ands; exact ⟨hs5.cell (by assumption) hne1, hs5.cell (by assumption) hne1, hs5.cell (by assumption) hne1, hs5.cell (by assumption) hne1⟩))
    (first
      | (go_at_call 91; refine (deeds_c _).mono ?_; rintro e w4 ⟨rfl, hb4⟩; replace hg0' := below_frozen hb4 hq0' hg0'; replace hg1' := below_frozen hb4 hq1' hg1'; replace hq0' := below_cell hb4 hq0'; replace hq1' := below_cell hb4 hq1'; replace hfw3 := below_frozen hb4 hw3 hfw3; replace hw3 := below_cell hb4 hw3; replace hB3 := below_then hB3 hB3.size hb4)
      | (go_at_call 96; refine (swap_yes 3 a o n gw a _ ?_ ?_).mono ?_; exact hw3; exact hfw3; rintro e w5 ⟨rfl, hs5⟩; replace hg0' := (hs5.frozen (World.block_lt_of_cell? _ _ hq0') hne2).trans hg0'; replace hg1' := (hs5.frozen (World.block_lt_of_cell? _ _ hq1') hne2).trans hg1'; replace hq0' := hs5.cell hq0' hne2; replace hq1' := hs5.cell hq1' hne2; have hSt := Stores.after hB3 hs5))
  have hS : Stores ⟨gw, a, none⟩ (.int .u64 n) W ((w5.setCell ⟨W.heap.size + 1, 0, none⟩ (.int .u64 o)).setCell ⟨W.heap.size + 1, 1, none⟩ (.bool true)) := Below.setCell (p := ⟨W.heap.size + 1, 1, none⟩) (Below.setCell (p := ⟨W.heap.size + 1, 0, none⟩) hSt (Nat.le_succ _) _) (Nat.le_succ _) _
  go_wp2
  exact bodyPost_ret (v := .agg #[.int .u64 o, .bool true]) (by simp [results, Try.results81, go_sem, hq0', hq1']) rfl ⟨rfl, hS⟩

end Go.Proofs.Ythkfjgfhaicfkaa
/-
  What an access comes to, as the document has it: the words behind it, whether there was a fault, and its answer.
  Conditions: the memory lies in a variable, and its rows may be written.
-/
namespace Go.Proofs.Ythkfjgfhaicfkaa
open Go.RowKit Go.Shelf

/-- Is the word there, and live? -/
def liveAt (ws : List Int) (ls : List Bool) (a : Int) : Bool := thereB ws.length a 1 && ls.getD a.toNat false
/-- The words behind an access, the fault, and the answer. -/
def accM (ws : List Int) (ls : List Bool) (f : Bool) (k a o n : Int) : List Int × Bool × (Int × Bool) :=
  if liveAt ws ls a = true then
    if k = 1 then (ws, f, (ws.getD a.toNat 0, true))
    else if k = 2 ∨ ws.getD a.toNat 0 = o then (ws.set a.toNat n, f, (ws.getD a.toNat 0, true))
    else (ws, f, (ws.getD a.toNat 0, false))
  else (ws, true, (0, false))
theorem accM_length (ws : List Int) (ls : List Bool) (f : Bool) (k a o n : Int) : (accM ws ls f k a o n).1.length = ws.length := by
  unfold accM
  split
  · split
    · rfl
    · split
      · simp
      · rfl
  · rfl
theorem thereB_iff {n : Nat} {a k : Int} : thereB n a k = true ↔ 1 ≤ k ∧ 0 ≤ a ∧ a ≤ (n : Int) - k := by
  simp [thereB, and_assoc]

/-- What a call leaves that makes an access of the memory that lies in block z. -/
def OnOk (B z gw cw gl cl : Nat) (ls : List Bool) (r : List Int × Bool × (Int × Bool)) (W : World) (e : Ending) (w' : World) : Prop :=
  e = .returned (.agg #[.int .u64 r.2.2.1, .bool r.2.2.2]) ∧ Keeps (fun k => k = z ∨ k = gw) W w' ∧
  (w'.cell? ⟨z, 0, none⟩ = some (.slice (some ⟨gw, 0, none⟩) r.1.length cw) ∧ w'.cell? ⟨z, 1, none⟩ = some (.slice (some ⟨gl, 0, none⟩) ls.length cl) ∧ w'.cell? ⟨z, 2, none⟩ = some (.bool r.2.1)) ∧
  (w'.frozen? ⟨z, 0, none⟩ = W.frozen? ⟨z, 0, none⟩ ∧ w'.frozen? ⟨z, 1, none⟩ = W.frozen? ⟨z, 1, none⟩ ∧ w'.frozen? ⟨z, 2, none⟩ = W.frozen? ⟨z, 2, none⟩) ∧
  w'.ownsRow B 27 1 (.slice (some ⟨gw, 0, none⟩) r.1.length cw) r.1.length (r.1.map (Value.int .u64)) ∧
  w'.ownsRow B 4 1 (.slice (some ⟨gl, 0, none⟩) ls.length cl) ls.length (ls.map Value.bool)

theorem own_cap {X : World} {B : Nat} {E : TypeId} {size : Nat} {p : Option Addr} {n cap : Nat} {xs : List Value} (h : X.ownsRow B E size (.slice p n cap) n xs) : n ≤ cap ∧ cap ≤ 9223372036854775807 := by
  rcases h.2 with ⟨h', h0⟩ | ⟨g, c, cur, h', _, _, h1, h2, _⟩
  · injection h' with _ e1 e2; omega
  · injection h' with _ e1 e2; unfold maxLen at h2; omega

theorem stores_row {p : Addr} {u : Value} {W X : World} (h : Stores p u W X) {B : Nat} {E : TypeId} {size : Nat} {v : Value} {n : Nat} {xs : List Value} (hr : W.ownsRow B E size v n xs) (hne : v.ownBlock ≠ some p.block) : X.ownsRow B E size v n xs :=
  h.keeps.row hr fun g hg e => hne (by rw [hg, e])
theorem stores_in {W X : World} {g a cap n : Nat} {B : Nat} {E : TypeId} {u : Value} {xs : List Value} (h : Stores ⟨g, a, none⟩ u W X) (hr : W.ownsRow B E 1 (.slice (some ⟨g, 0, none⟩) n cap) n xs) : X.ownsRow B E 1 (.slice (some ⟨g, 0, none⟩) n cap) n (xs.set a u) := by
  have h1 := (hr.stored a u).1
  exact owns_below h1 (by unfold Stores at h; simpa [World.setCell] using h)
theorem stores_frozen {p q : Addr} {u : Value} {W X : World} (h : Stores p u W X) (hq : q.block < W.heap.size) : X.frozen? q = W.frozen? q := by
  have h1 := Below.frozen h hq
  rw [h1]
  simp
theorem stores_here {p : Addr} {u v : Value} {W X : World} (h : Stores p u W X) (hc : W.cell? p = some v) : X.cell? p = some u :=
  (Below.cell h (World.block_lt_of_cell? W _ hc)).trans (World.cell?_setCell_same _ _ _ hc)
theorem stores_there {b o o' : Nat} {u v : Value} {W X : World} (h : Stores ⟨b, o, none⟩ u W X) (hne : o' ≠ o) (hc : W.cell? ⟨b, o', none⟩ = some v) : X.cell? ⟨b, o', none⟩ = some v :=
  (Below.cell h (World.block_lt_of_cell? W _ hc)).trans ((World.cell?_setCell_other _ _ _ _ (fun e => hne (congrArg Addr.off e).symm)).trans hc)

set_option maxHeartbeats 2000000 in
theorem on_c (k a o n : Int) (B z gw cw gl cl : Nat) (ws : List Int) (ls : List Bool) (f : Bool) (W : World) (hk1 : 1 ≤ k) (hk3 : k ≤ 3)
    (hz0 : W.cell? ⟨z, 0, none⟩ = some (.slice (some ⟨gw, 0, none⟩) ws.length cw)) (hz1 : W.cell? ⟨z, 1, none⟩ = some (.slice (some ⟨gl, 0, none⟩) ls.length cl)) (hz2 : W.cell? ⟨z, 2, none⟩ = some (.bool f)) (hfz : W.frozen? ⟨z, 2, none⟩ = false)
    (hrw : W.ownsRow B 27 1 (.slice (some ⟨gw, 0, none⟩) ws.length cw) ws.length (ws.map (Value.int .u64))) (hrl : W.ownsRow B 4 1 (.slice (some ⟨gl, 0, none⟩) ls.length cl) ls.length (ls.map Value.bool))
    (hlen : ls.length = ws.length) (hmax : ws.length ≤ 4096) (hzw : z ≠ gw) (hzl : z ≠ gl) (hwl : gw ≠ gl) :
    Calls Try.prog 81 #[.agg #[.int .i64 k, .int .i64 a, .int .u64 o, .int .u64 n], .pointer (some ⟨z, 0, none⟩)] W fun e w' => OnOk B z gw cw gl cl ls (accM ws ls f k a o n) W e w' := by
  have hcap := own_cap hrw
  -- a fault
  have fault : ∀ e w', liveAt ws ls a = false → e = .returned (.agg #[.int .u64 0, .bool false]) ∧ Stores ⟨z, 2, none⟩ (.bool true) W w' → OnOk B z gw cw gl cl ls (accM ws ls f k a o n) W e w' := by
    rintro e w' hl ⟨rfl, hs⟩
    have hz := World.block_lt_of_cell? W _ hz2
    rw [accM, if_neg (by rw [hl]; decide)]
    refine ⟨rfl, hs.keeps.sub fun q _ h => .inl h, ⟨stores_there hs (by omega) hz0, stores_there hs (by omega) hz1, stores_here hs hz2⟩, ⟨stores_frozen hs hz, stores_frozen hs hz, stores_frozen hs hz⟩, stores_row hs hrw ?_, stores_row hs hrl ?_⟩
    · simp [Value.ownBlock]; omega
    · simp [Value.ownBlock]; omega
  by_cases hth : thereB ws.length a 1 = true
  · obtain ⟨_, h0, h1⟩ := thereB_iff.1 hth
    obtain ⟨a, rfl⟩ := Int.eq_ofNat_of_zero_le h0
    have han : a < ws.length := by omega
    have hal : a < ls.length := by omega
    have hw0 : W.cell? ⟨gw, a, none⟩ = some (.int .u64 ws[a]) := by
      rw [hrw.cellAt a (by omega), List.getElem?_eq_getElem (by simpa using han)]; simp
    have hl0 : W.cell? ⟨gl, a, none⟩ = some (.bool ls[a]) := by
      rw [hrl.cellAt a (by omega), List.getElem?_eq_getElem (by simpa using hal)]; simp
    have hfw := hrw.frozenAt a
    have hz := World.block_lt_of_cell? W _ hz2
    have hg : ws.getD a 0 = ws[a] := by simp [List.getD, han]
    cases hb : ls[a] with
    | false =>
      rw [hb] at hl0
      exact (on_free a k o n z gw ws.length cw gl ls.length cl f ws[a] W hz0 hz1 hz2 hfz hw0 hfw han hlen hcap.1 hcap.2 hmax hl0).mono fun e w' h => fault e w' (by simp [liveAt, List.getD, hal, hb]) h
    | true =>
      rw [hb] at hl0
      have hlive : liveAt ws ls a = true := by simp [liveAt, List.getD, hal, hb, hth]
      -- nothing is written
      have still : ∀ (d : Bool) e w', accM ws ls f k a o n = (ws, f, (ws[a], d)) → e = .returned (.agg #[.int .u64 ws[a], .bool d]) ∧ Below W.heap.size W w' → OnOk B z gw cw gl cl ls (accM ws ls f k a o n) W e w' := by
        rintro d e w' he ⟨rfl, hs⟩
        rw [he]
        exact ⟨rfl, Keeps.of_below hs, ⟨below_cell hs hz0, below_cell hs hz1, below_cell hs hz2⟩, ⟨hs.frozen hz, hs.frozen hz, hs.frozen hz⟩, owns_below hrw hs, owns_below hrl hs⟩
      -- the word is written
      have done : ∀ e w', accM ws ls f k a o n = (ws.set a n, f, (ws[a], true)) → e = .returned (.agg #[.int .u64 ws[a], .bool true]) ∧ Stores ⟨gw, a, none⟩ (.int .u64 n) W w' → OnOk B z gw cw gl cl ls (accM ws ls f k a o n) W e w' := by
        rintro e w' he ⟨rfl, hs⟩
        rw [he]
        have hrow := stores_in hs hrw
        rw [← List.map_set] at hrow
        refine ⟨rfl, hs.keeps.sub fun q _ h => .inr h, ⟨?_, hs.cell hz1 hzw, hs.cell hz2 hzw⟩, ⟨hs.frozen hz hzw, hs.frozen hz hzw, hs.frozen hz hzw⟩, ?_, stores_row hs hrl ?_⟩
        · rw [List.length_set]; exact hs.cell hz0 hzw
        · rw [List.length_set]; exact hrow
        · simp [Value.ownBlock]; omega
      obtain rfl | rfl | rfl : k = 1 ∨ k = 2 ∨ k = 3 := by omega
      · refine (on_load a o n z gw ws.length cw gl ls.length cl f ws[a] W hz0 hz1 hz2 hfz hw0 hfw han hlen hcap.1 hcap.2 hmax hl0).mono fun e w' h => still true e w' ?_ h
        rw [accM, if_pos hlive, if_pos rfl, Int.toNat_natCast, hg]
      · refine (on_store a o n z gw ws.length cw gl ls.length cl f ws[a] W hz0 hz1 hz2 hfz hw0 hfw han hlen hcap.1 hcap.2 hmax hl0).mono fun e w' h => done e w' ?_ h
        rw [accM, if_pos hlive, if_neg (by decide), if_pos (.inl rfl), Int.toNat_natCast, hg]
      · by_cases ho : ws[a] = o
        · rw [ho] at hw0
          refine (on_swap_yes a o n z gw ws.length cw gl ls.length cl f W hz0 hz1 hz2 hfz hw0 hfw han hlen hcap.1 hcap.2 hmax hl0).mono fun e w' h => done e w' ?_ (by rw [ho]; exact h)
          rw [accM, if_pos hlive, if_neg (by decide), if_pos (.inr (by rw [Int.toNat_natCast, hg, ho])), Int.toNat_natCast, hg]
        · refine (on_swap_no a o n z gw ws.length cw gl ls.length cl f ws[a] W hz0 hz1 hz2 hfz hw0 hfw han hlen hcap.1 hcap.2 hmax hl0 ho).mono fun e w' h => still false e w' ?_ h
          rw [accM, if_pos hlive, if_neg (by decide), if_neg (by rw [Int.toNat_natCast, hg]; simp [ho]), Int.toNat_natCast, hg]
  · have hth' : thereB ws.length a 1 = false := by simpa using hth
    exact (on_out k a o n z _ ws.length cw _ ls.length cl f W hz0 hz1 hz2 hfz hmax hth').mono fun e w' h => fault e w' (by simp [liveAt, hth']) h

end Go.Proofs.Ythkfjgfhaicfkaa
namespace Go.Proofs.Ythkfjgfhaicfkaa
open Go.RowKit Go.Shelf

/-- An access: its kind, its word, what it expects, and what it stores. -/
structure Acc where
  k : Int
  a : Int
  o : Int
  n : Int
def Acc.val (x : Acc) : Value := .agg #[.int .i64 x.k, .int .i64 x.a, .int .u64 x.o, .int .u64 x.n]
/-- Is it of a kind? -/
def kindB (k : Int) : Bool := decide (1 ≤ k) && decide (k ≤ 3)
theorem kindB_iff {k : Int} : kindB k = true ↔ 1 ≤ k ∧ k ≤ 3 := by simp [kindB]
/-- A slice that reads as these accesses. -/
def AccsAt (W : World) (v : Value) (l : List Acc) : Prop := ∃ p cap, v = .slice p l.length cap ∧
  (l ≠ [] → ∃ b off, p = some ⟨b, off, none⟩ ∧ ∀ i (h : i < l.length), W.cell? ⟨b, off + i * 4, none⟩ = some (.int .i64 l[i].k) ∧ W.cell? ⟨b, off + i * 4 + 1, none⟩ = some (.int .i64 l[i].a) ∧ W.cell? ⟨b, off + i * 4 + 2, none⟩ = some (.int .u64 l[i].o) ∧ W.cell? ⟨b, off + i * 4 + 3, none⟩ = some (.int .u64 l[i].n))
theorem accs_below {W W' : World} {v : Value} {l : List Acc} (h : AccsAt W v l) (hb : Below W.heap.size W W') : AccsAt W' v l := by
  obtain ⟨p, cap, rfl, hc⟩ := h
  refine ⟨p, cap, rfl, fun hne => ?_⟩
  obtain ⟨b, off, rfl, hcs⟩ := hc hne
  exact ⟨b, off, rfl, fun i hi => ⟨below_cell hb (hcs i hi).1, below_cell hb (hcs i hi).2.1, below_cell hb (hcs i hi).2.2.1, below_cell hb (hcs i hi).2.2.2⟩⟩

set_option maxRecDepth 100000 in
theorem is_c (k a o n : Int) (W : World) : Calls Try.prog 79 #[.agg #[.int .i64 k, .int .i64 a, .int .u64 o, .int .u64 n]] W fun e w' => e = .returned (.bool (kindB k)) ∧ Below W.heap.size W w' := by
  by_cases h1 : 1 ≤ k
  · by_cases h2 : k ≤ 3
    · have HR := Lib.hid (show kindB k = true by simp [kindB, h1, h2])
      go_enter Try.func79, Try.ntmps79
      go_wp2
      go_ret
      exact ⟨ret_bool HR.out.symm, (Below.refl _ _).alloc (Nat.le_refl _) _⟩
    · have HR := Lib.hid (show kindB k = false by simp [kindB, h2])
      go_enter Try.func79, Try.ntmps79
      go_wp2
      go_ret
      exact ⟨ret_bool HR.out.symm, (Below.refl _ _).alloc (Nat.le_refl _) _⟩
  · have HR := Lib.hid (show kindB k = false by simp [kindB, h1])
    go_enter Try.func79, Try.ntmps79
    go_wp2
    go_ret
    exact ⟨ret_bool HR.out.symm, (Below.refl _ _).alloc (Nat.le_refl _) _⟩

set_option maxRecDepth 100000 in
theorem runLit_c (i : Int) (k a o n : Int) (W : World) : Calls Try.prog 78 #[.int .i64 i, .agg #[.int .i64 k, .int .i64 a, .int .u64 o, .int .u64 n]] W fun e w' => e = .returned (.bool (kindB k)) ∧ Below W.heap.size W w' := by
  go_enter Try.func78, Try.ntmps78
  go_wp2_with fail
  refine (is_c k a o n _).mono ?_
  rintro e w1 ⟨rfl, hb⟩
  go_wp2
  go_ret
  exact ⟨rfl, below_then ((Below.refl _ _).alloc (Nat.le_refl _) _) (by simp) hb⟩

/-- The first i accesses are of a kind. -/
def KindTo (l : List Acc) (i : Nat) : Prop := (l.take i).all (fun x => kindB x.k) = true
def kindAll (l : List Acc) : Bool := l.all fun x => kindB x.k
theorem kindTo_step {l : List Acc} {i : Nat} (h : KindTo l i) (hi : i < l.length) : (kindB l[i].k = true → KindTo l (i + 1)) ∧ (kindB l[i].k = false → kindAll l = false) := by
  refine ⟨fun e => ?_, fun e => ?_⟩
  · unfold KindTo at h ⊢
    rw [List.take_succ_eq_append_getElem hi, List.all_append, h]
    simp [e]
  · unfold kindAll
    rw [List.all_eq_false]
    exact ⟨l[i], List.getElem_mem hi, by simp [e]⟩
theorem kindTo_end {l : List Acc} (h : KindTo l l.length) : kindAll l = true := by
  unfold KindTo at h
  rwa [List.take_length] at h

set_option maxRecDepth 100000 in
set_option maxHeartbeats 1000000 in
theorem everyA_c (v : Value) (l : List Acc) (W : World) (hv : AccsAt W v l) (hmax : l.length ≤ 4611686018427387904) :
    Calls Try.prog 77 #[v, .func (.func 78) #[] #[]] W
      fun e w' => e = .returned (.bool (kindAll l)) ∧ Below W.heap.size W w' := by
  obtain ⟨p, cap, rfl, hc⟩ := hv
  go_enter Try.func77, Try.ntmps77
  go_wp2
  go_loopw [9] (fun iv wr => ∃ i : Nat, i ≤ l.length ∧ iv = .int .i64 i ∧ KindTo l i ∧ Below W.heap.size W wr) (fun iv _ => l.length - (intOf iv).toNat)
  case atStart => exact ⟨0, Nat.zero_le _, rfl, rfl, Below.refl _ _⟩
  case round =>
    obtain ⟨i, hi, rfl, hm, hB⟩ := hrel
    by_cases hlt : i < l.length
    · have hstep := kindTo_step hm hlt
      obtain ⟨b, off, rfl, hcs⟩ := hc (by intro e; rw [e] at hlt; cases hlt)
      obtain ⟨h0, h1, h2, h3⟩ := hcs i hlt
      obtain ⟨⟨k, a, o, n⟩, hx⟩ : ∃ x, x = l[i] := ⟨_, rfl⟩
      rw [← hx] at h0 h1 h2 h3 hstep
      simp only at h0 h1 h2 h3 hstep
      have h0' := below_cell hB h0
      have h1' := below_cell hB h1
      have h2' := below_cell hB h2
      have h3' := below_cell hB h3
      have HST := Lib.hid hstep
      clear hstep hx hm h0 h1 h2 h3 hcs
      go_wp2_with fail
      refine (runLit_c i k a o n _).mono ?_
      rintro e w1 ⟨rfl, hb1⟩
      have hB1 := below_then (hB.alloc hB.size _) (by have := hB.size; simp; omega) hb1
      clear hb1
      rcases Bool.eq_false_or_eq_true (kindB k) with hb | hb
      · rw [hb]
        go_wp2
        go_roundw
        case rel => exact ⟨i + 1, by omega, by go_num, HST.out.1 hb, hB1⟩
        case measure => simp [intOf]; omega
      · rw [hb]
        go_wp2
        go_ret
        exact ⟨ret_bool (HST.out.2 hb).symm, hB1⟩
    · obtain rfl : i = l.length := by omega
      go_wp2
      go_ret
      exact ⟨ret_bool (kindTo_end hm).symm, hB⟩

end Go.Proofs.Ythkfjgfhaicfkaa
