/-
  Opening arguments of layer 2: a memory, an access, a row of three words.
  Conditions: none.
-/
import Derived.Test.YtaljpggajpoalaaSB1
import Derived.Lib.Hide
import Derived.Deep.CutBlock
import Derived.Deep.DeepCutAuto
import Derived.Deep.RegionHeld3
import Derived.Lib.SmallJoins
import Derived.Laws.IdiomArrays
import Derived.Deep.Grids
/-
  What an access of a word comes to, that is there: stored, or swapped.
  Conditions: the word is there, and may be written.
-/
namespace Go.Proofs.Ytaljpggajpoalaa
open Go.RowKit Go.Shelf

set_option maxRecDepth 100000 in
set_option maxHeartbeats 4000000 in
theorem on_store (a : Nat) (o n : Int) (z gw nw cw gl nl cl : Nat) (f : Bool) (held : Int) (W : World) (hz0 : W.cell? ⟨z, 0, none⟩ = some (.slice (some ⟨gw, 0, none⟩) nw cw)) (hz1 : W.cell? ⟨z, 1, none⟩ = some (.slice (some ⟨gl, 0, none⟩) nl cl)) (hz2 : W.cell? ⟨z, 2, none⟩ = some (.bool f)) (hfz : W.frozen? ⟨z, 2, none⟩ = false)
    (hw : W.cell? ⟨gw, a, none⟩ = some (.int .u64 held)) (hfw : W.frozen? ⟨gw, a, none⟩ = false) (han : a < nw) (hnl : nl = nw) (hnc : nw ≤ cw) (hcm : cw ≤ 9223372036854775807) (hn : nw ≤ 4096)
    (hl : W.cell? ⟨gl, a, none⟩ = some (.bool true)) :
    Calls Try.prog 81 #[.agg #[.int .i64 2, .int .i64 a, .int .u64 o, .int .u64 n], .pointer (some ⟨z, 0, none⟩)] W fun e w' => e = .returned (.agg #[.int .u64 held, .bool true]) ∧ Stores ⟨gw, a, none⟩ (.int .u64 n) W w' := by
  obtain ⟨wo, hwo⟩ : ∃ wo : World, wo = (W.alloc (.cells #[.int .i64 2, .int .i64 a, .int .u64 o, .int .u64 n] 133)).alloc (.cells #[.int .u64 0, .bool false] 120) := ⟨_, rfl⟩
  have hB : Below W.heap.size W wo := by rw [hwo]; exact ((Below.refl _ _).alloc (Nat.le_refl _) _).alloc (by simp) _
  have hsz : W.heap.size + 1 < wo.heap.size := by rw [hwo]; simp
  have hp0 : wo.cell? ⟨W.heap.size, 0, none⟩ = some (.int .i64 2) := by rw [hwo]; simp
  have hp1 : wo.cell? ⟨W.heap.size, 1, none⟩ = some (.int .i64 a) := by rw [hwo]; simp
  have hp2 : wo.cell? ⟨W.heap.size, 2, none⟩ = some (.int .u64 o) := by rw [hwo]; simp
  have hp3 : wo.cell? ⟨W.heap.size, 3, none⟩ = some (.int .u64 n) := by rw [hwo]; simp
  have hq0 : wo.cell? ⟨W.heap.size + 1, 0, none⟩ = some (.int .u64 0) := by rw [hwo]; simp
  have hq1 : wo.cell? ⟨W.heap.size + 1, 1, none⟩ = some (.bool false) := by rw [hwo]; simp
  have hg0 : wo.frozen? ⟨W.heap.size + 1, 0, none⟩ = false := by rw [hwo]; simp
  have hg1 : wo.frozen? ⟨W.heap.size + 1, 1, none⟩ = false := by rw [hwo]; simp
  have hzlt := World.block_lt_of_cell? W _ hz0
  have hfz' := below_frozen hB hz2 hfz
  have hz0' := below_cell hB hz0
  have hz1' := below_cell hB hz1
  have hz2' := below_cell hB hz2
  have hl' := below_cell hB hl
  have hw' := below_cell hB hw
  have hfw' := below_frozen hB hw hfw
  have hgw := World.block_lt_of_cell? W _ hw
  simp only at hgw hzlt
  have hne1 : W.heap.size ≠ gw := by omega
  have hne2 : W.heap.size + 1 ≠ gw := by omega
  have hai : (a : Int) < nl := by omega
  have hai0 : (0 : Int) ≤ a := by omega
  clear hz0 hz1 hz2 hfz hl hw hfw
  have HTH : ∀ W' : World, Calls Try.prog 74 #[.agg #[.slice (some ⟨gw, 0, none⟩) nw cw, .slice (some ⟨gl, 0, none⟩) nl cl, .bool f], .int .i64 a, .int .i64 1] W' fun e w' => e = .returned (.bool true) ∧ Below W'.heap.size W' w' := fun W' => by
    have := there_c (some ⟨gw, 0, none⟩) nw cw (.slice (some ⟨gl, 0, none⟩) nl cl) f a 1 (by decide) (by omega) W'
    rwa [show thereB nw a 1 = true by simp [thereB]; omega] at this
  have HCUT : ∀ W' : World, Calls Try.prog 89 #[.slice (some ⟨gw, 0, none⟩) nw cw, .int .i64 a, .int .i64 1] W' fun e w' => e = .returned (.slice (some ⟨gw, a, none⟩) 1 1) ∧ w' = W' := fun W' => by
    simpa using cutW_c gw 0 nw cw a 1 (by omega) (by omega) hcm W'
  clear han hnl hnc hcm
  go_enter Try.func81, Try.ntmps81
  go_wp2_with fail
  rw [← hwo]
  clear hwo
  go_region_held3 (fun w' => (w'.cell? ⟨z, 0, none⟩ = some (.slice (some ⟨gw, 0, none⟩) nw cw) ∧ w'.cell? ⟨z, 1, none⟩ = some (.slice (some ⟨gl, 0, none⟩) nl cl) ∧ w'.cell? ⟨z, 2, none⟩ = some (.bool f)) ∧ (w'.cell? ⟨W.heap.size, 0, none⟩ = some (.int .i64 2) ∧ w'.cell? ⟨W.heap.size, 1, none⟩ = some (.int .i64 a) ∧ w'.cell? ⟨W.heap.size, 2, none⟩ = some (.int .u64 o) ∧ w'.cell? ⟨W.heap.size, 3, none⟩ = some (.int .u64 n)) ∧ w'.cell? ⟨gl, a, none⟩ = some (.bool true))
    (first
      | exact ⟨⟨hz0', hz1', hz2'⟩, ⟨hp0, hp1, hp2, hp3⟩, hl'⟩
      | go_keep
      | (go_split_ands; exact ⟨⟨below_cell hb3 (by assumption), below_cell hb3 (by assumption), below_cell hb3 (by assumption)⟩, ⟨below_cell hb3 (by assumption), below_cell hb3 (by assumption), below_cell hb3 (by assumption), below_cell hb3 (by assumption)⟩, below_cell hb3 (by assumption)⟩))
    (first
      | (go_at_call 74; refine (HTH _).mono ?_; rintro e w3 ⟨rfl, hb3⟩))
  have hq0' := below_cell hb3 hq0
  have hq1' := below_cell hb3 hq1
  have hg0' := below_frozen hb3 hq0 hg0
  have hg1' := below_frozen hb3 hq1 hg1
  have hfz3 := below_frozen hb3 hz2' hfz'
  have hw3 := below_cell hb3 hw'
  have hfw3 := below_frozen hb3 hw' hfw'
  have hB3 := below_then hB.drew hB.size hb3
  have hS3 : (fun w' => (w'.cell? ⟨z, 0, none⟩ = some (.slice (some ⟨gw, 0, none⟩) nw cw) ∧ w'.cell? ⟨z, 1, none⟩ = some (.slice (some ⟨gl, 0, none⟩) nl cl) ∧ w'.cell? ⟨z, 2, none⟩ = some (.bool f)) ∧ (w'.cell? ⟨W.heap.size, 0, none⟩ = some (.int .i64 2) ∧ w'.cell? ⟨W.heap.size, 1, none⟩ = some (.int .i64 a) ∧ w'.cell? ⟨W.heap.size, 2, none⟩ = some (.int .u64 o) ∧ w'.cell? ⟨W.heap.size, 3, none⟩ = some (.int .u64 n)) ∧ w'.cell? ⟨gl, a, none⟩ = some (.bool true)) w3 := ⟨⟨below_cell hb3 hz0', below_cell hb3 hz1', below_cell hb3 hz2'⟩, ⟨below_cell hb3 hp0, below_cell hb3 hp1, below_cell hb3 hp2, below_cell hb3 hp3⟩, below_cell hb3 hl'⟩
  obtain ⟨⟨hz0'', hz1'', hz2''⟩, ⟨hp0', hp1', hp2', hp3'⟩, _⟩ := hS3
  clear hb3 hq0 hq1 hg0 hg1 hfz' hw' hfw' hz0' hz1' hz2' hp0 hp1 hp2 hp3 hl'
  go_wp2_with fail
  go_quiet ((go_at_call 89; exact Calls.quiet_of_same (HCUT _)))
  replace hB3 := below_drewN hB3 nq
  replace hB3 := hB3.drew
  have hix : ∀ w, (Instr.index 147 (.agg #[.nilFunc, .func (.func 94) #[] #[], .func (.func 95) #[] #[], .func (.func 96) #[] #[]]) (.int .i64 2)).run Try.prog w = .ok (.func (.func 95) #[] #[]) w := fun w => run_deeds 2 _ (by decide) _ rfl w
  go_wp2_with fail
  go_region_held3 (fun w' => w'.cell? ⟨W.heap.size, 0, none⟩ = some (.int .i64 2) ∧ w'.cell? ⟨W.heap.size, 1, none⟩ = some (.int .i64 a) ∧ w'.cell? ⟨W.heap.size, 2, none⟩ = some (.int .u64 o) ∧ w'.cell? ⟨W.heap.size, 3, none⟩ = some (.int .u64 n))
    (first
      | exact ⟨hp0', hp1', hp2', hp3'⟩
      | go_keep
      | (go_split_ands; exact ⟨below_cell hb4 (by assumption), below_cell hb4 (by assumption), below_cell hb4 (by assumption), below_cell hb4 (by assumption)⟩)
      | (go_split_ands; exact ⟨hs5.cell (by assumption) hne1, hs5.cell (by assumption) hne1, hs5.cell (by assumption) hne1, hs5.cell (by assumption) hne1⟩))
    (first
      | (go_at_call 91; refine (deeds_c _).mono ?_; rintro e w4 ⟨rfl, hb4⟩; replace hg0' := below_frozen hb4 hq0' hg0'; replace hg1' := below_frozen hb4 hq1' hg1'; replace hq0' := below_cell hb4 hq0'; replace hq1' := below_cell hb4 hq1'; replace hfw3 := below_frozen hb4 hw3 hfw3; replace hw3 := below_cell hb4 hw3; replace hB3 := below_then hB3 hB3.size hb4)
      | (go_at_call 95; refine (store_c 2 a o n gw a (.int .u64 held) _ ?_ ?_).mono ?_; exact hw3; exact hfw3; rintro e w5 ⟨rfl, hs5⟩; replace hg0' := (hs5.frozen (World.block_lt_of_cell? _ _ hq0') hne2).trans hg0'; replace hg1' := (hs5.frozen (World.block_lt_of_cell? _ _ hq1') hne2).trans hg1'; replace hq0' := hs5.cell hq0' hne2; replace hq1' := hs5.cell hq1' hne2; have hSt := Stores.after hB3 hs5))
  have hS : Stores ⟨gw, a, none⟩ (.int .u64 n) W ((w5.setCell ⟨W.heap.size + 1, 0, none⟩ (.int .u64 held)).setCell ⟨W.heap.size + 1, 1, none⟩ (.bool true)) := Below.setCell (p := ⟨W.heap.size + 1, 1, none⟩) (Below.setCell (p := ⟨W.heap.size + 1, 0, none⟩) hSt (Nat.le_succ _) _) (Nat.le_succ _) _
  go_wp2
  exact bodyPost_ret (v := .agg #[.int .u64 held, .bool true]) (by simp [results, Try.results81, go_sem, hq0', hq1']) rfl ⟨rfl, hS⟩

set_option maxRecDepth 100000 in
set_option maxHeartbeats 4000000 in
theorem on_swap_no (a : Nat) (o n : Int) (z gw nw cw gl nl cl : Nat) (f : Bool) (held : Int) (W : World) (hz0 : W.cell? ⟨z, 0, none⟩ = some (.slice (some ⟨gw, 0, none⟩) nw cw)) (hz1 : W.cell? ⟨z, 1, none⟩ = some (.slice (some ⟨gl, 0, none⟩) nl cl)) (hz2 : W.cell? ⟨z, 2, none⟩ = some (.bool f)) (hfz : W.frozen? ⟨z, 2, none⟩ = false)
    (hw : W.cell? ⟨gw, a, none⟩ = some (.int .u64 held)) (hfw : W.frozen? ⟨gw, a, none⟩ = false) (han : a < nw) (hnl : nl = nw) (hnc : nw ≤ cw) (hcm : cw ≤ 9223372036854775807) (hn : nw ≤ 4096)
    (hl : W.cell? ⟨gl, a, none⟩ = some (.bool true)) (hheld : held ≠ o) :
    Calls Try.prog 81 #[.agg #[.int .i64 3, .int .i64 a, .int .u64 o, .int .u64 n], .pointer (some ⟨z, 0, none⟩)] W fun e w' => e = .returned (.agg #[.int .u64 held, .bool false]) ∧ Below W.heap.size W w' := by
  obtain ⟨wo, hwo⟩ : ∃ wo : World, wo = (W.alloc (.cells #[.int .i64 3, .int .i64 a, .int .u64 o, .int .u64 n] 133)).alloc (.cells #[.int .u64 0, .bool false] 120) := ⟨_, rfl⟩
  have hB : Below W.heap.size W wo := by rw [hwo]; exact ((Below.refl _ _).alloc (Nat.le_refl _) _).alloc (by simp) _
  have hsz : W.heap.size + 1 < wo.heap.size := by rw [hwo]; simp
  have hp0 : wo.cell? ⟨W.heap.size, 0, none⟩ = some (.int .i64 3) := by rw [hwo]; simp
  have hp1 : wo.cell? ⟨W.heap.size, 1, none⟩ = some (.int .i64 a) := by rw [hwo]; simp
  have hp2 : wo.cell? ⟨W.heap.size, 2, none⟩ = some (.int .u64 o) := by rw [hwo]; simp
  have hp3 : wo.cell? ⟨W.heap.size, 3, none⟩ = some (.int .u64 n) := by rw [hwo]; simp
  have hq0 : wo.cell? ⟨W.heap.size + 1, 0, none⟩ = some (.int .u64 0) := by rw [hwo]; simp
  have hq1 : wo.cell? ⟨W.heap.size + 1, 1, none⟩ = some (.bool false) := by rw [hwo]; simp
  have hg0 : wo.frozen? ⟨W.heap.size + 1, 0, none⟩ = false := by rw [hwo]; simp
  have hg1 : wo.frozen? ⟨W.heap.size + 1, 1, none⟩ = false := by rw [hwo]; simp
  have hzlt := World.block_lt_of_cell? W _ hz0
  have hfz' := below_frozen hB hz2 hfz
  have hz0' := below_cell hB hz0
  have hz1' := below_cell hB hz1
  have hz2' := below_cell hB hz2
  have hl' := below_cell hB hl
  have hw' := below_cell hB hw
  have hfw' := below_frozen hB hw hfw
  have hgw := World.block_lt_of_cell? W _ hw
  simp only at hgw hzlt
  have hne1 : W.heap.size ≠ gw := by omega
  have hne2 : W.heap.size + 1 ≠ gw := by omega
  have hai : (a : Int) < nl := by omega
  have hai0 : (0 : Int) ≤ a := by omega
  clear hz0 hz1 hz2 hfz hl hw hfw
  have HTH : ∀ W' : World, Calls Try.prog 74 #[.agg #[.slice (some ⟨gw, 0, none⟩) nw cw, .slice (some ⟨gl, 0, none⟩) nl cl, .bool f], .int .i64 a, .int .i64 1] W' fun e w' => e = .returned (.bool true) ∧ Below W'.heap.size W' w' := fun W' => by
    have := there_c (some ⟨gw, 0, none⟩) nw cw (.slice (some ⟨gl, 0, none⟩) nl cl) f a 1 (by decide) (by omega) W'
    rwa [show thereB nw a 1 = true by simp [thereB]; omega] at this
  have HCUT : ∀ W' : World, Calls Try.prog 89 #[.slice (some ⟨gw, 0, none⟩) nw cw, .int .i64 a, .int .i64 1] W' fun e w' => e = .returned (.slice (some ⟨gw, a, none⟩) 1 1) ∧ w' = W' := fun W' => by
    simpa using cutW_c gw 0 nw cw a 1 (by omega) (by omega) hcm W'
  have HNE := Lib.hid hheld
  clear han hnl hnc hcm hheld
  go_enter Try.func81, Try.ntmps81
  go_wp2_with fail
  rw [← hwo]
  clear hwo
  go_region_held3 (fun w' => (w'.cell? ⟨z, 0, none⟩ = some (.slice (some ⟨gw, 0, none⟩) nw cw) ∧ w'.cell? ⟨z, 1, none⟩ = some (.slice (some ⟨gl, 0, none⟩) nl cl) ∧ w'.cell? ⟨z, 2, none⟩ = some (.bool f)) ∧ (w'.cell? ⟨W.heap.size, 0, none⟩ = some (.int .i64 3) ∧ w'.cell? ⟨W.heap.size, 1, none⟩ = some (.int .i64 a) ∧ w'.cell? ⟨W.heap.size, 2, none⟩ = some (.int .u64 o) ∧ w'.cell? ⟨W.heap.size, 3, none⟩ = some (.int .u64 n)) ∧ w'.cell? ⟨gl, a, none⟩ = some (.bool true))
    (first
      | exact ⟨⟨hz0', hz1', hz2'⟩, ⟨hp0, hp1, hp2, hp3⟩, hl'⟩
      | go_keep
      | (go_split_ands; exact ⟨⟨below_cell hb3 (by assumption), below_cell hb3 (by assumption), below_cell hb3 (by assumption)⟩, ⟨below_cell hb3 (by assumption), below_cell hb3 (by assumption), below_cell hb3 (by assumption), below_cell hb3 (by assumption)⟩, below_cell hb3 (by assumption)⟩))
    (first
      | (go_at_call 74; refine (HTH _).mono ?_; rintro e w3 ⟨rfl, hb3⟩))
  have hq0' := below_cell hb3 hq0
  have hq1' := below_cell hb3 hq1
  have hg0' := below_frozen hb3 hq0 hg0
  have hg1' := below_frozen hb3 hq1 hg1
  have hfz3 := below_frozen hb3 hz2' hfz'
  have hw3 := below_cell hb3 hw'
  have hfw3 := below_frozen hb3 hw' hfw'
  have hB3 := below_then hB.drew hB.size hb3
  have hS3 : (fun w' => (w'.cell? ⟨z, 0, none⟩ = some (.slice (some ⟨gw, 0, none⟩) nw cw) ∧ w'.cell? ⟨z, 1, none⟩ = some (.slice (some ⟨gl, 0, none⟩) nl cl) ∧ w'.cell? ⟨z, 2, none⟩ = some (.bool f)) ∧ (w'.cell? ⟨W.heap.size, 0, none⟩ = some (.int .i64 3) ∧ w'.cell? ⟨W.heap.size, 1, none⟩ = some (.int .i64 a) ∧ w'.cell? ⟨W.heap.size, 2, none⟩ = some (.int .u64 o) ∧ w'.cell? ⟨W.heap.size, 3, none⟩ = some (.int .u64 n)) ∧ w'.cell? ⟨gl, a, none⟩ = some (.bool true)) w3 := ⟨⟨below_cell hb3 hz0', below_cell hb3 hz1', below_cell hb3 hz2'⟩, ⟨below_cell hb3 hp0, below_cell hb3 hp1, below_cell hb3 hp2, below_cell hb3 hp3⟩, below_cell hb3 hl'⟩
  obtain ⟨⟨hz0'', hz1'', hz2''⟩, ⟨hp0', hp1', hp2', hp3'⟩, _⟩ := hS3
  clear hb3 hq0 hq1 hg0 hg1 hfz' hw' hfw' hz0' hz1' hz2' hp0 hp1 hp2 hp3 hl'
  go_wp2_with fail
  go_quiet ((go_at_call 89; exact Calls.quiet_of_same (HCUT _)))
  replace hB3 := below_drewN hB3 nq
  replace hB3 := hB3.drew
  have hix : ∀ w, (Instr.index 147 (.agg #[.nilFunc, .func (.func 94) #[] #[], .func (.func 95) #[] #[], .func (.func 96) #[] #[]]) (.int .i64 3)).run Try.prog w = .ok (.func (.func 96) #[] #[]) w := fun w => run_deeds 3 _ (by decide) _ rfl w
  go_wp2_with fail
  go_region_held3 (fun w' => w'.cell? ⟨W.heap.size, 0, none⟩ = some (.int .i64 3) ∧ w'.cell? ⟨W.heap.size, 1, none⟩ = some (.int .i64 a) ∧ w'.cell? ⟨W.heap.size, 2, none⟩ = some (.int .u64 o) ∧ w'.cell? ⟨W.heap.size, 3, none⟩ = some (.int .u64 n))
    (first
      | exact ⟨hp0', hp1', hp2', hp3'⟩
      | go_keep
      | (go_split_ands; exact ⟨below_cell hb4 (by assumption), below_cell hb4 (by assumption), below_cell hb4 (by assumption), below_cell hb4 (by assumption)⟩)
      | (go_split_ands; exact ⟨below_cell hb5 (by assumption), below_cell hb5 (by assumption), below_cell hb5 (by assumption), below_cell hb5 (by assumption)⟩))
    (first
      | (go_at_call 91; refine (deeds_c _).mono ?_; rintro e w4 ⟨rfl, hb4⟩; replace hg0' := below_frozen hb4 hq0' hg0'; replace hg1' := below_frozen hb4 hq1' hg1'; replace hq0' := below_cell hb4 hq0'; replace hq1' := below_cell hb4 hq1'; replace hfw3 := below_frozen hb4 hw3 hfw3; replace hw3 := below_cell hb4 hw3; replace hB3 := below_then hB3 hB3.size hb4)
      | (go_at_call 96; refine (swap_no 3 a o n held gw a _ ?_ HNE.out).mono ?_; exact hw3; rintro e w5 ⟨rfl, hb5⟩; replace hg0' := below_frozen hb5 hq0' hg0'; replace hg1' := below_frozen hb5 hq1' hg1'; replace hq0' := below_cell hb5 hq0'; replace hq1' := below_cell hb5 hq1'; replace hB3 := below_then hB3 hB3.size hb5))
  have hS := (hB3.setCell (p := ⟨W.heap.size + 1, 0, none⟩) (Nat.le_succ _) (.int .u64 held)).setCell (p := ⟨W.heap.size + 1, 1, none⟩) (Nat.le_succ _) (.bool false)
  go_wp2
  exact bodyPost_ret (v := .agg #[.int .u64 held, .bool false]) (by simp [results, Try.results81, go_sem, hq0', hq1']) rfl ⟨rfl, hS⟩

set_option maxRecDepth 100000 in
set_option maxHeartbeats 4000000 in
theorem on_swap_yes (a : Nat) (o n : Int) (z gw nw cw gl nl cl : Nat) (f : Bool) (W : World) (hz0 : W.cell? ⟨z, 0, none⟩ = some (.slice (some ⟨gw, 0, none⟩) nw cw)) (hz1 : W.cell? ⟨z, 1, none⟩ = some (.slice (some ⟨gl, 0, none⟩) nl cl)) (hz2 : W.cell? ⟨z, 2, none⟩ = some (.bool f)) (hfz : W.frozen? ⟨z, 2, none⟩ = false)
    (hw : W.cell? ⟨gw, a, none⟩ = some (.int .u64 o)) (hfw : W.frozen? ⟨gw, a, none⟩ = false) (han : a < nw) (hnl : nl = nw) (hnc : nw ≤ cw) (hcm : cw ≤ 9223372036854775807) (hn : nw ≤ 4096)
    (hl : W.cell? ⟨gl, a, none⟩ = some (.bool true)) :
    Calls Try.prog 81 #[.agg #[.int .i64 3, .int .i64 a, .int .u64 o, .int .u64 n], .pointer (some ⟨z, 0, none⟩)] W fun e w' => e = .returned (.agg #[.int .u64 o, .bool true]) ∧ Stores ⟨gw, a, none⟩ (.int .u64 n) W w' := by
  obtain ⟨wo, hwo⟩ : ∃ wo : World, wo = (W.alloc (.cells #[.int .i64 3, .int .i64 a, .int .u64 o, .int .u64 n] 133)).alloc (.cells #[.int .u64 0, .bool false] 120) := ⟨_, rfl⟩
  have hB : Below W.heap.size W wo := by rw [hwo]; exact ((Below.refl _ _).alloc (Nat.le_refl _) _).alloc (by simp) _
  have hsz : W.heap.size + 1 < wo.heap.size := by rw [hwo]; simp
  have hp0 : wo.cell? ⟨W.heap.size, 0, none⟩ = some (.int .i64 3) := by rw [hwo]; simp
  have hp1 : wo.cell? ⟨W.heap.size, 1, none⟩ = some (.int .i64 a) := by rw [hwo]; simp
  have hp2 : wo.cell? ⟨W.heap.size, 2, none⟩ = some (.int .u64 o) := by rw [hwo]; simp
  have hp3 : wo.cell? ⟨W.heap.size, 3, none⟩ = some (.int .u64 n) := by rw [hwo]; simp
  have hq0 : wo.cell? ⟨W.heap.size + 1, 0, none⟩ = some (.int .u64 0) := by rw [hwo]; simp
  have hq1 : wo.cell? ⟨W.heap.size + 1, 1, none⟩ = some (.bool false) := by rw [hwo]; simp
  have hg0 : wo.frozen? ⟨W.heap.size + 1, 0, none⟩ = false := by rw [hwo]; simp
  have hg1 : wo.frozen? ⟨W.heap.size + 1, 1, none⟩ = false := by rw [hwo]; simp
  have hzlt := World.block_lt_of_cell? W _ hz0
  have hfz' := below_frozen hB hz2 hfz
  have hz0' := below_cell hB hz0
  have hz1' := below_cell hB hz1
  have hz2' := below_cell hB hz2
  have hl' := below_cell hB hl
  have hw' := below_cell hB hw
  have hfw' := below_frozen hB hw hfw
  have hgw := World.block_lt_of_cell? W _ hw
  simp only at hgw hzlt
  have hne1 : W.heap.size ≠ gw := by omega
  have hne2 : W.heap.size + 1 ≠ gw := by omega
  have hai : (a : Int) < nl := by omega
  have hai0 : (0 : Int) ≤ a := by omega
  clear hz0 hz1 hz2 hfz hl hw hfw
  have HTH : ∀ W' : World, Calls Try.prog 74 #[.agg #[.slice (some ⟨gw, 0, none⟩) nw cw, .slice (some ⟨gl, 0, none⟩) nl cl, .bool f], .int .i64 a, .int .i64 1] W' fun e w' => e = .returned (.bool true) ∧ Below W'.heap.size W' w' := fun W' => by
    have := there_c (some ⟨gw, 0, none⟩) nw cw (.slice (some ⟨gl, 0, none⟩) nl cl) f a 1 (by decide) (by omega) W'
    rwa [show thereB nw a 1 = true by simp [thereB]; omega] at this
  have HCUT : ∀ W' : World, Calls Try.prog 89 #[.slice (some ⟨gw, 0, none⟩) nw cw, .int .i64 a, .int .i64 1] W' fun e w' => e = .returned (.slice (some ⟨gw, a, none⟩) 1 1) ∧ w' = W' := fun W' => by
    simpa using cutW_c gw 0 nw cw a 1 (by omega) (by omega) hcm W'
  clear han hnl hnc hcm
  go_enter Try.func81, Try.ntmps81
  go_wp2_with fail
  rw [← hwo]
  clear hwo
  go_region_held3 (fun w' => (w'.cell? ⟨z, 0, none⟩ = some (.slice (some ⟨gw, 0, none⟩) nw cw) ∧ w'.cell? ⟨z, 1, none⟩ = some (.slice (some ⟨gl, 0, none⟩) nl cl) ∧ w'.cell? ⟨z, 2, none⟩ = some (.bool f)) ∧ (w'.cell? ⟨W.heap.size, 0, none⟩ = some (.int .i64 3) ∧ w'.cell? ⟨W.heap.size, 1, none⟩ = some (.int .i64 a) ∧ w'.cell? ⟨W.heap.size, 2, none⟩ = some (.int .u64 o) ∧ w'.cell? ⟨W.heap.size, 3, none⟩ = some (.int .u64 n)) ∧ w'.cell? ⟨gl, a, none⟩ = some (.bool true))
    (first
      | exact ⟨⟨hz0', hz1', hz2'⟩, ⟨hp0, hp1, hp2, hp3⟩, hl'⟩
      | go_keep
      | (go_split_ands; exact ⟨⟨below_cell hb3 (by assumption), below_cell hb3 (by assumption), below_cell hb3 (by assumption)⟩, ⟨below_cell hb3 (by assumption), below_cell hb3 (by assumption), below_cell hb3 (by assumption), below_cell hb3 (by assumption)⟩, below_cell hb3 (by assumption)⟩))
    (first
      | (go_at_call 74; refine (HTH _).mono ?_; rintro e w3 ⟨rfl, hb3⟩))
  have hq0' := below_cell hb3 hq0
  have hq1' := below_cell hb3 hq1
  have hg0' := below_frozen hb3 hq0 hg0
  have hg1' := below_frozen hb3 hq1 hg1
  have hfz3 := below_frozen hb3 hz2' hfz'
  have hw3 := below_cell hb3 hw'
  have hfw3 := below_frozen hb3 hw' hfw'
  have hB3 := below_then hB.drew hB.size hb3
  have hS3 : (fun w' => (w'.cell? ⟨z, 0, none⟩ = some (.slice (some ⟨gw, 0, none⟩) nw cw) ∧ w'.cell? ⟨z, 1, none⟩ = some (.slice (some ⟨gl, 0, none⟩) nl cl) ∧ w'.cell? ⟨z, 2, none⟩ = some (.bool f)) ∧ (w'.cell? ⟨W.heap.size, 0, none⟩ = some (.int .i64 3) ∧ w'.cell? ⟨W.heap.size, 1, none⟩ = some (.int .i64 a) ∧ w'.cell? ⟨W.heap.size, 2, none⟩ = some (.int .u64 o) ∧ w'.cell? ⟨W.heap.size, 3, none⟩ = some (.int .u64 n)) ∧ w'.cell? ⟨gl, a, none⟩ = some (.bool true)) w3 := ⟨⟨below_cell hb3 hz0', below_cell hb3 hz1', below_cell hb3 hz2'⟩, ⟨below_cell hb3 hp0, below_cell hb3 hp1, below_cell hb3 hp2, below_cell hb3 hp3⟩, below_cell hb3 hl'⟩
  obtain ⟨⟨hz0'', hz1'', hz2''⟩, ⟨hp0', hp1', hp2', hp3'⟩, _⟩ := hS3
  clear hb3 hq0 hq1 hg0 hg1 hfz' hw' hfw' hz0' hz1' hz2' hp0 hp1 hp2 hp3 hl'
  go_wp2_with fail
  go_quiet ((go_at_call 89; exact Calls.quiet_of_same (HCUT _)))
  replace hB3 := below_drewN hB3 nq
  replace hB3 := hB3.drew
  have hix : ∀ w, (Instr.index 147 (.agg #[.nilFunc, .func (.func 94) #[] #[], .func (.func 95) #[] #[], .func (.func 96) #[] #[]]) (.int .i64 3)).run Try.prog w = .ok (.func (.func 96) #[] #[]) w := fun w => run_deeds 3 _ (by decide) _ rfl w
  go_wp2_with fail
  go_region_held3 (fun w' => w'.cell? ⟨W.heap.size, 0, none⟩ = some (.int .i64 3) ∧ w'.cell? ⟨W.heap.size, 1, none⟩ = some (.int .i64 a) ∧ w'.cell? ⟨W.heap.size, 2, none⟩ = some (.int .u64 o) ∧ w'.cell? ⟨W.heap.size, 3, none⟩ = some (.int .u64 n))
    (first
      | exact ⟨hp0', hp1', hp2', hp3'⟩
      | go_keep
      | (go_split_ands; exact ⟨below_cell hb4 (by assumption), below_cell hb4 (by assumption), below_cell hb4 (by assumption), below_cell hb4 (by assumption)⟩)
      | (go_split_ands; exact ⟨hs5.cell (by assumption) hne1, hs5.cell (by assumption) hne1, hs5.cell (by assumption) hne1, hs5.cell (by assumption) hne1⟩))
    (first
      | (go_at_call 91; refine (deeds_c _).mono ?_; rintro e w4 ⟨rfl, hb4⟩; replace hg0' := below_frozen hb4 hq0' hg0'; replace hg1' := below_frozen hb4 hq1' hg1'; replace hq0' := below_cell hb4 hq0'; replace hq1' := below_cell hb4 hq1'; replace hfw3 := below_frozen hb4 hw3 hfw3; replace hw3 := below_cell hb4 hw3; replace hB3 := below_then hB3 hB3.size hb4)
      | (go_at_call 96; refine (swap_yes 3 a o n gw a _ ?_ ?_).mono ?_; exact hw3; exact hfw3; rintro e w5 ⟨rfl, hs5⟩; replace hg0' := (hs5.frozen (World.block_lt_of_cell? _ _ hq0') hne2).trans hg0'; replace hg1' := (hs5.frozen (World.block_lt_of_cell? _ _ hq1') hne2).trans hg1'; replace hq0' := hs5.cell hq0' hne2; replace hq1' := hs5.cell hq1' hne2; have hSt := Stores.after hB3 hs5))
  have hS : Stores ⟨gw, a, none⟩ (.int .u64 n) W ((w5.setCell ⟨W.heap.size + 1, 0, none⟩ (.int .u64 o)).setCell ⟨W.heap.size + 1, 1, none⟩ (.bool true)) := Below.setCell (p := ⟨W.heap.size + 1, 1, none⟩) (Below.setCell (p := ⟨W.heap.size + 1, 0, none⟩) hSt (Nat.le_succ _) _) (Nat.le_succ _) _
  go_wp2
  exact bodyPost_ret (v := .agg #[.int .u64 o, .bool true]) (by simp [results, Try.results81, go_sem, hq0', hq1']) rfl ⟨rfl, hS⟩

end Go.Proofs.Ytaljpggajpoalaa
/-
  What an access comes to, as the document has it: the words behind it, whether there was a fault, and its answer.
  Conditions: the memory lies in a variable, and its rows may be written.
-/
namespace Go.Proofs.Ytaljpggajpoalaa
open Go.RowKit Go.Shelf

/-- Is the word there, and live? -/
def liveAt (ws : List Int) (ls : List Bool) (a : Int) : Bool := thereB ws.length a 1 && ls.getD a.toNat false
/-- The words behind an access, the fault, and the answer. -/
def accM (ws : List Int) (ls : List Bool) (f : Bool) (k a o n : Int) : List Int × Bool × (Int × Bool) :=
  if liveAt ws ls a = true then
    if k = 1 then (ws, f, (ws.getD a.toNat 0, true))
    else if k = 2 ∨ ws.getD a.toNat 0 = o then (ws.set a.toNat n, f, (ws.getD a.toNat 0, true))
    else (ws, f, (ws.getD a.toNat 0, false))
  else (ws, true, (0, false))
theorem accM_length (ws : List Int) (ls : List Bool) (f : Bool) (k a o n : Int) : (accM ws ls f k a o n).1.length = ws.length := by
  unfold accM
  split
  · split
    · rfl
    · split
      · simp
      · rfl
  · rfl
theorem thereB_iff {n : Nat} {a k : Int} : thereB n a k = true ↔ 1 ≤ k ∧ 0 ≤ a ∧ a ≤ (n : Int) - k := by
  simp [thereB, and_assoc]

/-- What a call leaves that makes an access of the memory that lies in block z. -/
def OnOk (B z gw cw gl cl : Nat) (ls : List Bool) (r : List Int × Bool × (Int × Bool)) (W : World) (e : Ending) (w' : World) : Prop :=
  e = .returned (.agg #[.int .u64 r.2.2.1, .bool r.2.2.2]) ∧ Keeps (fun k => k = z ∨ k = gw) W w' ∧
  (w'.cell? ⟨z, 0, none⟩ = some (.slice (some ⟨gw, 0, none⟩) r.1.length cw) ∧ w'.cell? ⟨z, 1, none⟩ = some (.slice (some ⟨gl, 0, none⟩) ls.length cl) ∧ w'.cell? ⟨z, 2, none⟩ = some (.bool r.2.1)) ∧
  (w'.frozen? ⟨z, 0, none⟩ = W.frozen? ⟨z, 0, none⟩ ∧ w'.frozen? ⟨z, 1, none⟩ = W.frozen? ⟨z, 1, none⟩ ∧ w'.frozen? ⟨z, 2, none⟩ = W.frozen? ⟨z, 2, none⟩) ∧
  w'.ownsRow B 27 1 (.slice (some ⟨gw, 0, none⟩) r.1.length cw) r.1.length (r.1.map (Value.int .u64)) ∧
  w'.ownsRow B 4 1 (.slice (some ⟨gl, 0, none⟩) ls.length cl) ls.length (ls.map Value.bool)

theorem own_cap {X : World} {B : Nat} {E : TypeId} {size : Nat} {p : Option Addr} {n cap : Nat} {xs : List Value} (h : X.ownsRow B E size (.slice p n cap) n xs) : n ≤ cap ∧ cap ≤ 9223372036854775807 := by
  rcases h.2 with ⟨h', h0⟩ | ⟨g, c, cur, h', _, _, h1, h2, _⟩
  · injection h' with _ e1 e2; omega
  · injection h' with _ e1 e2; unfold maxLen at h2; omega

theorem stores_row {p : Addr} {u : Value} {W X : World} (h : Stores p u W X) {B : Nat} {E : TypeId} {size : Nat} {v : Value} {n : Nat} {xs : List Value} (hr : W.ownsRow B E size v n xs) (hne : v.ownBlock ≠ some p.block) : X.ownsRow B E size v n xs :=
  h.keeps.row hr fun g hg e => hne (by rw [hg, e])
theorem stores_in {W X : World} {g a cap n : Nat} {B : Nat} {E : TypeId} {u : Value} {xs : List Value} (h : Stores ⟨g, a, none⟩ u W X) (hr : W.ownsRow B E 1 (.slice (some ⟨g, 0, none⟩) n cap) n xs) : X.ownsRow B E 1 (.slice (some ⟨g, 0, none⟩) n cap) n (xs.set a u) := by
  have h1 := (hr.stored a u).1
  exact owns_below h1 (by unfold Stores at h; simpa [World.setCell] using h)
theorem stores_frozen {p q : Addr} {u : Value} {W X : World} (h : Stores p u W X) (hq : q.block < W.heap.size) : X.frozen? q = W.frozen? q := by
  have h1 := Below.frozen h hq
  rw [h1]
  simp
theorem stores_here {p : Addr} {u v : Value} {W X : World} (h : Stores p u W X) (hc : W.cell? p = some v) : X.cell? p = some u :=
  (Below.cell h (World.block_lt_of_cell? W _ hc)).trans (World.cell?_setCell_same _ _ _ hc)
theorem stores_there {b o o' : Nat} {u v : Value} {W X : World} (h : Stores ⟨b, o, none⟩ u W X) (hne : o' ≠ o) (hc : W.cell? ⟨b, o', none⟩ = some v) : X.cell? ⟨b, o', none⟩ = some v :=
  (Below.cell h (World.block_lt_of_cell? W _ hc)).trans ((World.cell?_setCell_other _ _ _ _ (fun e => hne (congrArg Addr.off e).symm)).trans hc)

set_option maxHeartbeats 2000000 in
theorem on_c (k a o n : Int) (B z gw cw gl cl : Nat) (ws : List Int) (ls : List Bool) (f : Bool) (W : World) (hk1 : 1 ≤ k) (hk3 : k ≤ 3)
    (hz0 : W.cell? ⟨z, 0, none⟩ = some (.slice (some ⟨gw, 0, none⟩) ws.length cw)) (hz1 : W.cell? ⟨z, 1, none⟩ = some (.slice (some ⟨gl, 0, none⟩) ls.length cl)) (hz2 : W.cell? ⟨z, 2, none⟩ = some (.bool f)) (hfz : W.frozen? ⟨z, 2, none⟩ = false)
    (hrw : W.ownsRow B 27 1 (.slice (some ⟨gw, 0, none⟩) ws.length cw) ws.length (ws.map (Value.int .u64))) (hrl : W.ownsRow B 4 1 (.slice (some ⟨gl, 0, none⟩) ls.length cl) ls.length (ls.map Value.bool))
    (hlen : ls.length = ws.length) (hmax : ws.length ≤ 4096) (hzw : z ≠ gw) (hzl : z ≠ gl) (hwl : gw ≠ gl) :
    Calls Try.prog 81 #[.agg #[.int .i64 k, .int .i64 a, .int .u64 o, .int .u64 n], .pointer (some ⟨z, 0, none⟩)] W fun e w' => OnOk B z gw cw gl cl ls (accM ws ls f k a o n) W e w' := by
  have hcap := own_cap hrw
  -- a fault
  have fault : ∀ e w', liveAt ws ls a = false → e = .returned (.agg #[.int .u64 0, .bool false]) ∧ Stores ⟨z, 2, none⟩ (.bool true) W w' → OnOk B z gw cw gl cl ls (accM ws ls f k a o n) W e w' := by
    rintro e w' hl ⟨rfl, hs⟩
    have hz := World.block_lt_of_cell? W _ hz2
    rw [accM, if_neg (by rw [hl]; decide)]
    refine ⟨rfl, hs.keeps.sub fun q _ h => .inl h, ⟨stores_there hs (by omega) hz0, stores_there hs (by omega) hz1, stores_here hs hz2⟩, ⟨stores_frozen hs hz, stores_frozen hs hz, stores_frozen hs hz⟩, stores_row hs hrw ?_, stores_row hs hrl ?_⟩
    · simp [Value.ownBlock]; omega
    · simp [Value.ownBlock]; omega
  by_cases hth : thereB ws.length a 1 = true
  · obtain ⟨_, h0, h1⟩ := thereB_iff.1 hth
    obtain ⟨a, rfl⟩ := Int.eq_ofNat_of_zero_le h0
    have han : a < ws.length := by omega
    have hal : a < ls.length := by omega
    have hw0 : W.cell? ⟨gw, a, none⟩ = some (.int .u64 ws[a]) := by
      rw [hrw.cellAt a (by omega), List.getElem?_eq_getElem (by simpa using han)]; simp
    have hl0 : W.cell? ⟨gl, a, none⟩ = some (.bool ls[a]) := by
      rw [hrl.cellAt a (by omega), List.getElem?_eq_getElem (by simpa using hal)]; simp
    have hfw := hrw.frozenAt a
    have hz := World.block_lt_of_cell? W _ hz2
    have hg : ws.getD a 0 = ws[a] := by simp [List.getD, han]
    cases hb : ls[a] with
    | false =>
      rw [hb] at hl0
      exact (on_free a k o n z gw ws.length cw gl ls.length cl f ws[a] W hz0 hz1 hz2 hfz hw0 hfw han hlen hcap.1 hcap.2 hmax hl0).mono fun e w' h => fault e w' (by simp [liveAt, List.getD, hal, hb]) h
    | true =>
      rw [hb] at hl0
      have hlive : liveAt ws ls a = true := by simp [liveAt, List.getD, hal, hb, hth]
      -- nothing is written
      have still : ∀ (d : Bool) e w', accM ws ls f k a o n = (ws, f, (ws[a], d)) → e = .returned (.agg #[.int .u64 ws[a], .bool d]) ∧ Below W.heap.size W w' → OnOk B z gw cw gl cl ls (accM ws ls f k a o n) W e w' := by
        rintro d e w' he ⟨rfl, hs⟩
        rw [he]
        exact ⟨rfl, Keeps.of_below hs, ⟨below_cell hs hz0, below_cell hs hz1, below_cell hs hz2⟩, ⟨hs.frozen hz, hs.frozen hz, hs.frozen hz⟩, owns_below hrw hs, owns_below hrl hs⟩
      -- the word is written
      have done : ∀ e w', accM ws ls f k a o n = (ws.set a n, f, (ws[a], true)) → e = .returned (.agg #[.int .u64 ws[a], .bool true]) ∧ Stores ⟨gw, a, none⟩ (.int .u64 n) W w' → OnOk B z gw cw gl cl ls (accM ws ls f k a o n) W e w' := by
        rintro e w' he ⟨rfl, hs⟩
        rw [he]
        have hrow := stores_in hs hrw
        rw [← List.map_set] at hrow
        refine ⟨rfl, hs.keeps.sub fun q _ h => .inr h, ⟨?_, hs.cell hz1 hzw, hs.cell hz2 hzw⟩, ⟨hs.frozen hz hzw, hs.frozen hz hzw, hs.frozen hz hzw⟩, ?_, stores_row hs hrl ?_⟩
        · rw [List.length_set]; exact hs.cell hz0 hzw
        · rw [List.length_set]; exact hrow
        · simp [Value.ownBlock]; omega
      obtain rfl | rfl | rfl : k = 1 ∨ k = 2 ∨ k = 3 := by omega
      · refine (on_load a o n z gw ws.length cw gl ls.length cl f ws[a] W hz0 hz1 hz2 hfz hw0 hfw han hlen hcap.1 hcap.2 hmax hl0).mono fun e w' h => still true e w' ?_ h
        rw [accM, if_pos hlive, if_pos rfl, Int.toNat_natCast, hg]
      · refine (on_store a o n z gw ws.length cw gl ls.length cl f ws[a] W hz0 hz1 hz2 hfz hw0 hfw han hlen hcap.1 hcap.2 hmax hl0).mono fun e w' h => done e w' ?_ h
        rw [accM, if_pos hlive, if_neg (by decide), if_pos (.inl rfl), Int.toNat_natCast, hg]
      · by_cases ho : ws[a] = o
        · rw [ho] at hw0
          refine (on_swap_yes a o n z gw ws.length cw gl ls.length cl f W hz0 hz1 hz2 hfz hw0 hfw han hlen hcap.1 hcap.2 hmax hl0).mono fun e w' h => done e w' ?_ (by rw [ho]; exact h)
          rw [accM, if_pos hlive, if_neg (by decide), if_pos (.inr (by rw [Int.toNat_natCast, hg, ho])), Int.toNat_natCast, hg]
        · refine (on_swap_no a o n z gw ws.length cw gl ls.length cl f ws[a] W hz0 hz1 hz2 hfz hw0 hfw han hlen hcap.1 hcap.2 hmax hl0 ho).mono fun e w' h => still false e w' ?_ h
          rw [accM, if_pos hlive, if_neg (by decide), if_neg (by rw [Int.toNat_natCast, hg]; simp [ho]), Int.toNat_natCast, hg]
  · have hth' : thereB ws.length a 1 = false := by simpa using hth
    exact (on_out k a o n z _ ws.length cw _ ls.length cl f W hz0 hz1 hz2 hfz hmax hth').mono fun e w' h => fault e w' (by simp [liveAt, hth']) h

end Go.Proofs.Ytaljpggajpoalaa
/-
  memory.every at a row of accesses, asked whether each is of a kind.
  Conditions: the slice reads as these accesses.
-/
namespace Go.Proofs.Ytaljpggajpoalaa
open Go.RowKit Go.Shelf

/-- An access: its kind, its word, what it expects, and what it stores. -/
structure Acc where
  k : Int
  a : Int
  o : Int
  n : Int
def Acc.val (x : Acc) : Value := .agg #[.int .i64 x.k, .int .i64 x.a, .int .u64 x.o, .int .u64 x.n]
/-- Is it of a kind? -/
def kindB (k : Int) : Bool := decide (1 ≤ k) && decide (k ≤ 3)
theorem kindB_iff {k : Int} : kindB k = true ↔ 1 ≤ k ∧ k ≤ 3 := by simp [kindB]
/-- A slice that reads as these accesses. -/
def AccsAt (W : World) (v : Value) (l : List Acc) : Prop := ∃ p cap, v = .slice p l.length cap ∧
  (l ≠ [] → ∃ b off, p = some ⟨b, off, none⟩ ∧ ∀ i (h : i < l.length), W.cell? ⟨b, off + i * 4, none⟩ = some (.int .i64 l[i].k) ∧ W.cell? ⟨b, off + i * 4 + 1, none⟩ = some (.int .i64 l[i].a) ∧ W.cell? ⟨b, off + i * 4 + 2, none⟩ = some (.int .u64 l[i].o) ∧ W.cell? ⟨b, off + i * 4 + 3, none⟩ = some (.int .u64 l[i].n))
theorem accs_below {W W' : World} {v : Value} {l : List Acc} (h : AccsAt W v l) (hb : Below W.heap.size W W') : AccsAt W' v l := by
  obtain ⟨p, cap, rfl, hc⟩ := h
  refine ⟨p, cap, rfl, fun hne => ?_⟩
  obtain ⟨b, off, rfl, hcs⟩ := hc hne
  exact ⟨b, off, rfl, fun i hi => ⟨below_cell hb (hcs i hi).1, below_cell hb (hcs i hi).2.1, below_cell hb (hcs i hi).2.2.1, below_cell hb (hcs i hi).2.2.2⟩⟩

set_option maxRecDepth 100000 in
theorem is_c (k a o n : Int) (W : World) : Calls Try.prog 79 #[.agg #[.int .i64 k, .int .i64 a, .int .u64 o, .int .u64 n]] W fun e w' => e = .returned (.bool (kindB k)) ∧ Below W.heap.size W w' := by
  by_cases h1 : 1 ≤ k
  · by_cases h2 : k ≤ 3
    · have HR := Lib.hid (show kindB k = true by simp [kindB, h1, h2])
      go_enter Try.func79, Try.ntmps79
      go_wp2
      go_ret
      exact ⟨ret_bool HR.out.symm, (Below.refl _ _).alloc (Nat.le_refl _) _⟩
    · have HR := Lib.hid (show kindB k = false by simp [kindB, h2])
      go_enter Try.func79, Try.ntmps79
      go_wp2
      go_ret
      exact ⟨ret_bool HR.out.symm, (Below.refl _ _).alloc (Nat.le_refl _) _⟩
  · have HR := Lib.hid (show kindB k = false by simp [kindB, h1])
    go_enter Try.func79, Try.ntmps79
    go_wp2
    go_ret
    exact ⟨ret_bool HR.out.symm, (Below.refl _ _).alloc (Nat.le_refl _) _⟩

set_option maxRecDepth 100000 in
theorem runLit_c (i : Int) (k a o n : Int) (W : World) : Calls Try.prog 78 #[.int .i64 i, .agg #[.int .i64 k, .int .i64 a, .int .u64 o, .int .u64 n]] W fun e w' => e = .returned (.bool (kindB k)) ∧ Below W.heap.size W w' := by
  go_enter Try.func78, Try.ntmps78
  go_wp2_with fail
  refine (is_c k a o n _).mono ?_
  rintro e w1 ⟨rfl, hb⟩
  go_wp2
  go_ret
  exact ⟨rfl, below_then ((Below.refl _ _).alloc (Nat.le_refl _) _) (by simp) hb⟩

/-- The first i accesses are of a kind. -/
def KindTo (l : List Acc) (i : Nat) : Prop := (l.take i).all (fun x => kindB x.k) = true
def kindAll (l : List Acc) : Bool := l.all fun x => kindB x.k
theorem kindTo_step {l : List Acc} {i : Nat} (h : KindTo l i) (hi : i < l.length) : (kindB l[i].k = true → KindTo l (i + 1)) ∧ (kindB l[i].k = false → kindAll l = false) := by
  refine ⟨fun e => ?_, fun e => ?_⟩
  · unfold KindTo at h ⊢
    rw [List.take_succ_eq_append_getElem hi, List.all_append, h]
    simp [e]
  · unfold kindAll
    rw [List.all_eq_false]
    exact ⟨l[i], List.getElem_mem hi, by simp [e]⟩
theorem kindTo_end {l : List Acc} (h : KindTo l l.length) : kindAll l = true := by
  unfold KindTo at h
  rwa [List.take_length] at h

set_option maxRecDepth 100000 in
set_option maxHeartbeats 1000000 in
theorem everyA_c (v : Value) (l : List Acc) (W : World) (hv : AccsAt W v l) (hmax : l.length ≤ 4611686018427387904) :
    Calls Try.prog 77 #[v, .func (.func 78) #[] #[]] W
      fun e w' => e = .returned (.bool (kindAll l)) ∧ Below W.heap.size W w' := by
  obtain ⟨p, cap, rfl, hc⟩ := hv
  go_enter Try.func77, Try.ntmps77
  go_wp2
  go_loopw [9] (fun iv wr => ∃ i : Nat, i ≤ l.length ∧ iv = .int .i64 i ∧ KindTo l i ∧ Below W.heap.size W wr) (fun iv _ => l.length - (intOf iv).toNat)
  case atStart => exact ⟨0, Nat.zero_le _, rfl, rfl, Below.refl _ _⟩
  case round =>
    obtain ⟨i, hi, rfl, hm, hB⟩ := hrel
    by_cases hlt : i < l.length
    · have hstep := kindTo_step hm hlt
      obtain ⟨b, off, rfl, hcs⟩ := hc (by intro e; rw [e] at hlt; cases hlt)
      obtain ⟨h0, h1, h2, h3⟩ := hcs i hlt
      obtain ⟨⟨k, a, o, n⟩, hx⟩ : ∃ x, x = l[i] := ⟨_, rfl⟩
      rw [← hx] at h0 h1 h2 h3 hstep
      simp only at h0 h1 h2 h3 hstep
      have h0' := below_cell hB h0
      have h1' := below_cell hB h1
      have h2' := below_cell hB h2
      have h3' := below_cell hB h3
      have HST := Lib.hid hstep
      clear hstep hx hm h0 h1 h2 h3 hcs
      go_wp2_with fail
      refine (runLit_c i k a o n _).mono ?_
      rintro e w1 ⟨rfl, hb1⟩
      have hB1 := below_then (hB.alloc hB.size _) (by have := hB.size; simp; omega) hb1
      clear hb1
      rcases Bool.eq_false_or_eq_true (kindB k) with hb | hb
      · rw [hb]
        go_wp2
        go_roundw
        case rel => exact ⟨i + 1, by omega, by go_num, HST.out.1 hb, hB1⟩
        case measure => simp [intOf]; omega
      · rw [hb]
        go_wp2
        go_ret
        exact ⟨ret_bool (HST.out.2 hb).symm, hB1⟩
    · obtain rfl : i = l.length := by omega
      go_wp2
      go_ret
      exact ⟨ret_bool (kindTo_end hm).symm, hB⟩

end Go.Proofs.Ytaljpggajpoalaa
/-
  slices.Equal at rows that read the same: true; what was in memory stays. And what rows of pairs read.
  Conditions: both slices read as the same list.
-/
namespace Go.Proofs.Ytaljpggajpoalaa
open Go.RowKit Go.Shelf

/-- A slice that reads as these answers of accesses. -/
def GotsAt (W : World) (v : Value) (gs : List (Int × Bool)) : Prop := ∃ p cap, v = .slice p gs.length cap ∧
  (gs ≠ [] → ∃ b off, p = some ⟨b, off, none⟩ ∧ ∀ i (h : i < gs.length), W.cell? ⟨b, off + i * 2, none⟩ = some (.int .u64 gs[i].1) ∧ W.cell? ⟨b, off + i * 2 + 1, none⟩ = some (.bool gs[i].2))
/-- A slice that reads as these pairs. -/
def PairsAt (W : World) (v : Value) (gs : List (Int × Int)) : Prop := ∃ p cap, v = .slice p gs.length cap ∧
  (gs ≠ [] → ∃ b off, p = some ⟨b, off, none⟩ ∧ ∀ i (h : i < gs.length), W.cell? ⟨b, off + i * 2, none⟩ = some (.int .i64 gs[i].1) ∧ W.cell? ⟨b, off + i * 2 + 1, none⟩ = some (.int .i64 gs[i].2))
theorem gots_below {W W' : World} {v : Value} {fs : List (Int × Bool)} (h : GotsAt W v fs) (hb : Below W.heap.size W W') : GotsAt W' v fs := by
  obtain ⟨p, cap, rfl, hc⟩ := h
  refine ⟨p, cap, rfl, fun hne => ?_⟩
  obtain ⟨b, off, rfl, hcs⟩ := hc hne
  exact ⟨b, off, rfl, fun i hi => ⟨below_cell hb (hcs i hi).1, below_cell hb (hcs i hi).2⟩⟩
theorem pairs_below {W W' : World} {v : Value} {fs : List (Int × Int)} (h : PairsAt W v fs) (hb : Below W.heap.size W W') : PairsAt W' v fs := by
  obtain ⟨p, cap, rfl, hc⟩ := h
  refine ⟨p, cap, rfl, fun hne => ?_⟩
  obtain ⟨b, off, rfl, hcs⟩ := hc hne
  exact ⟨b, off, rfl, fun i hi => ⟨below_cell hb (hcs i hi).1, below_cell hb (hcs i hi).2⟩⟩
/-- The answers, and the pairs, as cells. -/
def flatG : List (Int × Bool) → List Value
  | [] => []
  | f :: r => .int .u64 f.1 :: .bool f.2 :: flatG r
def flatP : List (Int × Int) → List Value
  | [] => []
  | f :: r => .int .i64 f.1 :: .int .i64 f.2 :: flatP r
theorem flatG_length (fs : List (Int × Bool)) : (flatG fs).length = fs.length * 2 := by
  induction fs with
  | nil => rfl
  | cons f r ih => simp only [flatG, List.length_cons, ih]; omega
theorem flatP_length (fs : List (Int × Int)) : (flatP fs).length = fs.length * 2 := by
  induction fs with
  | nil => rfl
  | cons f r ih => simp only [flatP, List.length_cons, ih]; omega
theorem flatG_get : ∀ (fs : List (Int × Bool)) (i : Nat) (h : i < fs.length), (flatG fs)[i * 2]? = some (.int .u64 fs[i].1) ∧ (flatG fs)[i * 2 + 1]? = some (.bool fs[i].2)
  | f :: r, 0, _ => ⟨rfl, rfl⟩
  | f :: r, i + 1, h => by
    have := flatG_get r i (by simpa using h)
    rw [show (i + 1) * 2 = i * 2 + 1 + 1 by omega]
    exact this
theorem flatP_get : ∀ (fs : List (Int × Int)) (i : Nat) (h : i < fs.length), (flatP fs)[i * 2]? = some (.int .i64 fs[i].1) ∧ (flatP fs)[i * 2 + 1]? = some (.int .i64 fs[i].2)
  | f :: r, 0, _ => ⟨rfl, rfl⟩
  | f :: r, i + 1, h => by
    have := flatP_get r i (by simpa using h)
    rw [show (i + 1) * 2 = i * 2 + 1 + 1 by omega]
    exact this
theorem gots_of_owns {B : Nat} {E : TypeId} {W : World} {v : Value} {fs : List (Int × Bool)} {n : Nat} (hl : fs.length = n) (h : W.ownsRow B E 2 v n (flatG fs)) : GotsAt W v fs := by
  subst hl
  rcases h.2 with ⟨rfl, h0⟩ | ⟨g, cap, cur, rfl, _⟩
  · obtain rfl : fs = [] := List.eq_nil_of_length_eq_zero h0
    exact ⟨none, 0, rfl, fun h => absurd rfl h⟩
  · refine ⟨_, _, rfl, fun _ => ⟨g, 0, rfl, fun i hi => ?_⟩⟩
    have h1 := h.cellAt (i * 2) (by omega)
    have h2 := h.cellAt (i * 2 + 1) (by omega)
    rw [(flatG_get fs i hi).1] at h1
    rw [(flatG_get fs i hi).2] at h2
    simpa using ⟨h1, h2⟩
theorem pairs_of_owns {B : Nat} {E : TypeId} {W : World} {v : Value} {fs : List (Int × Int)} {n : Nat} (hl : fs.length = n) (h : W.ownsRow B E 2 v n (flatP fs)) : PairsAt W v fs := by
  subst hl
  rcases h.2 with ⟨rfl, h0⟩ | ⟨g, cap, cur, rfl, _⟩
  · obtain rfl : fs = [] := List.eq_nil_of_length_eq_zero h0
    exact ⟨none, 0, rfl, fun h => absurd rfl h⟩
  · refine ⟨_, _, rfl, fun _ => ⟨g, 0, rfl, fun i hi => ?_⟩⟩
    have h1 := h.cellAt (i * 2) (by omega)
    have h2 := h.cellAt (i * 2 + 1) (by omega)
    rw [(flatP_get fs i hi).1] at h1
    rw [(flatP_get fs i hi).2] at h2
    simpa using ⟨h1, h2⟩

theorem part_int {P : Program} {e : TypeId} {k : IntKind} (he : P.underlying e = some (.int k)) (xs : Array Value) (i : Nat) (v : Value) (hv : xs[i]? = some v) (w : World) : (part e xs i).run P w = .ok v w := by
  simp [part, isAgg, run_underlying he, hv]
theorem run_neq_pair {P : Program} {t e : TypeId} (ht : P.underlying t = some (.array 2 e)) (he : P.underlying e = some (.int .i64)) (hsz : ∀ w, (sizeOf e).run P w = .ok 1 w) (a b : Int) (w : World) :
    (binOp .neq t (.agg #[.int .i64 a, .int .i64 b]) (.agg #[.int .i64 a, .int .i64 b])).run P w = .ok (.bool false) w := by
  have p0 : ∀ w, (part e #[.int .i64 a, .int .i64 b] (0 * 1)).run P w = .ok (.int .i64 a) w := part_int he _ _ _ rfl
  have p1 : ∀ w, (part e #[.int .i64 a, .int .i64 b] (1 * 1)).run P w = .ok (.int .i64 b) w := part_int he _ _ _ rfl
  have e0 : ∀ x w, (Op.equalIn 9999 e (.int .i64 x) (.int .i64 x)).run P w = .ok true w := fun x w => by rw [run_equalIn_int w 9998 e .i64 .i64 x x he]; simp
  rw [run_neq_struct, Op.equalIn]
  simp only [Sem.run_bind, run_underlying ht, Result.andThen_ok, hsz, Std.Legacy.Range.forIn_eq_forIn_range', Std.Legacy.Range.size, Nat.sub_zero, Nat.add_sub_cancel, Nat.div_one]
  simp only [show List.range' 0 2 1 = [0, 1] from rfl, List.forIn_cons, List.forIn_nil, Sem.run_bind, p0, p1, Result.andThen_ok, e0, Bool.not_true, Bool.false_eq_true, if_false, Sem.run_pure]

set_option maxHeartbeats 4000000 in
theorem equalW_same (v0 v1 : Value) (fs : List Int) (W : World) (hv0 : NumsAt W .u64 v0 fs) (hv1 : NumsAt W .u64 v1 fs) (hl : fs.length ≤ 9223372036854775807) :
    Calls Try.prog 37 #[v0, v1] W fun e w' => e = .returned (.bool true) ∧ Below W.heap.size W w' := by
  obtain ⟨p0, cap0, rfl, hc0⟩ := hv0
  obtain ⟨p1, cap1, rfl, hc1⟩ := hv1
  go_enter Try.func37, Try.ntmps37
  have hne : ((fs.length : Int) != (fs.length : Int)) = false := by rw [bne_eq_false_iff_eq]
  go_wp2
  go_loopw [13] (fun iv wr => ∃ i : Nat, i ≤ fs.length ∧ iv = .int .i64 i ∧ Below W.heap.size W wr) (fun iv _ => fs.length - (intOf iv).toNat)
  case atStart => exact ⟨0, Nat.zero_le _, rfl, Below.refl _ _⟩
  case round =>
    obtain ⟨i, hi, rfl, hB⟩ := hrel
    by_cases hlt : i < fs.length
    · obtain ⟨b0, off0, rfl, hcs0⟩ := hc0 (by intro e; rw [e] at hlt; cases hlt)
      obtain ⟨b1, off1, rfl, hcs1⟩ := hc1 (by intro e; rw [e] at hlt; cases hlt)
      have hx := hcs0 i hlt
      have hz := hcs1 i hlt
      obtain ⟨a, hak⟩ : ∃ f, f = fs[i] := ⟨_, rfl⟩
      rw [← hak] at hx hz
      have hx' := below_cell hB hx
      have hz' := below_cell hB hz
      clear hx hz hcs0 hcs1 hak hne
      go_wp2
      go_quiet (fail)
      go_wp2
      all_goals
        go_roundw
        case rel => exact ⟨i + 1, by omega, by go_num, below_drewN hB _⟩
        case measure => simp [intOf]; omega
    · go_wp2
      go_ret
      exact ⟨rfl, hB⟩

set_option maxHeartbeats 4000000 in
theorem equalB_same (v0 v1 : Value) (fs : List Bool) (W : World) (hv0 : BoolsAt W v0 fs) (hv1 : BoolsAt W v1 fs) (hl : fs.length ≤ 9223372036854775807) :
    Calls Try.prog 38 #[v0, v1] W fun e w' => e = .returned (.bool true) ∧ Below W.heap.size W w' := by
  obtain ⟨p0, cap0, rfl, hc0⟩ := hv0
  obtain ⟨p1, cap1, rfl, hc1⟩ := hv1
  go_enter Try.func38, Try.ntmps38
  have hne : ((fs.length : Int) != (fs.length : Int)) = false := by rw [bne_eq_false_iff_eq]
  go_wp2
  go_loopw [13] (fun iv wr => ∃ i : Nat, i ≤ fs.length ∧ iv = .int .i64 i ∧ Below W.heap.size W wr) (fun iv _ => fs.length - (intOf iv).toNat)
  case atStart => exact ⟨0, Nat.zero_le _, rfl, Below.refl _ _⟩
  case round =>
    obtain ⟨i, hi, rfl, hB⟩ := hrel
    by_cases hlt : i < fs.length
    · obtain ⟨b0, off0, rfl, hcs0⟩ := hc0 (by intro e; rw [e] at hlt; cases hlt)
      obtain ⟨b1, off1, rfl, hcs1⟩ := hc1 (by intro e; rw [e] at hlt; cases hlt)
      have hx := hcs0 i hlt
      have hz := hcs1 i hlt
      obtain ⟨a, hak⟩ : ∃ f, f = fs[i] := ⟨_, rfl⟩
      rw [← hak] at hx hz
      have hx' := below_cell hB hx
      have hz' := below_cell hB hz
      have haa : (a != a) = false := by cases a <;> rfl
      clear hx hz hcs0 hcs1 hak hne
      go_wp2
      go_quiet (fail)
      go_wp2
      all_goals
        go_roundw
        case rel => exact ⟨i + 1, by omega, by go_num, below_drewN hB _⟩
        case measure => simp [intOf]; omega
    · go_wp2
      go_ret
      exact ⟨rfl, hB⟩

theorem int_info : (Try.prog.info? 3).map (fun i => (i.zero, i.size, i.bytes)) = some (some (.int .i64 0), 1, 8) := by kernel_rfl

end Go.Proofs.Ytaljpggajpoalaa
/-
  memory.Run and memory.Step: what accesses come to, one behind the other; what was in memory stays.
  Conditions: the memory and the accesses read as these lists.
-/
namespace Go.Proofs.Ytaljpggajpoalaa
open Go.RowKit Go.Shelf

/-- The words, the fault and the answers behind accesses, one behind the other. -/
def runS (ls : List Bool) (ws : List Int) (f : Bool) (l : List Acc) : List Int × Bool × List (Int × Bool) :=
  l.foldl (fun s x => let r := accM s.1 ls s.2.1 x.k x.a x.o x.n; (r.1, r.2.1, s.2.2 ++ [r.2.2])) (ws, f, [])
theorem runS_nil (ls : List Bool) (ws : List Int) (f : Bool) : runS ls ws f [] = (ws, f, []) := rfl
theorem runS_snoc (ls : List Bool) (ws : List Int) (f : Bool) (l : List Acc) (x : Acc) :
    runS ls ws f (l ++ [x]) = (let s := runS ls ws f l; let r := accM s.1 ls s.2.1 x.k x.a x.o x.n; (r.1, r.2.1, s.2.2 ++ [r.2.2])) := by simp [runS]
theorem runS_length (ls : List Bool) (ws : List Int) (f : Bool) (l : List Acc) : (runS ls ws f l).1.length = ws.length ∧ (runS ls ws f l).2.2.length = l.length := by
  suffices ∀ (l : List Acc) (s : List Int × Bool × List (Int × Bool)), (l.foldl (fun s x => let r := accM s.1 ls s.2.1 x.k x.a x.o x.n; (r.1, r.2.1, s.2.2 ++ [r.2.2])) s).1.length = s.1.length ∧
      (l.foldl (fun s x => let r := accM s.1 ls s.2.1 x.k x.a x.o x.n; (r.1, r.2.1, s.2.2 ++ [r.2.2])) s).2.2.length = s.2.2.length + l.length by
    have h := this l (ws, f, [])
    simpa [runS] using h
  intro l
  induction l with
  | nil => intro s; exact ⟨rfl, rfl⟩
  | cons x l ih =>
    intro s
    have h := ih (let r := accM s.1 ls s.2.1 x.k x.a x.o x.n; (r.1, r.2.1, s.2.2 ++ [r.2.2]))
    simp only [List.foldl_cons]
    refine ⟨h.1.trans (accM_length ..), h.2.trans ?_⟩
    simp
    omega

/-- Answers that stand, with as many as there is room for. -/
def gotRow (gs : List (Int × Bool)) (n : Nat) : List Value := flatG (gs ++ List.replicate (n - gs.length) (0, false))
theorem flatG_set : ∀ (l : List (Int × Bool)) (i : Nat) (x : Int × Bool), ((flatG l).set (i * 2) (.int .u64 x.1)).set (i * 2 + 1) (.bool x.2) = flatG (l.set i x)
  | [], _, _ => by simp [flatG]
  | f :: r, 0, x => rfl
  | f :: r, i + 1, x => by
    rw [show (i + 1) * 2 = i * 2 + 1 + 1 by omega]
    simp only [flatG, List.set_cons_succ]
    rw [flatG_set r i x]
theorem gotRow_step (gs : List (Int × Bool)) (n : Nat) (x : Int × Bool) (h : gs.length < n) :
    ((gotRow gs n).set (gs.length * 2) (.int .u64 x.1)).set (gs.length * 2 + 1) (.bool x.2) = gotRow (gs ++ [x]) n := by
  unfold gotRow
  rw [flatG_set, List.set_append_right _ _ (Nat.le_refl _), Nat.sub_self, show n - gs.length = (n - (gs ++ [x]).length) + 1 by simp; omega, List.replicate_succ, List.set_cons_zero, List.append_assoc]
  rfl
theorem gotRow_end (gs : List (Int × Bool)) : gotRow gs gs.length = flatG gs := by simp [gotRow]
theorem gotRow_length (gs : List (Int × Bool)) (n : Nat) (h : gs.length ≤ n) : (gotRow gs n).length = n * 2 := by
  unfold gotRow
  rw [flatG_length]
  simp
  omega
theorem flatG_replicate (n : Nat) : flatG (List.replicate n (0, false)) = (madeCells (Value.agg #[.int .u64 0, .bool false]).cells (n * 2)).toList := by
  refine List.ext_getElem (by simp [flatG_length, madeCells]) fun j h1 h2 => ?_
  rw [flatG_length, List.length_replicate] at h1
  have hj : j / 2 < (List.replicate n ((0 : Int), false)).length := by simp; omega
  have hg := flatG_get (List.replicate n (0, false)) (j / 2) hj
  rcases Nat.mod_two_eq_zero_or_one j with e | e
  · have := hg.1
    rw [show j / 2 * 2 = j by omega, List.getElem?_eq_some_iff] at this
    rw [this.2]
    simp [madeCells, Value.cells, e]
  · have := hg.2
    rw [show j / 2 * 2 + 1 = j by omega, List.getElem?_eq_some_iff] at this
    rw [this.2]
    simp [madeCells, Value.cells, e]

theorem got_info : (Try.prog.info? 120).map (fun i => (i.zero, i.size, i.bytes)) = some (some (.agg #[.int .u64 0, .bool false]), 2, 16) := by kernel_rfl
def memZ : Value := .agg #[.slice none 0 0, .slice none 0 0, .bool false]

set_option maxRecDepth 100000 in
set_option maxHeartbeats 2000000 in
theorem run_bad (v v1 : Value) (ws : List Int) (ls : List Bool) (f : Bool) (W : World) (hv : MemAt W v ws ls f) (hw : ws.length ≤ 9223372036854775807) (hr : rightB ws ls = false) (h1 : ∃ p n c, v1 = .slice p n c) :
    Calls Try.prog 62 #[v, v1] W fun e w' => e = .returned (.tuple #[memZ, .slice none 0 0, .int .i64 120]) ∧ Below W.heap.size W w' := by
  have hm := hv
  obtain ⟨vw, vl, rfl, ⟨pw, cw, rfl, hcw⟩, pl, cl, rfl, hcl⟩ := hv
  obtain ⟨p1, n1, c1, rfl⟩ := h1
  have HM := Lib.hid hm
  clear hm hcw hcl
  have HR := Lib.hid (MBox.new (W.alloc (.cells #[.slice pw ws.length cw, .slice pl ls.length cl, .bool f] 44)) (.slice none 0 0) (.slice none 0 0) false)
  rw [World.size_alloc] at HR
  go_enter Try.func62, Try.ntmps62
  go_wp2_with fail
  have hB : Below W.heap.size W ((W.alloc (.cells #[.slice pw ws.length cw, .slice pl ls.length cl, .bool f] 44)).alloc (.cells #[.slice none 0 0, .slice none 0 0, .bool false] 44)) := ((Below.refl _ _).alloc (Nat.le_refl _) _).alloc (by simp) _
  refine (check_c _ ws ls f _ (HM.out.below hB) hw).mono ?_
  rintro e w1 ⟨rfl, hb1⟩
  rw [chkM_no hr]
  obtain ⟨⟨hr0, hr1, hr2⟩, hs0, hs1, hs2⟩ := mbox_cells (HR.out.below hb1)
  have hB1 := below_then hB hB.size hb1
  clear hb1
  go_wp2
  exact bodyPost_ret (v := .tuple #[memZ, .slice none 0 0, .int .i64 120]) (by simp [results, Try.results62, go_sem, hr0, hr1, hr2, memZ]) rfl ⟨rfl, ((hB1.setCell (p := ⟨W.heap.size + 1, 0, none⟩) (Nat.le_succ _) _).setCell (p := ⟨W.heap.size + 1, 1, none⟩) (Nat.le_succ _) _).setCell (p := ⟨W.heap.size + 1, 2, none⟩) (Nat.le_succ _) _⟩

theorem own_form {X : World} {B : Nat} {E : TypeId} {s : Nat} {v : Value} {n : Nat} {xs : List Value} (h : X.ownsRow B E s v n xs) (hn : 0 < n) : ∃ g cap, v = .slice (some ⟨g, 0, none⟩) n cap ∧ B ≤ g ∧ g < X.heap.size := by
  rcases h.2 with ⟨_, h0⟩ | ⟨g, cap, cur, rfl, hb, hc, _⟩
  · omega
  · exact ⟨g, cap, rfl, hb, (Array.getElem?_eq_some_iff.1 hc).1⟩

set_option maxRecDepth 100000 in
set_option maxHeartbeats 2000000 in
theorem run_kind (v v1 : Value) (ws : List Int) (ls : List Bool) (f : Bool) (l : List Acc) (W : World) (hv : MemAt W v ws ls f) (hw : ws.length ≤ 9223372036854775807) (hr : rightB ws ls = true) (hA : AccsAt W v1 l) (hmax : l.length ≤ 4611686018427387904) (hk : kindAll l = false) :
    Calls Try.prog 62 #[v, v1] W fun e w' => e = .returned (.tuple #[memZ, .slice none 0 0, .int .i64 121]) ∧ Below W.heap.size W w' := by
  have hm := hv
  have ha := hA
  obtain ⟨vw, vl, rfl, ⟨pw, cw, rfl, hcw⟩, pl, cl, rfl, hcl⟩ := hv
  obtain ⟨p1, c1, rfl, hc1⟩ := hA
  have HM := Lib.hid hm
  have HA := Lib.hid ha
  clear hm hcw hcl hc1 ha
  have HR := Lib.hid (MBox.new (W.alloc (.cells #[.slice pw ws.length cw, .slice pl ls.length cl, .bool f] 44)) (.slice none 0 0) (.slice none 0 0) false)
  rw [World.size_alloc] at HR
  have hB : Below W.heap.size W ((W.alloc (.cells #[.slice pw ws.length cw, .slice pl ls.length cl, .bool f] 44)).alloc (.cells #[.slice none 0 0, .slice none 0 0, .bool false] 44)) := ((Below.refl _ _).alloc (Nat.le_refl _) _).alloc (by simp) _
  go_enter Try.func62, Try.ntmps62
  go_wp2_with fail
  refine (check_c _ ws ls f _ (HM.out.below hB) hw).mono ?_
  rintro e w1 ⟨rfl, hb1⟩
  rw [chkM_yes hr]
  have HR1 := Lib.hid (HR.out.below hb1)
  have hB1 := below_then hB hB.size hb1
  clear hb1
  go_wp2_with fail
  refine (everyA_c _ l _ (accs_below HA.out hB1) hmax).mono ?_
  rintro e w2 ⟨rfl, hb2⟩
  rw [hk]
  obtain ⟨⟨hr0, hr1, hr2⟩, hs0, hs1, hs2⟩ := mbox_cells (HR1.out.below hb2)
  have hB2 := below_then hB1 hB1.size hb2
  clear hb2
  go_wp2
  exact bodyPost_ret (v := .tuple #[memZ, .slice none 0 0, .int .i64 121]) (by simp [results, Try.results62, go_sem, hr0, hr1, hr2, memZ]) rfl ⟨rfl, ((hB2.setCell (p := ⟨W.heap.size + 1, 0, none⟩) (Nat.le_succ _) _).setCell (p := ⟨W.heap.size + 1, 1, none⟩) (Nat.le_succ _) _).setCell (p := ⟨W.heap.size + 1, 2, none⟩) (Nat.le_succ _) _⟩

/-- What Run hands over. -/
def RunOk (B : Nat) (ls : List Bool) (s : List Int × Bool × List (Int × Bool)) (e : Ending) (w' : World) : Prop :=
  ∃ gw cw gl cl vg, e = .returned (.tuple #[.agg #[.slice (some ⟨gw, 0, none⟩) s.1.length cw, .slice (some ⟨gl, 0, none⟩) ls.length cl, .bool s.2.1], vg, .int .i64 0]) ∧
  w'.ownsRow B 27 1 (.slice (some ⟨gw, 0, none⟩) s.1.length cw) s.1.length (s.1.map (Value.int .u64)) ∧ w'.ownsRow B 4 1 (.slice (some ⟨gl, 0, none⟩) ls.length cl) ls.length (ls.map Value.bool) ∧
  w'.ownsRow B 120 2 vg s.2.2.length (flatG s.2.2)

/-- What holds at the head of Run's loop. -/
structure RunInv (B z gw cw gl cl gg : Nat) (ls : List Bool) (s : List Int × Bool × List (Int × Bool)) (n : Nat) (W w : World) : Prop where
  box : (w.cell? ⟨z, 0, none⟩ = some (.slice (some ⟨gw, 0, none⟩) s.1.length cw) ∧ w.cell? ⟨z, 1, none⟩ = some (.slice (some ⟨gl, 0, none⟩) ls.length cl) ∧ w.cell? ⟨z, 2, none⟩ = some (.bool s.2.1))
  free : w.frozen? ⟨z, 2, none⟩ = false
  words : w.ownsRow B 27 1 (.slice (some ⟨gw, 0, none⟩) s.1.length cw) s.1.length (s.1.map (Value.int .u64))
  lives : w.ownsRow B 4 1 (.slice (some ⟨gl, 0, none⟩) ls.length cl) ls.length (ls.map Value.bool)
  gots : w.ownsRow B 120 2 (.slice (some ⟨gg, 0, none⟩) n n) n (gotRow s.2.2 n)
  res : MBox w (z + 1) (.slice none 0 0) (.slice none 0 0) false
  below : Below W.heap.size W w

set_option maxRecDepth 100000 in
set_option maxHeartbeats 4000000 in
theorem run_yes (v v1 : Value) (ws : List Int) (ls : List Bool) (f : Bool) (l : List Acc) (W : World) (hv : MemAt W v ws ls f) (hr : rightB ws ls = true) (hA : AccsAt W v1 l) (hmax : l.length ≤ 1099511627776) (hk : kindAll l = true) :
    Calls Try.prog 62 #[v, v1] W fun e w' => RunOk W.heap.size ls (runS ls ws f l) e w' ∧ Below W.heap.size W w' := by
  obtain ⟨hn1, hn2, hlen, hmay⟩ := rightB_iff.1 hr
  clear hmay
  have hm := hv
  have ha := hA
  obtain ⟨vw, vl, rfl, ⟨pw, cw, rfl, hcw⟩, pl, cl, rfl, hcl⟩ := hv
  obtain ⟨p1, c1, rfl, hc1⟩ := hA
  obtain ⟨i0, hi, hz0, hz1, hz2⟩ := info_parts got_info
  have HM := Lib.hid hm
  have HA := Lib.hid ha
  have HLEN := Lib.hid hlen
  clear hm hcw hcl ha hlen
  obtain ⟨z, hz⟩ : ∃ z, z = W.heap.size := ⟨_, rfl⟩
  obtain ⟨wo, hwo⟩ : ∃ wo : World, wo = (W.alloc (.cells #[.slice pw ws.length cw, .slice pl ls.length cl, .bool f] 44)).alloc (.cells #[.slice none 0 0, .slice none 0 0, .bool false] 44) := ⟨_, rfl⟩
  have hZ : MBox wo z (.slice pw ws.length cw) (.slice pl ls.length cl) f := by rw [hwo, hz]; exact (MBox.new _ _ _ _).alloc _
  have hR : MBox wo (z + 1) (.slice none 0 0) (.slice none 0 0) false := by
    have := MBox.new (W.alloc (.cells #[.slice pw ws.length cw, .slice pl ls.length cl, .bool f] 44)) (.slice none 0 0) (.slice none 0 0) false
    rw [World.size_alloc] at this
    rw [hwo, hz]; exact this
  have hB : Below W.heap.size W wo := by rw [hwo]; exact ((Below.refl _ _).alloc (Nat.le_refl _) _).alloc (by simp) _
  have hsz : z + 2 ≤ wo.heap.size := by rw [hwo, hz]; simp
  have HZ := Lib.hid hZ
  have HR := Lib.hid hR
  obtain ⟨⟨hd0, hd1, hd2⟩, _⟩ := mbox_cells hZ
  clear hZ hR
  go_enter Try.func62, Try.ntmps62
  go_wp2_with fail
  rw [← hwo, ← hz]
  have HZW := Lib.hid hz
  clear hwo hz
  refine (check_c _ ws ls f _ (HM.out.below hB) (by omega)).mono ?_
  rintro e w1 ⟨rfl, hb1⟩
  rw [chkM_yes hr]
  have HZ1 := Lib.hid (HZ.out.below hb1)
  have HR1 := Lib.hid (HR.out.below hb1)
  have hB1 := below_then hB hB.size hb1
  have hsz1 := Nat.le_trans hsz hb1.size
  clear hb1 HZ HR hB hsz hd0 hd1 hd2
  go_wp2_with fail
  refine (everyA_c _ l _ (accs_below HA.out hB1) (by omega)).mono ?_
  rintro e w2 ⟨rfl, hb2⟩
  rw [hk]
  have HZ2 := Lib.hid (HZ1.out.below hb2)
  have HR2 := Lib.hid (HR1.out.below hb2)
  have hB2 := below_then hB1 hB1.size hb2
  have hsz2 := Nat.le_trans hsz1 hb2.size
  clear hb2 HZ1 HR1 hB1 hsz1
  obtain ⟨⟨hd0, hd1, hd2⟩, _⟩ := mbox_cells HZ2.out
  go_wp2_with fail
  refine (double_c _ ws ls f _ (HM.out.below hB2) (by omega) (by rw [HLEN.out]; omega) (by omega) (by rw [HLEN.out]; omega)).mono ?_
  rintro e w3 ⟨⟨_, rfl, vw2, vl2, rfl, how, hol⟩, hb3⟩
  obtain ⟨gw, cw2, rfl, hgw, hgw3⟩ := own_form how (by omega)
  obtain ⟨gl, cl2, rfl, hgl, hgl3⟩ := own_form hol (by rw [HLEN.out]; omega)
  have HZ3 := Lib.hid (HZ2.out.below hb3)
  have HR3 := Lib.hid (HR2.out.below hb3)
  have hB3 := below_then hB2 hB2.size hb3
  have hsz3 := Nat.le_trans hsz2 hb3.size
  have HOW := Lib.hid how
  have HOL := Lib.hid hol
  clear hb3 HZ2 HR2 hB2 hd0 hd1 hd2 how hol
  obtain ⟨⟨hd0, hd1, hd2⟩, he0, he1, he2⟩ := mbox_cells HZ3.out
  go_upto_region 7 with fail
  obtain ⟨w4, hw4⟩ : ∃ w4 : World, w4 = ((w3.setCell ⟨z, 0, none⟩ (.slice (some ⟨gw, 0, none⟩) ws.length cw2)).setCell ⟨z, 1, none⟩ (.slice (some ⟨gl, 0, none⟩) ls.length cl2)).setCell ⟨z, 2, none⟩ (.bool f) := ⟨_, rfl⟩
  rw [← hw4]
  have hzz : z < W.heap.size + 1 := by rw [HZW.out]; exact Nat.lt_succ_self _
  have hkz : Keeps (· = z) w3 w4 := by
    rw [hw4]
    exact ((Keeps.setCell w3 (S := (· = z)) (p := ⟨z, 0, none⟩) rfl _).trans (Keeps.setCell _ (S := (· = z)) (p := ⟨z, 1, none⟩) rfl _)).trans (Keeps.setCell _ (S := (· = z)) (p := ⟨z, 2, none⟩) rfl _)
  have HZ4 := Lib.hid (show MBox w4 z (.slice (some ⟨gw, 0, none⟩) ws.length cw2) (.slice (some ⟨gl, 0, none⟩) ls.length cl2) f by rw [hw4]; exact HZ3.out.set _ _ _)
  have HR4 := Lib.hid (HR3.out.keeps hkz (by simp))
  have hzg : z < gw := by omega
  have hzgl : z < gl := by omega
  have HOW4 := Lib.hid (hkz.row HOW.out (by intro g hg; simp [Value.ownBlock] at hg; omega))
  have HOL4 := Lib.hid (hkz.row HOL.out (by intro g hg; simp [Value.ownBlock] at hg; omega))
  have hB4 : Below W.heap.size W w4 := hB3.trans (hkz.below hB3.size (fun q hq => by rw [hq]; exact Nat.le_of_eq HZW.out.symm))
  have hsz4 := Nat.le_trans hsz3 hkz.size
  have hsz34 := hkz.size
  clear hw4 hkz hd0 hd1 hd2 he0 he1 he2 HZ3 HR3 HOW HOL hB3 hsz3
  obtain ⟨w5, hrun, hown5, hgrow5⟩ := run_make_full (P := Try.prog) w4 w4.heap.size 114 120 i0 (.agg #[.int .u64 0, .bool false]) 2 Try.underlying114 hi hz0 hz1 .i64 .i64 l.length (by rw [hz2]; omega) (by unfold maxLen; omega) (Nat.le_refl _)
  rw [← flatG_replicate] at hown5
  obtain ⟨gg, hgg⟩ : ∃ g, g = w4.heap.size := ⟨_, rfl⟩
  rw [← hgg] at hrun hown5
  have HOG5 := Lib.hid hown5
  have hk5 : Below w4.heap.size w4 w5 := (Below.refl _ _).grown hgrow5 (Nat.le_refl _) (fun k e => by cases e)
  have HZ5 := Lib.hid (HZ4.out.below hk5)
  have HR5 := Lib.hid (HR4.out.below hk5)
  have HOW5 := Lib.hid (owns_below HOW4.out hk5)
  have HOL5 := Lib.hid (owns_below HOL4.out hk5)
  have hB5 := below_then hB4 hB4.size hk5
  clear hown5 hgrow5 hk5 HZ4 HR4 HOW4 HOL4
  have hgz : z + 1 < gg := by omega
  have hggw : gw < gg := by omega
  have hggl : gl < gg := by omega
  go_wp2_with fail
  rw [← hgg]
  have hzW : W.heap.size ≤ z := Nat.le_of_eq HZW.out.symm
  have hinv0 : RunInv W.heap.size z gw cw2 gl cl2 gg ls (ws, f, []) l.length W w5 :=
    ⟨(mbox_cells HZ5.out).1, (mbox_cells HZ5.out).2.2.2, HOW5.out.mono (by omega), HOL5.out.mono (by omega), by have := HOG5.out.mono (base' := W.heap.size) (by omega); simpa [gotRow] using this, HR5.out, hB5⟩
  clear hrun HZ5 HR5 HOW5 HOL5 HOG5 hB5 hB4 hgg hi hz0 hz1 hz2
  have HAC := Lib.hid hc1
  clear hc1
  go_loopw [28] (fun iv wr => ∃ i : Nat, i ≤ l.length ∧ iv = .int .i64 i ∧ RunInv W.heap.size z gw cw2 gl cl2 gg ls (runS ls ws f (l.take i)) l.length W wr) (fun iv _ => l.length - (intOf iv).toNat)
  case atStart => exact ⟨0, Nat.zero_le _, rfl, hinv0⟩
  case round =>
    obtain ⟨i, hi2, rfl, hinv⟩ := hrel
    by_cases hlt : i < l.length
    · obtain ⟨b, off, rfl, hcs⟩ := HAC.out (by intro e; rw [e] at hlt; cases hlt)
      obtain ⟨h0, h1, h2, h3⟩ := hcs i hlt
      have hsn := runS_snoc ls ws f (l.take i) l[i]
      rw [← List.take_succ_eq_append_getElem hlt] at hsn
      have hsl := runS_length ls ws f (l.take i)
      rw [List.length_take, Nat.min_eq_left hi2] at hsl
      have hkd := kindB_iff.1 (List.all_eq_true.1 hk l[i] (List.getElem_mem hlt))
      obtain ⟨s, hs⟩ : ∃ s, s = runS ls ws f (l.take i) := ⟨_, rfl⟩
      rw [← hs] at hinv hsn hsl
      obtain ⟨⟨k, a, o, n⟩, hx⟩ : ∃ x, x = l[i] := ⟨_, rfl⟩
      rw [← hx] at h0 h1 h2 h3 hsn hkd
      simp only at h0 h1 h2 h3 hsn hkd
      have h0' := below_cell hinv.below h0
      have h1' := below_cell hinv.below h1
      have h2' := below_cell hinv.below h2
      have h3' := below_cell hinv.below h3
      have HSN := Lib.hid hsn
      have HSL := Lib.hid hsl
      clear hsn hsl hs hx h0 h1 h2 h3 hcs
      have hbx := hinv.box
      have hla : wr.heap.size < (wr.alloc (.cells #[.int .i64 k, .int .i64 a, .int .u64 o, .int .u64 n] 118)).heap.size := by simp
      have hBa : Below wr.heap.size wr (wr.alloc (.cells #[.int .i64 k, .int .i64 a, .int .u64 o, .int .u64 n] 118)) := (Below.refl _ _).alloc (Nat.le_refl _) _
      go_wp2_with fail
      refine (on_c k a o n W.heap.size z gw cw2 gl cl2 s.1 ls s.2.1 _ hkd.1 hkd.2 (below_cell hBa hinv.box.1) (below_cell hBa hinv.box.2.1) (below_cell hBa hinv.box.2.2) (below_frozen hBa hinv.box.2.2 hinv.free) (owns_below hinv.words hBa) (owns_below hinv.lives hBa) (by rw [HSL.out.1]; exact HLEN.out) (by rw [HSL.out.1]; exact hn2) (by omega) (by omega) (owns_ne hinv.words hinv.lives (by decide) rfl rfl)).mono ?_
      rintro e w6 ⟨rfl, hkp, hbx6, hfr6, hrw6, hrl6⟩
      obtain ⟨r, hr'⟩ : ∃ r, r = accM s.1 ls s.2.1 k a o n := ⟨_, rfl⟩
      rw [← hr'] at hbx6 hrw6
      have HSN2 := Lib.hid (show runS ls ws f (l.take (i + 1)) = (r.1, r.2.1, s.2.2 ++ [r.2.2]) by rw [HSN.out, hr'])
      rw [← hr']
      clear hr' HSN
      have hkw : Keeps (fun q => q = z ∨ q = gw) wr w6 := (Keeps.alloc _ wr _).trans hkp
      have hgr6 := hkw.row hinv.gots (by intro g hg; simp [Value.ownBlock] at hg; omega)
      have hres6 := hinv.res.keeps hkw (by omega)
      have hfz6 : w6.frozen? ⟨z, 2, none⟩ = false := hfr6.2.2.trans (below_frozen hBa hinv.box.2.2 hinv.free)
      have hB6 : Below W.heap.size W w6 := hinv.below.trans (hkw.below hinv.below.size (by intro q hq; omega))
      have hgl6 : (gotRow s.2.2 l.length).length = l.length * 2 := gotRow_length _ _ (by rw [HSL.out.2]; exact hi2)
      have hg0 := hgr6.cellAt (i * 2) (by omega)
      have hg1 := hgr6.cellAt (i * 2 + 1) (by omega)
      rw [List.getElem?_eq_getElem (by omega)] at hg0 hg1
      have hgf0 := hgr6.frozenAt (i * 2)
      have hgf1 := hgr6.frozenAt (i * 2 + 1)
      obtain ⟨x0, hx0⟩ : ∃ x, x = (gotRow s.2.2 l.length)[i * 2]'(by omega) := ⟨_, rfl⟩
      obtain ⟨x1, hx1⟩ : ∃ x, x = (gotRow s.2.2 l.length)[i * 2 + 1]'(by omega) := ⟨_, rfl⟩
      rw [← hx0] at hg0
      rw [← hx1] at hg1
      obtain ⟨y, d, hyd⟩ : ∃ y d, r.2.2 = (y, d) := ⟨_, _, rfl⟩
      rw [hyd]
      rw [hyd] at HSN2
      have hrow := ((hgr6.stored (i * 2) (.int .u64 y)).1.stored (i * 2 + 1) (.bool d)).1
      rw [show i = s.2.2.length from HSL.out.2.symm, gotRow_step s.2.2 l.length (y, d) (by rw [HSL.out.2]; exact hlt)] at hrow
      rw [show s.2.2.length = i from HSL.out.2] at hrow
      obtain ⟨w7, hw7⟩ : ∃ w7 : World, w7 = (w6.setCell ⟨gg, i * 2, none⟩ (.int .u64 y)).setCell ⟨gg, i * 2 + 1, none⟩ (.bool d) := ⟨_, rfl⟩
      have hk7 : Keeps (· = gg) w6 w7 := by
        rw [hw7]
        exact (Keeps.setCell w6 (S := (· = gg)) (p := ⟨gg, i * 2, none⟩) rfl _).trans (Keeps.setCell _ (S := (· = gg)) (p := ⟨gg, i * 2 + 1, none⟩) rfl _)
      rw [← hw7] at hrow
      have hinv7 : RunInv W.heap.size z gw cw2 gl cl2 gg ls (r.1, r.2.1, s.2.2 ++ [(y, d)]) l.length W w7 :=
        ⟨⟨hk7.cell hbx6.1 (by simp; omega), hk7.cell hbx6.2.1 (by simp; omega), hk7.cell hbx6.2.2 (by simp; omega)⟩, (hk7.frozen (World.block_lt_of_cell? _ _ hbx6.2.2) (by simp; omega)).trans hfz6,
          hk7.row hrw6 (by intro g hg; simp [Value.ownBlock] at hg; omega), hk7.row hrl6 (by intro g hg; simp [Value.ownBlock] at hg; omega), hrow, hres6.keeps hk7 (by omega),
          hB6.trans (hk7.below hB6.size (by intro q hq; omega))⟩
      clear hrow hgr6 hres6 hB6 hk7 hkw hkp hbx6 hfr6 hrw6 hrl6 hx0 hx1 hyd hgl6 hbx hla hBa hinv HSL hfz6
      go_wp2
      rw [← hw7]
      go_roundw
      case rel => exact ⟨i + 1, by omega, by go_num, by rw [HSN2.out]; exact hinv7⟩
      case measure => simp [intOf]; omega
    · obtain rfl : i = l.length := by omega
      rw [List.take_length] at hinv
      obtain ⟨hb0, hb1, hb2⟩ := hinv.box
      obtain ⟨⟨hr0, hr1, hr2⟩, hs0, hs1, hs2⟩ := mbox_cells hinv.res
      have hsl := runS_length ls ws f l
      have hkr : Keeps (· = z + 1) wr (((wr.setCell ⟨z + 1, 0, none⟩ (.slice (some ⟨gw, 0, none⟩) (runS ls ws f l).1.length cw2)).setCell ⟨z + 1, 1, none⟩ (.slice (some ⟨gl, 0, none⟩) ls.length cl2)).setCell ⟨z + 1, 2, none⟩ (.bool (runS ls ws f l).2.1)) :=
        ((Keeps.setCell wr (S := (· = z + 1)) (p := ⟨z + 1, 0, none⟩) rfl _).trans (Keeps.setCell _ (S := (· = z + 1)) (p := ⟨z + 1, 1, none⟩) rfl _)).trans (Keeps.setCell _ (S := (· = z + 1)) (p := ⟨z + 1, 2, none⟩) rfl _)
      have hzwne : gw ≠ z + 1 := by have := hsz2; omega
      have hzlne : gl ≠ z + 1 := by have := hsz2; omega
      have ho1 := hkr.row hinv.words (by intro g hg; simp [Value.ownBlock] at hg; omega)
      have ho2 := hkr.row hinv.lives (by intro g hg; simp [Value.ownBlock] at hg; omega)
      have ho3 := hkr.row hinv.gots (by intro g hg; simp [Value.ownBlock] at hg; omega)
      have hBe := hinv.below.trans (hkr.below hinv.below.size (by intro q hq; omega))
      have hge : gotRow (runS ls ws f l).2.2 l.length = flatG (runS ls ws f l).2.2 := by have := gotRow_end (runS ls ws f l).2.2; rwa [hsl.2] at this
      rw [hge] at ho3
      have HSL := Lib.hid hsl
      clear hsl hge hkr hinv
      go_wp2
      refine bodyPost_ret (v := .tuple #[.agg #[.slice (some ⟨gw, 0, none⟩) (runS ls ws f l).1.length cw2, .slice (some ⟨gl, 0, none⟩) ls.length cl2, .bool (runS ls ws f l).2.1], .slice (some ⟨gg, 0, none⟩) l.length l.length, .int .i64 0]) (by simp [results, Try.results62, go_sem, hr0, hr1, hr2]) rfl ⟨⟨gw, cw2, gl, cl2, _, rfl, ho1, ho2, ?_⟩, hBe⟩
      rw [HSL.out.2]
      exact ho3

end Go.Proofs.Ytaljpggajpoalaa
/-
  own, of the statements of layer 2: the first 48 words of a memory, and truth values, in memory of their own; what was in memory stays.
  Conditions: the memory is one that came in.
-/
namespace Go.Proofs.Ytaljpggajpoalaa
open Go.RowKit Go.Shelf

/-- A slice that came in: nil, or at an address. -/
def ArgR (W : World) (v : Value) (xs : List Value) : Prop := ∃ p n c, v = .slice p n c ∧ n = xs.length ∧ ((p = none ∧ n = 0 ∧ c = 0) ∨ ∃ a : Addr, p = some a ∧ n ≤ c ∧ ∀ j u, xs[j]? = some u → W.cell? (a.add j) = some u)
/-- A slice of new memory, of whatever address. -/
def OwnsSl (B : Nat) (E : TypeId) (n : Nat) (xs : List Value) (e : Ending) (w' : World) : Prop := ∃ p' c', e = .returned (.slice p' n c') ∧ w'.ownsRow B E 1 (.slice p' n c') n xs
theorem OwnsNew.sl {B : Nat} {E : TypeId} {n : Nat} {xs : List Value} {e : Ending} {w' : World} (h : OwnsNew B E 1 n xs e w') : OwnsSl B E n xs e w' := by
  obtain ⟨v', rfl, ho⟩ := h
  rcases ho.2 with ⟨rfl, rfl⟩ | ⟨g, cap, cur, rfl, _⟩
  · exact ⟨_, _, rfl, ho⟩
  · exact ⟨_, _, rfl, ho⟩
theorem vals_take {W W' : World} {p : Option Addr} {n c : Nat} {xs : List Value} (hn : n = xs.length) (h : (p = none ∧ n = 0 ∧ c = 0) ∨ ∃ a : Addr, p = some a ∧ n ≤ c ∧ ∀ j u, xs[j]? = some u → W.cell? (a.add j) = some u) (hb : Below W.heap.size W W') :
    ValsAt W' (.slice p (min n 48) c) 1 (min n 48) (xs.take 48) := by
  refine ⟨by rw [List.length_take, hn]; omega, p, c, rfl, ?_⟩
  rcases h with ⟨rfl, rfl, rfl⟩ | ⟨a, rfl, _, hcs⟩
  · exact .inl ⟨rfl, rfl, rfl⟩
  · refine .inr ⟨a, rfl, fun j u hj => below_cell hb (hcs j u ?_)⟩
    rw [List.getElem?_take] at hj
    split at hj
    · exact hj
    · cases hj

theorem own_gives {X : World} {B : Nat} {v0 v1 : Value} {k0 k1 : Nat} {ws : List Int} {ls : List Bool} {f : Bool} (h0 : ws.length = k0) (h1 : ls.length = k1) (ho0 : X.ownsRow B 27 1 v0 k0 (ws.map (Value.int .u64))) (ho1 : X.ownsRow B 4 1 v1 k1 (ls.map Value.bool)) :
    GivesMem B ws ls f (.returned (.agg #[v0, v1, .bool f])) X := by
  subst h0
  subst h1
  exact ⟨_, rfl, _, _, rfl, ho0, ho1⟩
theorem run_cut16 {T : TypeId} (hT : Try.prog.underlying T = some (.slice (Try.prog.elem T))) (hE : ∀ wx, (sizeOf (Try.prog.elem T)).run Try.prog wx = .ok 1 wx) (p : Option Addr) (n c k : Nat) (h : k ≤ c) (wx : World) :
    (Instr.slice T (.slice p n c) none (some (.int .i64 (k : Int))) none).run Try.prog wx = .ok (.slice p k c) wx := by
  rw [run_slice_h wx T p n c hT .i64 (k : Int) (by omega) (by omega), hE]
  have : Option.map (fun x : Addr => x.add 0) p = p := by cases p <;> simp [Addr.add_zero']
  simp [sliced, Result.andThen, this]

set_option maxRecDepth 100000 in
set_option maxHeartbeats 4000000 in
theorem own_c (v0 v1 : Value) (f : Bool) (ws : List Int) (ls : List Bool) (W : World) (h0 : ArgR W v0 (ws.map (Value.int .u64))) (h1 : ArgR W v1 (ls.map Value.bool)) (hw : ws.length ≤ 9223372036854775807) (hl : ls.length ≤ 9223372036854775807) :
    Calls Try.prog 18 #[.agg #[v0, v1, .bool f]] W fun e w' => GivesMem W.heap.size (ws.take 48) (ls.take 48) f e w' ∧ Below W.heap.size W w' := by
  obtain ⟨p0, n0, c0, rfl, hn0, hp0⟩ := h0
  obtain ⟨p1, n1, c1, rfl, hn1, hp1⟩ := h1
  have HCW : ∀ W' : World, Below W.heap.size W W' → Calls Try.prog 11 #[.slice p0 (min n0 48) c0] W' fun e w' => OwnsSl W'.heap.size 27 (min n0 48) ((ws.take 48).map (Value.int .u64)) e w' ∧ Below W'.heap.size W' w' := fun W' hb => by
    have := cloneW _ _ _ W' (vals_take hn0 hp0 hb) (fun u hu => by obtain ⟨x, _, rfl⟩ := List.mem_map.1 (List.mem_of_mem_take hu); rfl) (by omega)
    rw [← List.map_take] at this
    exact this.mono fun _ _ h => ⟨h.1.sl, h.2⟩
  have HCB : ∀ W' : World, Below W.heap.size W W' → Calls Try.prog 31 #[.slice p1 (min n1 48) c1] W' fun e w' => OwnsSl W'.heap.size 4 (min n1 48) ((ls.take 48).map Value.bool) e w' ∧ Below W'.heap.size W' w' := fun W' hb => by
    have := cloneB _ _ _ W' (vals_take hn1 hp1 hb) (fun u hu => by obtain ⟨x, _, rfl⟩ := List.mem_map.1 (List.mem_of_mem_take hu); rfl) (by omega)
    rw [← List.map_take] at this
    exact this.mono fun _ _ h => ⟨h.1.sl, h.2⟩
  rw [List.length_map] at hn0 hn1
  have HL0 := Lib.hid (show (ws.take 48).length = min n0 48 by rw [List.length_take, hn0]; omega)
  have HL1 := Lib.hid (show (ls.take 48).length = min n1 48 by rw [List.length_take, hn1]; omega)
  have hnc0 : n0 ≤ c0 := by rcases hp0 with ⟨_, b, c⟩ | ⟨_, _, b, _⟩ <;> omega
  have hnc1 : n1 ≤ c1 := by rcases hp1 with ⟨_, b, c⟩ | ⟨_, _, b, _⟩ <;> omega
  obtain ⟨k0, hk0⟩ : ∃ k, k = min n0 48 := ⟨_, rfl⟩
  obtain ⟨k1, hk1⟩ : ∃ k, k = min n1 48 := ⟨_, rfl⟩
  rw [← hk0] at HCW HL0
  rw [← hk1] at HCB HL1
  have hs0 : ∀ wx, (Instr.slice 24 (.slice p0 n0 c0) none (some (.int .i64 (k0 : Int))) none).run Try.prog wx = .ok (.slice p0 k0 c0) wx := run_cut16 Try.underlying24 (fun wx => by go_simp) p0 n0 c0 k0 (by omega)
  have hs1 : ∀ wx, (Instr.slice 42 (.slice p1 n1 c1) none (some (.int .i64 (k1 : Int))) none).run Try.prog wx = .ok (.slice p1 k1 c1) wx := run_cut16 Try.underlying42 (fun wx => by go_simp) p1 n1 c1 k1 (by omega)
  have hm0 : ∀ wx, (Builtin.min_ #[3, 3] 3 #[.int .i64 (n0 : Int), .int .i64 48]).run Try.prog wx = .ok (.int .i64 (k0 : Int)) wx := fun wx => by
    have : (if (48 : Int) < (n0 : Int) then (48 : Int) else n0) = (k0 : Int) := by rw [hk0]; split <;> omega
    simp [Builtin.min_, Builtin.min2, this]
  have hm1 : ∀ wx, (Builtin.min_ #[3, 3] 3 #[.int .i64 (n1 : Int), .int .i64 48]).run Try.prog wx = .ok (.int .i64 (k1 : Int)) wx := fun wx => by
    have : (if (48 : Int) < (n1 : Int) then (48 : Int) else n1) = (k1 : Int) := by rw [hk1]; split <;> omega
    simp [Builtin.min_, Builtin.min2, this]
  have hw0 : n0 ≤ 9223372036854775807 := by omega
  have hw1 : n1 ≤ 9223372036854775807 := by omega
  clear hp0 hp1 hk0 hk1 hw hl hn0 hn1 hnc0 hnc1
  obtain ⟨wo, hwo⟩ : ∃ wo : World, wo = (W.alloc (.cells #[.slice p0 n0 c0, .slice p1 n1 c1, .bool f] 44)).alloc (.cells #[.slice none 0 0, .slice none 0 0, .bool false] 44) := ⟨_, rfl⟩
  have hW2 : Below W.heap.size W wo := by rw [hwo]; exact ((Below.refl _ _).alloc (Nat.le_refl _) _).alloc (by simp) _
  have hd0 : wo.cell? ⟨W.heap.size, 0, none⟩ = some (.slice p0 n0 c0) := by rw [hwo]; simp
  have hd1 : wo.cell? ⟨W.heap.size, 1, none⟩ = some (.slice p1 n1 c1) := by rw [hwo]; simp
  have hd2 : wo.cell? ⟨W.heap.size, 2, none⟩ = some (.bool f) := by rw [hwo]; simp
  have he0 : wo.cell? ⟨W.heap.size + 1, 0, none⟩ = some (.slice none 0 0) := by rw [hwo]; simp
  have he1 : wo.cell? ⟨W.heap.size + 1, 1, none⟩ = some (.slice none 0 0) := by rw [hwo]; simp
  have he2 : wo.cell? ⟨W.heap.size + 1, 2, none⟩ = some (.bool false) := by rw [hwo]; simp
  have hf0 : wo.frozen? ⟨W.heap.size + 1, 0, none⟩ = false := by rw [hwo]; simp
  have hf1 : wo.frozen? ⟨W.heap.size + 1, 1, none⟩ = false := by rw [hwo]; simp
  have hf2 : wo.frozen? ⟨W.heap.size + 1, 2, none⟩ = false := by rw [hwo]; simp
  have hsz : W.heap.size + 1 < wo.heap.size := by rw [hwo]; simp
  go_enter Try.func18, Try.ntmps18
  go_wp2_with fail
  rw [← hwo]
  clear hwo
  replace hW2 := hW2.drew
  go_region_held3 (fun w' => w'.cell? ⟨W.heap.size, 0, none⟩ = some (.slice p0 n0 c0) ∧ w'.cell? ⟨W.heap.size, 1, none⟩ = some (.slice p1 n1 c1) ∧ w'.cell? ⟨W.heap.size, 2, none⟩ = some (.bool f))
    (first
      | exact ⟨hd0, hd1, hd2⟩
      | go_keep
      | (go_split_ands; exact ⟨below_cell hb3 (by assumption), below_cell hb3 (by assumption), below_cell hb3 (by assumption)⟩))
    (first
      | (go_at_call 11; refine (HCW _ ?_).mono ?_; exact hW2; rintro e w3 ⟨⟨g3, c3, rfl, hown3⟩, hb3⟩; replace hf0 := below_frozen hb3 he0 hf0; replace hf1 := below_frozen hb3 he1 hf1; replace hf2 := below_frozen hb3 he2 hf2; replace he0 := below_cell hb3 he0; replace he1 := below_cell hb3 he1; replace he2 := below_cell hb3 he2; replace hW2 := below_then hW2 hW2.size hb3)
      | (go_at_call 31; refine (HCB _ ?_).mono ?_; exact hW2; rintro e w3 ⟨⟨g3, c3, rfl, hown3⟩, hb3⟩; replace hf0 := below_frozen hb3 he0 hf0; replace hf1 := below_frozen hb3 he1 hf1; replace hf2 := below_frozen hb3 he2 hf2; replace he0 := below_cell hb3 he0; replace he1 := below_cell hb3 he1; replace he2 := below_cell hb3 he2; replace hW2 := below_then hW2 hW2.size hb3))
  all_goals
    rename_i wx hbx gx cx hownx _
    have hsx : W.heap.size + 1 < wx.heap.size := Nat.lt_of_lt_of_le hsz hbx.size
    first
    | (have ho1 := (ownsRow_setCell_below (ownsRow_setCell_below (ownsRow_setCell_below (owns_below hownx hb3) (a := ⟨W.heap.size + 1, 0, none⟩) hsz (.slice gx k0 cx)) (a := ⟨W.heap.size + 1, 1, none⟩) hsz (.slice g3 k1 c3)) (a := ⟨W.heap.size + 1, 2, none⟩) hsz (.bool f)).mono (base' := W.heap.size) (by have := hsz; have := hsx; simp; omega)
       have ho2 := (ownsRow_setCell_below (ownsRow_setCell_below (ownsRow_setCell_below hown3 (a := ⟨W.heap.size + 1, 0, none⟩) hsx (.slice gx k0 cx)) (a := ⟨W.heap.size + 1, 1, none⟩) hsx (.slice g3 k1 c3)) (a := ⟨W.heap.size + 1, 2, none⟩) hsx (.bool f)).mono (base' := W.heap.size) (by have := hsz; have := hsx; simp; omega)
       have hB := ((hW2.setCell (p := ⟨W.heap.size + 1, 0, none⟩) (Nat.le_succ _) (.slice gx k0 cx)).setCell (p := ⟨W.heap.size + 1, 1, none⟩) (Nat.le_succ _) (.slice g3 k1 c3)).setCell (p := ⟨W.heap.size + 1, 2, none⟩) (Nat.le_succ _) (.bool f)
       have hG := own_gives (f := f) HL0.out HL1.out ho1 ho2
       clear hownx hown3 ho1 ho2 hs0 hs1 hm0 hm1 HCW HCB
       go_wp2
       exact bodyPost_ret (v := .agg #[.slice gx k0 cx, .slice g3 k1 c3, .bool f]) (by simp [results, Try.results18, go_sem, he0, he1, he2]) rfl ⟨hG, hB⟩)
    | (have ho1 := (ownsRow_setCell_below (ownsRow_setCell_below (ownsRow_setCell_below hown3 (a := ⟨W.heap.size + 1, 0, none⟩) hsx (.slice g3 k0 c3)) (a := ⟨W.heap.size + 1, 1, none⟩) hsx (.slice gx k1 cx)) (a := ⟨W.heap.size + 1, 2, none⟩) hsx (.bool f)).mono (base' := W.heap.size) (by have := hsz; have := hsx; simp; omega)
       have ho2 := (ownsRow_setCell_below (ownsRow_setCell_below (ownsRow_setCell_below (owns_below hownx hb3) (a := ⟨W.heap.size + 1, 0, none⟩) hsz (.slice g3 k0 c3)) (a := ⟨W.heap.size + 1, 1, none⟩) hsz (.slice gx k1 cx)) (a := ⟨W.heap.size + 1, 2, none⟩) hsz (.bool f)).mono (base' := W.heap.size) (by have := hsz; have := hsx; simp; omega)
       have hB := ((hW2.setCell (p := ⟨W.heap.size + 1, 0, none⟩) (Nat.le_succ _) (.slice g3 k0 c3)).setCell (p := ⟨W.heap.size + 1, 1, none⟩) (Nat.le_succ _) (.slice gx k1 cx)).setCell (p := ⟨W.heap.size + 1, 2, none⟩) (Nat.le_succ _) (.bool f)
       have hG := own_gives (f := f) HL0.out HL1.out ho1 ho2
       clear hownx hown3 ho1 ho2 hs0 hs1 hm0 hm1 HCW HCB
       go_wp2
       exact bodyPost_ret (v := .agg #[.slice g3 k0 c3, .slice gx k1 cx, .bool f]) (by simp [results, Try.results18, go_sem, he0, he1, he2]) rfl ⟨hG, hB⟩)

end Go.Proofs.Ytaljpggajpoalaa
namespace Go.Proofs.Ytaljpggajpoalaa
open Go.ChangeShapes Go.WideShapes Go.ChangeAt Go.RowKit Go.Deep Go.Joins

theorem words_argr {H : Type} {enc : TypeId × Value → H} {P : Program} {W : World} {t e : TypeId} {n : Nat} {v : Value} {y : DataW H × List MemPlace} (ht : P.underlying t = some (.slice e)) (he : P.underlying e = some (.int .u64)) (hc : P.cellsOf e = 1)
    (hf : DataW.trod enc P W 0 (fun _ => true) true n t [v] = some y) :
    ∃ ns : List Int, ArgR W v (ns.map (Value.int .u64)) ∧ WRange ns ∧ ns.length ≤ 9223372036854775807 := by
  rcases open_ints ht he hc hf with ⟨hcs, _⟩ | ⟨a, len', cap', zs, hcs, _, hl, hm, hz, _, hcell, hwz⟩
  · simp only [List.cons.injEq, and_true] at hcs
    subst hcs
    exact ⟨[], ⟨_, _, _, rfl, rfl, .inl ⟨rfl, rfl, rfl⟩⟩, (fun x hx => by cases hx), by decide⟩
  · simp only [List.cons.injEq, and_true] at hcs
    subst hcs
    simp only [if_true] at hz
    have hlen : (zs.take len').length = len' := List.length_take_of_le (by omega)
    refine ⟨zs.take len', ⟨_, _, _, rfl, by rw [List.length_map, hlen], .inr ⟨a, rfl, hl, fun j u hj => ?_⟩⟩, fun x hx => by simpa [Lit.wf, IntKind.min, IntKind.max, IntKind.signed, IntKind.bits] using hwz x (List.mem_of_mem_take hx), by rw [hlen]; unfold maxLen at hm; omega⟩
    obtain ⟨hj1, rfl⟩ := List.getElem?_eq_some_iff.1 hj
    have hj2 : j < len' := by
      have := hj1
      rw [List.length_map, hlen] at this
      exact this
    have h1 := hcell j (by omega)
    rw [List.getD_eq_getElem?_getD, List.getElem?_eq_getElem (by omega)] at h1
    simpa using h1
theorem bools_argr {H : Type} {enc : TypeId × Value → H} {P : Program} {W : World} {t e : TypeId} {n : Nat} {v : Value} {y : DataW H × List MemPlace} (ht : P.underlying t = some (.slice e)) (he : P.underlying e = some .bool) (hc : P.cellsOf e = 1)
    (hf : DataW.trod enc P W 0 (fun _ => true) true n t [v] = some y) :
    ∃ ls : List Bool, ArgR W v (ls.map Value.bool) ∧ ls.length ≤ 9223372036854775807 := by
  rcases open_bools ht he hc hf with ⟨hcs, _⟩ | ⟨a, len', cap', B, hcs, _, hl, hm, _, hcell⟩
  · simp only [List.cons.injEq, and_true] at hcs
    subst hcs
    exact ⟨[], ⟨_, _, _, rfl, rfl, .inl ⟨rfl, rfl, rfl⟩⟩, by decide⟩
  · simp only [List.cons.injEq, and_true] at hcs
    subst hcs
    refine ⟨(List.range len').map B, ⟨_, _, _, rfl, by simp, .inr ⟨a, rfl, hl, fun j u hj => ?_⟩⟩, by simp; unfold maxLen at hm; omega⟩
    obtain ⟨hj1, rfl⟩ := List.getElem?_eq_some_iff.1 hj
    have hj2 : j < len' := by simpa using hj1
    rw [hcell j (by omega)]
    simp

set_option maxRecDepth 100000 in
theorem mem_open {H : Type} {enc : TypeId × Value → H} {W : World} {base : Nat} {v : Value} {d : DataW H} {ps : List MemPlace}
    (hval : Value.okWide Try.prog W .any base 44 v) (h : DataW.Trod enc Try.prog W 0 (fun _ => true) true 44 v d ps) :
    ∃ (v0 v1 : Value) (f : Bool) (ws : List Int) (ls : List Bool), v = .agg #[v0, v1, .bool f] ∧ ArgR W v0 (ws.map (Value.int .u64)) ∧ ArgR W v1 (ls.map Value.bool) ∧ WRange ws ∧ ws.length ≤ 9223372036854775807 ∧ ls.length ≤ 9223372036854775807 := by
  obtain ⟨v0, v1, v2, y0, y1, y2, n, rfl, _, _, h0, h1, h2⟩ := open_agg3 Try.underlying44 (by kernel_rfl) (by kernel_rfl) hval h
  obtain ⟨ws, hw, hr, hl⟩ := words_argr (t := 24) Try.underlying24 Try.underlying27 (by kernel_rfl) h0
  obtain ⟨ls, hb, hl2⟩ := bools_argr (t := 42) Try.underlying42 Try.underlying4 (by kernel_rfl) h1
  obtain ⟨f, hf, _⟩ := DataW.trod_bool (t := 4) Try.underlying4 h2
  simp only [List.cons.injEq, and_true] at hf
  subst hf
  exact ⟨v0, v1, f, ws, ls, rfl, hw, hb, hr, hl, hl2⟩

/-- A number that fits in a word with a sign. -/
def I64 (x : Int) : Prop := -9223372036854775808 ≤ x ∧ x ≤ 9223372036854775807
def U64 (x : Int) : Prop := 0 ≤ x ∧ x ≤ 18446744073709551615
set_option maxRecDepth 100000 in
theorem acc_open {H : Type} {enc : TypeId × Value → H} {W : World} {base : Nat} {v : Value} {d : DataW H} {ps : List MemPlace}
    (hval : Value.okWide Try.prog W .any base 118 v) (h : DataW.Trod enc Try.prog W 0 (fun _ => true) true 118 v d ps) :
    ∃ k a o n, v = .agg #[.int .i64 k, .int .i64 a, .int .u64 o, .int .u64 n] ∧ I64 k ∧ I64 a ∧ U64 o ∧ U64 n := by
  obtain ⟨v0, v1, v2, v3, y0, y1, y2, y3, n, rfl, _, _, h0, h1, h2, h3⟩ := open_agg4 Try.underlying118 (by kernel_rfl) (by kernel_rfl) hval h
  obtain ⟨k, hk, _, wk⟩ := DataW.trod_int (t := 3) Try.underlying3 h0
  obtain ⟨a, ha, _, wa⟩ := DataW.trod_int (t := 3) Try.underlying3 h1
  obtain ⟨o, ho, _, wo⟩ := DataW.trod_int (t := 27) Try.underlying27 h2
  obtain ⟨n, hn, _, wn⟩ := DataW.trod_int (t := 27) Try.underlying27 h3
  simp only [List.cons.injEq, and_true] at hk ha ho hn
  subst hk ha ho hn
  exact ⟨k, a, o, n, rfl, by simpa [I64, Lit.wf, IntKind.min, IntKind.max, IntKind.signed, IntKind.bits] using wk, by simpa [I64, Lit.wf, IntKind.min, IntKind.max, IntKind.signed, IntKind.bits] using wa, by simpa [U64, Lit.wf, IntKind.min, IntKind.max, IntKind.signed, IntKind.bits] using wo, by simpa [U64, Lit.wf, IntKind.min, IntKind.max, IntKind.signed, IntKind.bits] using wn⟩
end Go.Proofs.Ytaljpggajpoalaa
