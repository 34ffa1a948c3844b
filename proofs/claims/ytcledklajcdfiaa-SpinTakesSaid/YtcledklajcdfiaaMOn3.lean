/-
  What an access of a word comes to, that is there: stored, or swapped.
  Conditions: the word is there, and may be written.
-/
import Derived.Test.YtcledklajcdfiaaMOn2
namespace Go.Proofs.Ytcledklajcdfiaa
open Go.RowKit Go.Shelf

set_option maxRecDepth 100000 in
set_option maxHeartbeats 4000000 in
theorem on_store (a : Nat) (o n : Int) (z gw nw cw gl nl cl : Nat) (f : Bool) (held : Int) (W : World) (hz0 : W.cell? ⟨z, 0, none⟩ = some (.slice (some ⟨gw, 0, none⟩) nw cw)) (hz1 : W.cell? ⟨z, 1, none⟩ = some (.slice (some ⟨gl, 0, none⟩) nl cl)) (hz2 : W.cell? ⟨z, 2, none⟩ = some (.bool f)) (hfz : W.frozen? ⟨z, 2, none⟩ = false)
    (hw : W.cell? ⟨gw, a, none⟩ = some (.int .u64 held)) (hfw : W.frozen? ⟨gw, a, none⟩ = false) (han : a < nw) (hnl : nl = nw) (hnc : nw ≤ cw) (hcm : cw ≤ 9223372036854775807) (hn : nw ≤ 4096)
    (hl : W.cell? ⟨gl, a, none⟩ = some (.bool true)) :
    Calls Try.prog 64 #[.agg #[.int .i64 2, .int .i64 a, .int .u64 o, .int .u64 n], .pointer (some ⟨z, 0, none⟩)] W fun e w' => e = .returned (.agg #[.int .u64 held, .bool true]) ∧ Stores ⟨gw, a, none⟩ (.int .u64 n) W w' := by
  obtain ⟨wo, hwo⟩ : ∃ wo : World, wo = (W.alloc (.cells #[.int .i64 2, .int .i64 a, .int .u64 o, .int .u64 n] 106)).alloc (.cells #[.int .u64 0, .bool false] 36) := ⟨_, rfl⟩
  have hB : Below W.heap.size W wo := by rw [hwo]; exact ((Below.refl _ _).alloc (Nat.le_refl _) _).alloc (by simp) _
  have hsz : W.heap.size + 1 < wo.heap.size := by rw [hwo]; simp
  have hp0 : wo.cell? ⟨W.heap.size, 0, none⟩ = some (.int .i64 2) := by rw [hwo]; simp
  have hp1 : wo.cell? ⟨W.heap.size, 1, none⟩ = some (.int .i64 a) := by rw [hwo]; simp
  have hp2 : wo.cell? ⟨W.heap.size, 2, none⟩ = some (.int .u64 o) := by rw [hwo]; simp
  have hp3 : wo.cell? ⟨W.heap.size, 3, none⟩ = some (.int .u64 n) := by rw [hwo]; simp
  have hq0 : wo.cell? ⟨W.heap.size + 1, 0, none⟩ = some (.int .u64 0) := by rw [hwo]; simp
  have hq1 : wo.cell? ⟨W.heap.size + 1, 1, none⟩ = some (.bool false) := by rw [hwo]; simp
  have hg0 : wo.frozen? ⟨W.heap.size + 1, 0, none⟩ = false := by rw [hwo]; simp
  have hg1 : wo.frozen? ⟨W.heap.size + 1, 1, none⟩ = false := by rw [hwo]; simp
  have hzlt := World.block_lt_of_cell? W _ hz0
  have hfz' := below_frozen hB hz2 hfz
  have hz0' := below_cell hB hz0
  have hz1' := below_cell hB hz1
  have hz2' := below_cell hB hz2
  have hl' := below_cell hB hl
  have hw' := below_cell hB hw
  have hfw' := below_frozen hB hw hfw
  have hgw := World.block_lt_of_cell? W _ hw
  simp only at hgw hzlt
  have hne1 : W.heap.size ≠ gw := by omega
  have hne2 : W.heap.size + 1 ≠ gw := by omega
  have hai : (a : Int) < nl := by omega
  have hai0 : (0 : Int) ≤ a := by omega
  clear hz0 hz1 hz2 hfz hl hw hfw
  have HTH : ∀ W' : World, Calls Try.prog 69 #[.agg #[.slice (some ⟨gw, 0, none⟩) nw cw, .slice (some ⟨gl, 0, none⟩) nl cl, .bool f], .int .i64 a, .int .i64 1] W' fun e w' => e = .returned (.bool true) ∧ Below W'.heap.size W' w' := fun W' => by
    have := there_c (some ⟨gw, 0, none⟩) nw cw (.slice (some ⟨gl, 0, none⟩) nl cl) f a 1 (by decide) (by omega) W'
    rwa [show thereB nw a 1 = true by simp [thereB]; omega] at this
  have HCUT : ∀ W' : World, Calls Try.prog 86 #[.slice (some ⟨gw, 0, none⟩) nw cw, .int .i64 a, .int .i64 1] W' fun e w' => e = .returned (.slice (some ⟨gw, a, none⟩) 1 1) ∧ w' = W' := fun W' => by
    simpa using cutW_c gw 0 nw cw a 1 (by omega) (by omega) hcm W'
  clear han hnl hnc hcm
  go_enter Try.func64, Try.ntmps64
  go_wp2_with fail
  rw [← hwo]
  clear hwo
  go_region_held3 (fun w' => (w'.cell? ⟨z, 0, none⟩ = some (.slice (some ⟨gw, 0, none⟩) nw cw) ∧ w'.cell? ⟨z, 1, none⟩ = some (.slice (some ⟨gl, 0, none⟩) nl cl) ∧ w'.cell? ⟨z, 2, none⟩ = some (.bool f)) ∧ (w'.cell? ⟨W.heap.size, 0, none⟩ = some (.int .i64 2) ∧ w'.cell? ⟨W.heap.size, 1, none⟩ = some (.int .i64 a) ∧ w'.cell? ⟨W.heap.size, 2, none⟩ = some (.int .u64 o) ∧ w'.cell? ⟨W.heap.size, 3, none⟩ = some (.int .u64 n)) ∧ w'.cell? ⟨gl, a, none⟩ = some (.bool true))
    (first
      | exact ⟨⟨hz0', hz1', hz2'⟩, ⟨hp0, hp1, hp2, hp3⟩, hl'⟩
      | go_keep
      | (go_split_ands; exact ⟨⟨below_cell hb3 (by assumption), below_cell hb3 (by assumption), below_cell hb3 (by assumption)⟩, ⟨below_cell hb3 (by assumption), below_cell hb3 (by assumption), below_cell hb3 (by assumption), below_cell hb3 (by assumption)⟩, below_cell hb3 (by assumption)⟩))
    (first
      | (go_at_call 69; refine (HTH _).mono ?_; rintro e w3 ⟨rfl, hb3⟩))
  have hq0' := below_cell hb3 hq0
  have hq1' := below_cell hb3 hq1
  have hg0' := below_frozen hb3 hq0 hg0
  have hg1' := below_frozen hb3 hq1 hg1
  have hfz3 := below_frozen hb3 hz2' hfz'
  have hw3 := below_cell hb3 hw'
  have hfw3 := below_frozen hb3 hw' hfw'
  have hB3 := below_then hB.drew hB.size hb3
  have hS3 : (fun w' => (w'.cell? ⟨z, 0, none⟩ = some (.slice (some ⟨gw, 0, none⟩) nw cw) ∧ w'.cell? ⟨z, 1, none⟩ = some (.slice (some ⟨gl, 0, none⟩) nl cl) ∧ w'.cell? ⟨z, 2, none⟩ = some (.bool f)) ∧ (w'.cell? ⟨W.heap.size, 0, none⟩ = some (.int .i64 2) ∧ w'.cell? ⟨W.heap.size, 1, none⟩ = some (.int .i64 a) ∧ w'.cell? ⟨W.heap.size, 2, none⟩ = some (.int .u64 o) ∧ w'.cell? ⟨W.heap.size, 3, none⟩ = some (.int .u64 n)) ∧ w'.cell? ⟨gl, a, none⟩ = some (.bool true)) w3 := ⟨⟨below_cell hb3 hz0', below_cell hb3 hz1', below_cell hb3 hz2'⟩, ⟨below_cell hb3 hp0, below_cell hb3 hp1, below_cell hb3 hp2, below_cell hb3 hp3⟩, below_cell hb3 hl'⟩
  obtain ⟨⟨hz0'', hz1'', hz2''⟩, ⟨hp0', hp1', hp2', hp3'⟩, _⟩ := hS3
  clear hb3 hq0 hq1 hg0 hg1 hfz' hw' hfw' hz0' hz1' hz2' hp0 hp1 hp2 hp3 hl'
  go_wp2_with fail
  go_quiet ((go_at_call 86; exact Calls.quiet_of_same (HCUT _)))
  replace hB3 := below_drewN hB3 nq
  replace hB3 := hB3.drew
  have hix : ∀ w, (Instr.index 135 (.agg #[.nilFunc, .func (.func 98) #[] #[], .func (.func 99) #[] #[], .func (.func 100) #[] #[]]) (.int .i64 2)).run Try.prog w = .ok (.func (.func 99) #[] #[]) w := fun w => run_deeds 2 _ (by decide) _ rfl w
  go_wp2_with fail
  go_region_held3 (fun w' => w'.cell? ⟨W.heap.size, 0, none⟩ = some (.int .i64 2) ∧ w'.cell? ⟨W.heap.size, 1, none⟩ = some (.int .i64 a) ∧ w'.cell? ⟨W.heap.size, 2, none⟩ = some (.int .u64 o) ∧ w'.cell? ⟨W.heap.size, 3, none⟩ = some (.int .u64 n))
    (first
      | exact ⟨hp0', hp1', hp2', hp3'⟩
      | go_keep
      | (go_split_ands; exact ⟨below_cell hb4 (by assumption), below_cell hb4 (by assumption), below_cell hb4 (by assumption), below_cell hb4 (by assumption)⟩)
      | (go_split_ands; exact ⟨hs5.cell (by assumption) hne1, hs5.cell (by assumption) hne1, hs5.cell (by assumption) hne1, hs5.cell (by assumption) hne1⟩))
    (first
      | (go_at_call 87; refine (deeds_c _).mono ?_; rintro e w4 ⟨rfl, hb4⟩; replace hg0' := below_frozen hb4 hq0' hg0'; replace hg1' := below_frozen hb4 hq1' hg1'; replace hq0' := below_cell hb4 hq0'; replace hq1' := below_cell hb4 hq1'; replace hfw3 := below_frozen hb4 hw3 hfw3; replace hw3 := below_cell hb4 hw3; replace hB3 := below_then hB3 hB3.size hb4)
      | (go_at_call 99; refine (store_c 2 a o n gw a (.int .u64 held) _ ?_ ?_).mono ?_; exact hw3; exact hfw3; rintro e w5 ⟨rfl, hs5⟩; replace hg0' := (hs5.frozen (World.block_lt_of_cell? _ _ hq0') hne2).trans hg0'; replace hg1' := (hs5.frozen (World.block_lt_of_cell? _ _ hq1') hne2).trans hg1'; replace hq0' := hs5.cell hq0' hne2; replace hq1' := hs5.cell hq1' hne2; have hSt := Stores.after hB3 hs5))
  have hS : Stores ⟨gw, a, none⟩ (.int .u64 n) W ((w5.setCell ⟨W.heap.size + 1, 0, none⟩ (.int .u64 held)).setCell ⟨W.heap.size + 1, 1, none⟩ (.bool true)) := Below.setCell (p := ⟨W.heap.size + 1, 1, none⟩) (Below.setCell (p := ⟨W.heap.size + 1, 0, none⟩) hSt (Nat.le_succ _) _) (Nat.le_succ _) _
  go_wp2
  exact bodyPost_ret (v := .agg #[.int .u64 held, .bool true]) (by simp [results, Try.results64, go_sem, hq0', hq1']) rfl ⟨rfl, hS⟩

set_option maxRecDepth 100000 in
set_option maxHeartbeats 4000000 in
theorem on_swap_no (a : Nat) (o n : Int) (z gw nw cw gl nl cl : Nat) (f : Bool) (held : Int) (W : World) (hz0 : W.cell? ⟨z, 0, none⟩ = some (.slice (some ⟨gw, 0, none⟩) nw cw)) (hz1 : W.cell? ⟨z, 1, none⟩ = some (.slice (some ⟨gl, 0, none⟩) nl cl)) (hz2 : W.cell? ⟨z, 2, none⟩ = some (.bool f)) (hfz : W.frozen? ⟨z, 2, none⟩ = false)
    (hw : W.cell? ⟨gw, a, none⟩ = some (.int .u64 held)) (hfw : W.frozen? ⟨gw, a, none⟩ = false) (han : a < nw) (hnl : nl = nw) (hnc : nw ≤ cw) (hcm : cw ≤ 9223372036854775807) (hn : nw ≤ 4096)
    (hl : W.cell? ⟨gl, a, none⟩ = some (.bool true)) (hheld : held ≠ o) :
    Calls Try.prog 64 #[.agg #[.int .i64 3, .int .i64 a, .int .u64 o, .int .u64 n], .pointer (some ⟨z, 0, none⟩)] W fun e w' => e = .returned (.agg #[.int .u64 held, .bool false]) ∧ Below W.heap.size W w' := by
  obtain ⟨wo, hwo⟩ : ∃ wo : World, wo = (W.alloc (.cells #[.int .i64 3, .int .i64 a, .int .u64 o, .int .u64 n] 106)).alloc (.cells #[.int .u64 0, .bool false] 36) := ⟨_, rfl⟩
  have hB : Below W.heap.size W wo := by rw [hwo]; exact ((Below.refl _ _).alloc (Nat.le_refl _) _).alloc (by simp) _
  have hsz : W.heap.size + 1 < wo.heap.size := by rw [hwo]; simp
  have hp0 : wo.cell? ⟨W.heap.size, 0, none⟩ = some (.int .i64 3) := by rw [hwo]; simp
  have hp1 : wo.cell? ⟨W.heap.size, 1, none⟩ = some (.int .i64 a) := by rw [hwo]; simp
  have hp2 : wo.cell? ⟨W.heap.size, 2, none⟩ = some (.int .u64 o) := by rw [hwo]; simp
  have hp3 : wo.cell? ⟨W.heap.size, 3, none⟩ = some (.int .u64 n) := by rw [hwo]; simp
  have hq0 : wo.cell? ⟨W.heap.size + 1, 0, none⟩ = some (.int .u64 0) := by rw [hwo]; simp
  have hq1 : wo.cell? ⟨W.heap.size + 1, 1, none⟩ = some (.bool false) := by rw [hwo]; simp
  have hg0 : wo.frozen? ⟨W.heap.size + 1, 0, none⟩ = false := by rw [hwo]; simp
  have hg1 : wo.frozen? ⟨W.heap.size + 1, 1, none⟩ = false := by rw [hwo]; simp
  have hzlt := World.block_lt_of_cell? W _ hz0
  have hfz' := below_frozen hB hz2 hfz
  have hz0' := below_cell hB hz0
  have hz1' := below_cell hB hz1
  have hz2' := below_cell hB hz2
  have hl' := below_cell hB hl
  have hw' := below_cell hB hw
  have hfw' := below_frozen hB hw hfw
  have hgw := World.block_lt_of_cell? W _ hw
  simp only at hgw hzlt
  have hne1 : W.heap.size ≠ gw := by omega
  have hne2 : W.heap.size + 1 ≠ gw := by omega
  have hai : (a : Int) < nl := by omega
  have hai0 : (0 : Int) ≤ a := by omega
  clear hz0 hz1 hz2 hfz hl hw hfw
  have HTH : ∀ W' : World, Calls Try.prog 69 #[.agg #[.slice (some ⟨gw, 0, none⟩) nw cw, .slice (some ⟨gl, 0, none⟩) nl cl, .bool f], .int .i64 a, .int .i64 1] W' fun e w' => e = .returned (.bool true) ∧ Below W'.heap.size W' w' := fun W' => by
    have := there_c (some ⟨gw, 0, none⟩) nw cw (.slice (some ⟨gl, 0, none⟩) nl cl) f a 1 (by decide) (by omega) W'
    rwa [show thereB nw a 1 = true by simp [thereB]; omega] at this
  have HCUT : ∀ W' : World, Calls Try.prog 86 #[.slice (some ⟨gw, 0, none⟩) nw cw, .int .i64 a, .int .i64 1] W' fun e w' => e = .returned (.slice (some ⟨gw, a, none⟩) 1 1) ∧ w' = W' := fun W' => by
    simpa using cutW_c gw 0 nw cw a 1 (by omega) (by omega) hcm W'
  have HNE := Lib.hid hheld
  clear han hnl hnc hcm hheld
  go_enter Try.func64, Try.ntmps64
  go_wp2_with fail
  rw [← hwo]
  clear hwo
  go_region_held3 (fun w' => (w'.cell? ⟨z, 0, none⟩ = some (.slice (some ⟨gw, 0, none⟩) nw cw) ∧ w'.cell? ⟨z, 1, none⟩ = some (.slice (some ⟨gl, 0, none⟩) nl cl) ∧ w'.cell? ⟨z, 2, none⟩ = some (.bool f)) ∧ (w'.cell? ⟨W.heap.size, 0, none⟩ = some (.int .i64 3) ∧ w'.cell? ⟨W.heap.size, 1, none⟩ = some (.int .i64 a) ∧ w'.cell? ⟨W.heap.size, 2, none⟩ = some (.int .u64 o) ∧ w'.cell? ⟨W.heap.size, 3, none⟩ = some (.int .u64 n)) ∧ w'.cell? ⟨gl, a, none⟩ = some (.bool true))
    (first
      | exact ⟨⟨hz0', hz1', hz2'⟩, ⟨hp0, hp1, hp2, hp3⟩, hl'⟩
      | go_keep
      | (go_split_ands; exact ⟨⟨below_cell hb3 (by assumption), below_cell hb3 (by assumption), below_cell hb3 (by assumption)⟩, ⟨below_cell hb3 (by assumption), below_cell hb3 (by assumption), below_cell hb3 (by assumption), below_cell hb3 (by assumption)⟩, below_cell hb3 (by assumption)⟩))
    (first
      | (go_at_call 69; refine (HTH _).mono ?_; rintro e w3 ⟨rfl, hb3⟩))
  have hq0' := below_cell hb3 hq0
  have hq1' := below_cell hb3 hq1
  have hg0' := below_frozen hb3 hq0 hg0
  have hg1' := below_frozen hb3 hq1 hg1
  have hfz3 := below_frozen hb3 hz2' hfz'
  have hw3 := below_cell hb3 hw'
  have hfw3 := below_frozen hb3 hw' hfw'
  have hB3 := below_then hB.drew hB.size hb3
  have hS3 : (fun w' => (w'.cell? ⟨z, 0, none⟩ = some (.slice (some ⟨gw, 0, none⟩) nw cw) ∧ w'.cell? ⟨z, 1, none⟩ = some (.slice (some ⟨gl, 0, none⟩) nl cl) ∧ w'.cell? ⟨z, 2, none⟩ = some (.bool f)) ∧ (w'.cell? ⟨W.heap.size, 0, none⟩ = some (.int .i64 3) ∧ w'.cell? ⟨W.heap.size, 1, none⟩ = some (.int .i64 a) ∧ w'.cell? ⟨W.heap.size, 2, none⟩ = some (.int .u64 o) ∧ w'.cell? ⟨W.heap.size, 3, none⟩ = some (.int .u64 n)) ∧ w'.cell? ⟨gl, a, none⟩ = some (.bool true)) w3 := ⟨⟨below_cell hb3 hz0', below_cell hb3 hz1', below_cell hb3 hz2'⟩, ⟨below_cell hb3 hp0, below_cell hb3 hp1, below_cell hb3 hp2, below_cell hb3 hp3⟩, below_cell hb3 hl'⟩
  obtain ⟨⟨hz0'', hz1'', hz2''⟩, ⟨hp0', hp1', hp2', hp3'⟩, _⟩ := hS3
  clear hb3 hq0 hq1 hg0 hg1 hfz' hw' hfw' hz0' hz1' hz2' hp0 hp1 hp2 hp3 hl'
  go_wp2_with fail
  go_quiet ((go_at_call 86; exact Calls.quiet_of_same (HCUT _)))
  replace hB3 := below_drewN hB3 nq
  replace hB3 := hB3.drew
  have hix : ∀ w, (Instr.index 135 (.agg #[.nilFunc, .func (.func 98) #[] #[], .func (.func 99) #[] #[], .func (.func 100) #[] #[]]) (.int .i64 3)).run Try.prog w = .ok (.func (.func 100) #[] #[]) w := fun w => run_deeds 3 _ (by decide) _ rfl w
  go_wp2_with fail
  go_region_held3 (fun w' => w'.cell? ⟨W.heap.size, 0, none⟩ = some (.int .i64 3) ∧ w'.cell? ⟨W.heap.size, 1, none⟩ = some (.int .i64 a) ∧ w'.cell? ⟨W.heap.size, 2, none⟩ = some (.int .u64 o) ∧ w'.cell? ⟨W.heap.size, 3, none⟩ = some (.int .u64 n))
    (first
      | exact ⟨hp0', hp1', hp2', hp3'⟩
      | go_keep
      | (go_split_ands; exact ⟨below_cell hb4 (by assumption), below_cell hb4 (by assumption), below_cell hb4 (by assumption), below_cell hb4 (by assumption)⟩)
      | (go_split_ands; exact ⟨below_cell hb5 (by assumption), below_cell hb5 (by assumption), below_cell hb5 (by assumption), below_cell hb5 (by assumption)⟩))
    (first
      | (go_at_call 87; refine (deeds_c _).mono ?_; rintro e w4 ⟨rfl, hb4⟩; replace hg0' := below_frozen hb4 hq0' hg0'; replace hg1' := below_frozen hb4 hq1' hg1'; replace hq0' := below_cell hb4 hq0'; replace hq1' := below_cell hb4 hq1'; replace hfw3 := below_frozen hb4 hw3 hfw3; replace hw3 := below_cell hb4 hw3; replace hB3 := below_then hB3 hB3.size hb4)
      | (go_at_call 100; refine (swap_no 3 a o n held gw a _ ?_ HNE.out).mono ?_; exact hw3; rintro e w5 ⟨rfl, hb5⟩; replace hg0' := below_frozen hb5 hq0' hg0'; replace hg1' := below_frozen hb5 hq1' hg1'; replace hq0' := below_cell hb5 hq0'; replace hq1' := below_cell hb5 hq1'; replace hB3 := below_then hB3 hB3.size hb5))
  have hS := (hB3.setCell (p := ⟨W.heap.size + 1, 0, none⟩) (Nat.le_succ _) (.int .u64 held)).setCell (p := ⟨W.heap.size + 1, 1, none⟩) (Nat.le_succ _) (.bool false)
  go_wp2
  exact bodyPost_ret (v := .agg #[.int .u64 held, .bool false]) (by simp [results, Try.results64, go_sem, hq0', hq1']) rfl ⟨rfl, hS⟩

set_option maxRecDepth 100000 in
set_option maxHeartbeats 4000000 in
theorem on_swap_yes (a : Nat) (o n : Int) (z gw nw cw gl nl cl : Nat) (f : Bool) (W : World) (hz0 : W.cell? ⟨z, 0, none⟩ = some (.slice (some ⟨gw, 0, none⟩) nw cw)) (hz1 : W.cell? ⟨z, 1, none⟩ = some (.slice (some ⟨gl, 0, none⟩) nl cl)) (hz2 : W.cell? ⟨z, 2, none⟩ = some (.bool f)) (hfz : W.frozen? ⟨z, 2, none⟩ = false)
    (hw : W.cell? ⟨gw, a, none⟩ = some (.int .u64 o)) (hfw : W.frozen? ⟨gw, a, none⟩ = false) (han : a < nw) (hnl : nl = nw) (hnc : nw ≤ cw) (hcm : cw ≤ 9223372036854775807) (hn : nw ≤ 4096)
    (hl : W.cell? ⟨gl, a, none⟩ = some (.bool true)) :
    Calls Try.prog 64 #[.agg #[.int .i64 3, .int .i64 a, .int .u64 o, .int .u64 n], .pointer (some ⟨z, 0, none⟩)] W fun e w' => e = .returned (.agg #[.int .u64 o, .bool true]) ∧ Stores ⟨gw, a, none⟩ (.int .u64 n) W w' := by
  obtain ⟨wo, hwo⟩ : ∃ wo : World, wo = (W.alloc (.cells #[.int .i64 3, .int .i64 a, .int .u64 o, .int .u64 n] 106)).alloc (.cells #[.int .u64 0, .bool false] 36) := ⟨_, rfl⟩
  have hB : Below W.heap.size W wo := by rw [hwo]; exact ((Below.refl _ _).alloc (Nat.le_refl _) _).alloc (by simp) _
  have hsz : W.heap.size + 1 < wo.heap.size := by rw [hwo]; simp
  have hp0 : wo.cell? ⟨W.heap.size, 0, none⟩ = some (.int .i64 3) := by rw [hwo]; simp
  have hp1 : wo.cell? ⟨W.heap.size, 1, none⟩ = some (.int .i64 a) := by rw [hwo]; simp
  have hp2 : wo.cell? ⟨W.heap.size, 2, none⟩ = some (.int .u64 o) := by rw [hwo]; simp
  have hp3 : wo.cell? ⟨W.heap.size, 3, none⟩ = some (.int .u64 n) := by rw [hwo]; simp
  have hq0 : wo.cell? ⟨W.heap.size + 1, 0, none⟩ = some (.int .u64 0) := by rw [hwo]; simp
  have hq1 : wo.cell? ⟨W.heap.size + 1, 1, none⟩ = some (.bool false) := by rw [hwo]; simp
  have hg0 : wo.frozen? ⟨W.heap.size + 1, 0, none⟩ = false := by rw [hwo]; simp
  have hg1 : wo.frozen? ⟨W.heap.size + 1, 1, none⟩ = false := by rw [hwo]; simp
  have hzlt := World.block_lt_of_cell? W _ hz0
  have hfz' := below_frozen hB hz2 hfz
  have hz0' := below_cell hB hz0
  have hz1' := below_cell hB hz1
  have hz2' := below_cell hB hz2
  have hl' := below_cell hB hl
  have hw' := below_cell hB hw
  have hfw' := below_frozen hB hw hfw
  have hgw := World.block_lt_of_cell? W _ hw
  simp only at hgw hzlt
  have hne1 : W.heap.size ≠ gw := by omega
  have hne2 : W.heap.size + 1 ≠ gw := by omega
  have hai : (a : Int) < nl := by omega
  have hai0 : (0 : Int) ≤ a := by omega
  clear hz0 hz1 hz2 hfz hl hw hfw
  have HTH : ∀ W' : World, Calls Try.prog 69 #[.agg #[.slice (some ⟨gw, 0, none⟩) nw cw, .slice (some ⟨gl, 0, none⟩) nl cl, .bool f], .int .i64 a, .int .i64 1] W' fun e w' => e = .returned (.bool true) ∧ Below W'.heap.size W' w' := fun W' => by
    have := there_c (some ⟨gw, 0, none⟩) nw cw (.slice (some ⟨gl, 0, none⟩) nl cl) f a 1 (by decide) (by omega) W'
    rwa [show thereB nw a 1 = true by simp [thereB]; omega] at this
  have HCUT : ∀ W' : World, Calls Try.prog 86 #[.slice (some ⟨gw, 0, none⟩) nw cw, .int .i64 a, .int .i64 1] W' fun e w' => e = .returned (.slice (some ⟨gw, a, none⟩) 1 1) ∧ w' = W' := fun W' => by
    simpa using cutW_c gw 0 nw cw a 1 (by omega) (by omega) hcm W'
  clear han hnl hnc hcm
  go_enter Try.func64, Try.ntmps64
  go_wp2_with fail
  rw [← hwo]
  clear hwo
  go_region_held3 (fun w' => (w'.cell? ⟨z, 0, none⟩ = some (.slice (some ⟨gw, 0, none⟩) nw cw) ∧ w'.cell? ⟨z, 1, none⟩ = some (.slice (some ⟨gl, 0, none⟩) nl cl) ∧ w'.cell? ⟨z, 2, none⟩ = some (.bool f)) ∧ (w'.cell? ⟨W.heap.size, 0, none⟩ = some (.int .i64 3) ∧ w'.cell? ⟨W.heap.size, 1, none⟩ = some (.int .i64 a) ∧ w'.cell? ⟨W.heap.size, 2, none⟩ = some (.int .u64 o) ∧ w'.cell? ⟨W.heap.size, 3, none⟩ = some (.int .u64 n)) ∧ w'.cell? ⟨gl, a, none⟩ = some (.bool true))
    (first
      | exact ⟨⟨hz0', hz1', hz2'⟩, ⟨hp0, hp1, hp2, hp3⟩, hl'⟩
      | go_keep
      | (go_split_ands; exact ⟨⟨below_cell hb3 (by assumption), below_cell hb3 (by assumption), below_cell hb3 (by assumption)⟩, ⟨below_cell hb3 (by assumption), below_cell hb3 (by assumption), below_cell hb3 (by assumption), below_cell hb3 (by assumption)⟩, below_cell hb3 (by assumption)⟩))
    (first
      | (go_at_call 69; refine (HTH _).mono ?_; rintro e w3 ⟨rfl, hb3⟩))
  have hq0' := below_cell hb3 hq0
  have hq1' := below_cell hb3 hq1
  have hg0' := below_frozen hb3 hq0 hg0
  have hg1' := below_frozen hb3 hq1 hg1
  have hfz3 := below_frozen hb3 hz2' hfz'
  have hw3 := below_cell hb3 hw'
  have hfw3 := below_frozen hb3 hw' hfw'
  have hB3 := below_then hB.drew hB.size hb3
  have hS3 : (fun w' => (w'.cell? ⟨z, 0, none⟩ = some (.slice (some ⟨gw, 0, none⟩) nw cw) ∧ w'.cell? ⟨z, 1, none⟩ = some (.slice (some ⟨gl, 0, none⟩) nl cl) ∧ w'.cell? ⟨z, 2, none⟩ = some (.bool f)) ∧ (w'.cell? ⟨W.heap.size, 0, none⟩ = some (.int .i64 3) ∧ w'.cell? ⟨W.heap.size, 1, none⟩ = some (.int .i64 a) ∧ w'.cell? ⟨W.heap.size, 2, none⟩ = some (.int .u64 o) ∧ w'.cell? ⟨W.heap.size, 3, none⟩ = some (.int .u64 n)) ∧ w'.cell? ⟨gl, a, none⟩ = some (.bool true)) w3 := ⟨⟨below_cell hb3 hz0', below_cell hb3 hz1', below_cell hb3 hz2'⟩, ⟨below_cell hb3 hp0, below_cell hb3 hp1, below_cell hb3 hp2, below_cell hb3 hp3⟩, below_cell hb3 hl'⟩
  obtain ⟨⟨hz0'', hz1'', hz2''⟩, ⟨hp0', hp1', hp2', hp3'⟩, _⟩ := hS3
  clear hb3 hq0 hq1 hg0 hg1 hfz' hw' hfw' hz0' hz1' hz2' hp0 hp1 hp2 hp3 hl'
  go_wp2_with fail
  go_quiet ((go_at_call 86; exact Calls.quiet_of_same (HCUT _)))
  replace hB3 := below_drewN hB3 nq
  replace hB3 := hB3.drew
  have hix : ∀ w, (Instr.index 135 (.agg #[.nilFunc, .func (.func 98) #[] #[], .func (.func 99) #[] #[], .func (.func 100) #[] #[]]) (.int .i64 3)).run Try.prog w = .ok (.func (.func 100) #[] #[]) w := fun w => run_deeds 3 _ (by decide) _ rfl w
  go_wp2_with fail
  go_region_held3 (fun w' => w'.cell? ⟨W.heap.size, 0, none⟩ = some (.int .i64 3) ∧ w'.cell? ⟨W.heap.size, 1, none⟩ = some (.int .i64 a) ∧ w'.cell? ⟨W.heap.size, 2, none⟩ = some (.int .u64 o) ∧ w'.cell? ⟨W.heap.size, 3, none⟩ = some (.int .u64 n))
    (first
      | exact ⟨hp0', hp1', hp2', hp3'⟩
      | go_keep
      | (go_split_ands; exact ⟨below_cell hb4 (by assumption), below_cell hb4 (by assumption), below_cell hb4 (by assumption), below_cell hb4 (by assumption)⟩)
      | (go_split_ands; exact ⟨hs5.cell (by assumption) hne1, hs5.cell (by assumption) hne1, hs5.cell (by assumption) hne1, hs5.cell (by assumption) hne1⟩))
    (first
      | (go_at_call 87; refine (deeds_c _).mono ?_; rintro e w4 ⟨rfl, hb4⟩; replace hg0' := below_frozen hb4 hq0' hg0'; replace hg1' := below_frozen hb4 hq1' hg1'; replace hq0' := below_cell hb4 hq0'; replace hq1' := below_cell hb4 hq1'; replace hfw3 := below_frozen hb4 hw3 hfw3; replace hw3 := below_cell hb4 hw3; replace hB3 := below_then hB3 hB3.size hb4)
      | (go_at_call 100; refine (swap_yes 3 a o n gw a _ ?_ ?_).mono ?_; exact hw3; exact hfw3; rintro e w5 ⟨rfl, hs5⟩; replace hg0' := (hs5.frozen (World.block_lt_of_cell? _ _ hq0') hne2).trans hg0'; replace hg1' := (hs5.frozen (World.block_lt_of_cell? _ _ hq1') hne2).trans hg1'; replace hq0' := hs5.cell hq0' hne2; replace hq1' := hs5.cell hq1' hne2; have hSt := Stores.after hB3 hs5))
  have hS : Stores ⟨gw, a, none⟩ (.int .u64 n) W ((w5.setCell ⟨W.heap.size + 1, 0, none⟩ (.int .u64 o)).setCell ⟨W.heap.size + 1, 1, none⟩ (.bool true)) := Below.setCell (p := ⟨W.heap.size + 1, 1, none⟩) (Below.setCell (p := ⟨W.heap.size + 1, 0, none⟩) hSt (Nat.le_succ _) _) (Nat.le_succ _) _
  go_wp2
  exact bodyPost_ret (v := .agg #[.int .u64 o, .bool true]) (by simp [results, Try.results64, go_sem, hq0', hq1']) rfl ⟨rfl, hS⟩

end Go.Proofs.Ytcledklajcdfiaa
