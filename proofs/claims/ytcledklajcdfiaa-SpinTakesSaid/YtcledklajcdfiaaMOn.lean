/-
  What a swap does, and what an access comes to.
  Conditions: the word is there, and may be written.
-/
import Derived.Test.YtcledklajcdfiaaMAcc
import Derived.Deep.RegionWith
import Derived.Deep.RegionHeld
namespace Go.Proofs.Ytcledklajcdfiaa
open Go.RowKit Go.Shelf

set_option maxRecDepth 100000 in
set_option maxHeartbeats 2000000 in
theorem swap_no (k a o n held : Int) (b off : Nat) (W : World) (hc : W.cell? ⟨b, off, none⟩ = some (.int .u64 held)) (hne : held ≠ o) :
    Calls Try.prog 100 #[.agg #[.int .i64 k, .int .i64 a, .int .u64 o, .int .u64 n], .slice (some ⟨b, off, none⟩) 1 1] W fun e w' => e = .returned (.bool false) ∧ Below W.heap.size W w' := by
  have hc1 : (W.alloc (.cells #[.int .i64 k, .int .i64 a, .int .u64 o, .int .u64 n] 106)).cell? ⟨b, off, none⟩ = some (.int .u64 held) := by
    rw [World.cell?_alloc_lt _ _ _ (World.block_lt_of_cell? W _ hc)]; exact hc
  have hd : (held == o) = false := by rw [beq_eq_false_iff_ne]; exact hne
  have hB : Below W.heap.size W (W.alloc (.cells #[.int .i64 k, .int .i64 a, .int .u64 o, .int .u64 n] 106)) := (Below.refl _ _).alloc (Nat.le_refl _) _
  clear hne hc
  go_enter Try.func100, Try.ntmps100
  go_wp2
  go_quiet (fail)
  go_wp2
  go_ret
  exact ⟨rfl, below_drewN hB _⟩

set_option maxRecDepth 100000 in
set_option maxHeartbeats 2000000 in
theorem swap_yes (k a o n : Int) (b off : Nat) (W : World) (hc : W.cell? ⟨b, off, none⟩ = some (.int .u64 o)) (hf : W.frozen? ⟨b, off, none⟩ = false) :
    Calls Try.prog 100 #[.agg #[.int .i64 k, .int .i64 a, .int .u64 o, .int .u64 n], .slice (some ⟨b, off, none⟩) 1 1] W fun e w' => e = .returned (.bool true) ∧ Stores ⟨b, off, none⟩ (.int .u64 n) W w' := by
  have hlt := World.block_lt_of_cell? W _ hc
  obtain ⟨wo, hwo⟩ : ∃ wo : World, wo = W.alloc (.cells #[.int .i64 k, .int .i64 a, .int .u64 o, .int .u64 n] 106) := ⟨_, rfl⟩
  have hc1 : wo.cell? ⟨b, off, none⟩ = some (.int .u64 o) := by
    rw [hwo, World.cell?_alloc_lt _ _ _ hlt]; exact hc
  have hB : Below W.heap.size W wo := by rw [hwo]; exact (Below.refl _ _).alloc (Nat.le_refl _) _
  have hf1 : wo.frozen? ⟨b, off, none⟩ = false := (hB.frozen hlt).trans hf
  have hp0 : wo.cell? ⟨W.heap.size, 0, none⟩ = some (.int .i64 k) := by rw [hwo]; simp
  have hp1 : wo.cell? ⟨W.heap.size, 1, none⟩ = some (.int .i64 a) := by rw [hwo]; simp
  have hp2 : wo.cell? ⟨W.heap.size, 2, none⟩ = some (.int .u64 o) := by rw [hwo]; simp
  have hp3 : wo.cell? ⟨W.heap.size, 3, none⟩ = some (.int .u64 n) := by rw [hwo]; simp
  have hd : (o == o) = true := by simp
  clear hc
  go_enter Try.func100, Try.ntmps100
  go_wp2_with fail
  rw [← hwo]
  clear hwo
  go_region_with (first
      | (go_at_call 99; refine (store_c k a o n b off (.int .u64 o) wo.drew hc1 hf1).mono ?_; rintro e w3 ⟨rfl, hs3⟩))
  all_goals go_wp2
  all_goals go_ret
  all_goals exact ⟨rfl, Stores.after hB.drew hs3⟩


/-- What an access comes to, as a value. -/
def gotV (x : Int) (d : Bool) : Value := .agg #[.int .u64 x, .bool d]

set_option maxRecDepth 100000 in
set_option maxHeartbeats 4000000 in
theorem on_out (k a o n : Int) (z : Nat) (pw : Option Addr) (nw cw : Nat) (pl : Option Addr) (nl cl : Nat) (f : Bool) (W : World) (hz0 : W.cell? ⟨z, 0, none⟩ = some (.slice pw nw cw)) (hz1 : W.cell? ⟨z, 1, none⟩ = some (.slice pl nl cl)) (hz2 : W.cell? ⟨z, 2, none⟩ = some (.bool f)) (hfz : W.frozen? ⟨z, 2, none⟩ = false)
    (hn : nw ≤ 4096) (hth : thereB nw a 1 = false) :
    Calls Try.prog 64 #[.agg #[.int .i64 k, .int .i64 a, .int .u64 o, .int .u64 n], .pointer (some ⟨z, 0, none⟩)] W fun e w' => e = .returned (.agg #[.int .u64 0, .bool false]) ∧ Stores ⟨z, 2, none⟩ (.bool true) W w' := by
  obtain ⟨wo, hwo⟩ : ∃ wo : World, wo = (W.alloc (.cells #[.int .i64 k, .int .i64 a, .int .u64 o, .int .u64 n] 106)).alloc (.cells #[.int .u64 0, .bool false] 36) := ⟨_, rfl⟩
  have hB : Below W.heap.size W wo := by rw [hwo]; exact ((Below.refl _ _).alloc (Nat.le_refl _) _).alloc (by simp) _
  have hsz : W.heap.size + 1 < wo.heap.size := by rw [hwo]; simp
  have hp0 : wo.cell? ⟨W.heap.size, 0, none⟩ = some (.int .i64 k) := by rw [hwo]; simp
  have hp1 : wo.cell? ⟨W.heap.size, 1, none⟩ = some (.int .i64 a) := by rw [hwo]; simp
  have hp2 : wo.cell? ⟨W.heap.size, 2, none⟩ = some (.int .u64 o) := by rw [hwo]; simp
  have hp3 : wo.cell? ⟨W.heap.size, 3, none⟩ = some (.int .u64 n) := by rw [hwo]; simp
  have hq0 : wo.cell? ⟨W.heap.size + 1, 0, none⟩ = some (.int .u64 0) := by rw [hwo]; simp
  have hq1 : wo.cell? ⟨W.heap.size + 1, 1, none⟩ = some (.bool false) := by rw [hwo]; simp
  have hg0 : wo.frozen? ⟨W.heap.size + 1, 0, none⟩ = false := by rw [hwo]; simp
  have hg1 : wo.frozen? ⟨W.heap.size + 1, 1, none⟩ = false := by rw [hwo]; simp
  have hzlt := World.block_lt_of_cell? W _ hz0
  have hfz' := below_frozen hB hz2 hfz
  have hz0' := below_cell hB hz0
  have hz1' := below_cell hB hz1
  have hz2' := below_cell hB hz2
  clear hz0 hz1 hz2 hfz
  have HTH : ∀ W' : World, Calls Try.prog 69 #[.agg #[.slice pw nw cw, .slice pl nl cl, .bool f], .int .i64 a, .int .i64 1] W' fun e w' => e = .returned (.bool false) ∧ Below W'.heap.size W' w' := fun W' => by
    have := there_c pw nw cw (.slice pl nl cl) f a 1 (by decide) (by omega) W'; rwa [hth] at this
  clear hth
  go_enter Try.func64, Try.ntmps64
  go_wp2_with fail
  rw [← hwo]
  clear hwo
  refine wp_region_held_drew (S := (fun w' => (w'.cell? ⟨z, 0, none⟩ = some (.slice pw nw cw) ∧ w'.cell? ⟨z, 1, none⟩ = some (.slice pl nl cl) ∧ w'.cell? ⟨z, 2, none⟩ = some (.bool f)) ∧ (w'.cell? ⟨W.heap.size, 0, none⟩ = some (.int .i64 k) ∧ w'.cell? ⟨W.heap.size, 1, none⟩ = some (.int .i64 a) ∧ w'.cell? ⟨W.heap.size, 2, none⟩ = some (.int .u64 o) ∧ w'.cell? ⟨W.heap.size, 3, none⟩ = some (.int .u64 n)))) (by kernel_rfl) ⟨⟨hz0', hz1', hz2'⟩, hp0, hp1, hp2, hp3⟩ (fun hHeld => ?_)
  refine wpAnyH_take (i := 0) (v := (.pointer (some ⟨z, 0, none⟩))) rfl (by kernel_rfl) (by kernel_rfl) (by kernel_rfl) (fun _ _ _ h => h) (Or.inl ⟨by rfl, ?_⟩) (by assumption) ?_
  · intro w hSw
    go_simp
  simp only [Act.put, List.getElem_toArray, List.getElem_cons_zero, List.setIfInBounds_toArray, List.set_cons_succ, List.set_cons_zero]
  refine wpAnyH_take (i := 1) (v := (.pointer (some ⟨z, 0, none⟩))) rfl (by kernel_rfl) (by kernel_rfl) (by kernel_rfl) (fun _ _ _ h => h) (Or.inl ⟨by rfl, ?_⟩) (by assumption) ?_
  · intro w hSw
    go_simp
  simp only [Act.put, List.getElem_toArray, List.getElem_cons_succ, List.getElem_cons_zero, List.setIfInBounds_toArray, List.set_cons_succ, List.set_cons_zero]
  refine wpAnyH_take (i := 2) (v := (.agg #[.slice pw nw cw, .slice pl nl cl, .bool f])) rfl (by kernel_rfl) (by kernel_rfl) (by kernel_rfl) (fun _ _ _ h => h) (Or.inl ⟨by rfl, ?_⟩) (by assumption) ?_
  · intro w hSw
    go_simp
  simp only [Act.put, List.getElem_toArray, List.getElem_cons_succ, List.getElem_cons_zero, List.setIfInBounds_toArray, List.set_cons_succ, List.set_cons_zero]
  refine wpAnyH_take (i := 3) (v := (.pointer (some ⟨W.heap.size, 0, none⟩))) rfl (by kernel_rfl) (by kernel_rfl) (by kernel_rfl) (fun _ _ _ h => h) (Or.inl ⟨by rfl, ?_⟩) (by assumption) ?_
  · intro w hSw
    go_simp
  simp only [Act.put, List.getElem_toArray, List.getElem_cons_succ, List.getElem_cons_zero, List.setIfInBounds_toArray, List.set_cons_succ, List.set_cons_zero]
  refine wpAnyH_take (i := 4) (v := (.pointer (some ⟨W.heap.size, 1, none⟩))) rfl (by kernel_rfl) (by kernel_rfl) (by kernel_rfl) (fun _ _ _ h => h) (Or.inl ⟨by rfl, ?_⟩) (by assumption) ?_
  · intro w hSw
    go_simp
  simp only [Act.put, List.getElem_toArray, List.getElem_cons_succ, List.getElem_cons_zero, List.setIfInBounds_toArray, List.set_cons_succ, List.set_cons_zero]
  refine wpAnyH_take (i := 5) (v := (.int .i64 a)) rfl (by kernel_rfl) (by kernel_rfl) (by kernel_rfl) (fun _ _ _ h => h) (Or.inl ⟨by rfl, ?_⟩) (by assumption) ?_
  · intro w hSw
    go_simp
  simp only [Act.put, List.getElem_toArray, List.getElem_cons_succ, List.getElem_cons_zero, List.setIfInBounds_toArray, List.set_cons_succ, List.set_cons_zero]
  refine wpAnyH_ready (rs := [6]) (by kernel_rfl) (by simp) ?_
  refine AllReadyH.cons rfl (fun K hK => ?_) AllReadyH.nil
  go_simp
  go_at_call 69
  refine (HTH _).mono ?_
  rintro e w3 ⟨rfl, hb3⟩
  refine hK.out _ _ ⟨⟨below_cell hb3 hz0', below_cell hb3 hz1', below_cell hb3 hz2'⟩, below_cell hb3 hp0, below_cell hb3 hp1, below_cell hb3 hp2, below_cell hb3 hp3⟩ (fun hHeld => ?_)
  clear hK K
  refine wpAnyH_take (i := 7) (v := (.bool true)) rfl (by kernel_rfl) (by kernel_rfl) (by kernel_rfl) (fun _ _ _ h => h) (Or.inl ⟨by rfl, ?_⟩) (by assumption) ?_
  · intro w hSw
    go_simp
  simp only [Act.put, List.getElem_toArray, List.getElem_cons_succ, List.getElem_cons_zero, List.setIfInBounds_toArray, List.set_cons_succ, List.set_cons_zero]
  refine wpAnyH_take (i := 8) (v := (.bool true)) rfl (by kernel_rfl) (by kernel_rfl) (by kernel_rfl) (fun _ _ _ h => h) (Or.inl ⟨by rfl, ?_⟩) (by assumption) ?_
  · intro w hSw
    go_simp
  simp only [Act.put, List.getElem_toArray, List.getElem_cons_succ, List.getElem_cons_zero, List.setIfInBounds_toArray, List.set_cons_succ, List.set_cons_zero]
  refine wpAnyH_take (i := 9) (v := undef) rfl (by kernel_rfl) (by kernel_rfl) (by kernel_rfl) (fun _ _ _ h => h) (Or.inr ⟨by rfl, rfl⟩) (by assumption) ?_
  simp only [Act.put, List.getElem_toArray, List.getElem_cons_succ, List.getElem_cons_zero, List.setIfInBounds_toArray, List.set_cons_succ, List.set_cons_zero]
  refine wpAnyH_take (i := 10) (v := undef) rfl (by kernel_rfl) (by kernel_rfl) (by kernel_rfl) (fun _ _ _ h => h) (Or.inr ⟨by rfl, rfl⟩) (by assumption) ?_
  simp only [Act.put, List.getElem_toArray, List.getElem_cons_succ, List.getElem_cons_zero, List.setIfInBounds_toArray, List.set_cons_succ, List.set_cons_zero]
  refine wpAnyH_take (i := 11) (v := undef) rfl (by kernel_rfl) (by kernel_rfl) (by kernel_rfl) (fun _ _ _ h => h) (Or.inr ⟨by rfl, rfl⟩) (by assumption) ?_
  simp only [Act.put, List.getElem_toArray, List.getElem_cons_succ, List.getElem_cons_zero, List.setIfInBounds_toArray, List.set_cons_succ, List.set_cons_zero]
  refine wpAnyH_take (i := 12) (v := undef) rfl (by kernel_rfl) (by kernel_rfl) (by kernel_rfl) (fun _ _ _ h => h) (Or.inr ⟨by rfl, rfl⟩) (by assumption) ?_
  simp only [Act.put, List.getElem_toArray, List.getElem_cons_succ, List.getElem_cons_zero, List.setIfInBounds_toArray, List.set_cons_succ, List.set_cons_zero]
  refine wpAnyH_take (i := 13) (v := undef) rfl (by kernel_rfl) (by kernel_rfl) (by kernel_rfl) (fun _ _ _ h => h) (Or.inr ⟨by rfl, rfl⟩) (by assumption) ?_
  simp only [Act.put, List.getElem_toArray, List.getElem_cons_succ, List.getElem_cons_zero, List.setIfInBounds_toArray, List.set_cons_succ, List.set_cons_zero]
  refine wpAnyH_take (i := 14) (v := undef) rfl (by kernel_rfl) (by kernel_rfl) (by kernel_rfl) (fun _ _ _ h => h) (Or.inr ⟨by rfl, rfl⟩) (by assumption) ?_
  simp only [Act.put, List.getElem_toArray, List.getElem_cons_succ, List.getElem_cons_zero, List.setIfInBounds_toArray, List.set_cons_succ, List.set_cons_zero]
  refine wpAnyH_take (i := 15) (v := undef) rfl (by kernel_rfl) (by kernel_rfl) (by kernel_rfl) (fun _ _ _ h => h) (Or.inr ⟨by rfl, rfl⟩) (by assumption) ?_
  simp only [Act.put, List.getElem_toArray, List.getElem_cons_succ, List.getElem_cons_zero, List.setIfInBounds_toArray, List.set_cons_succ, List.set_cons_zero]
  refine wpAnyH_take (i := 16) (v := undef) rfl (by kernel_rfl) (by kernel_rfl) (by kernel_rfl) (fun _ _ _ h => h) (Or.inr ⟨by rfl, rfl⟩) (by assumption) ?_
  simp only [Act.put, List.getElem_toArray, List.getElem_cons_succ, List.getElem_cons_zero, List.setIfInBounds_toArray, List.set_cons_succ, List.set_cons_zero]
  refine wpAnyH_take (i := 17) (v := undef) rfl (by kernel_rfl) (by kernel_rfl) (by kernel_rfl) (fun _ _ _ h => h) (Or.inr ⟨by rfl, rfl⟩) (by assumption) ?_
  simp only [Act.put, List.getElem_toArray, List.getElem_cons_succ, List.getElem_cons_zero, List.setIfInBounds_toArray, List.set_cons_succ, List.set_cons_zero]
  refine wpAnyH_take (i := 18) (v := undef) rfl (by kernel_rfl) (by kernel_rfl) (by kernel_rfl) (fun _ _ _ h => h) (Or.inr ⟨by rfl, rfl⟩) (by assumption) ?_
  simp only [Act.put, List.getElem_toArray, List.getElem_cons_succ, List.getElem_cons_zero, List.setIfInBounds_toArray, List.set_cons_succ, List.set_cons_zero]
  refine wpAnyH_take (i := 19) (v := (.bool true)) rfl (by kernel_rfl) (by kernel_rfl) (by kernel_rfl) (fun _ _ _ h => h) (Or.inl ⟨by rfl, ?_⟩) (by assumption) ?_
  · intro w hSw
    go_simp
  simp only [Act.put, List.getElem_toArray, List.getElem_cons_succ, List.getElem_cons_zero, List.setIfInBounds_toArray, List.set_cons_succ, List.set_cons_zero]
  refine wpAnyH_done (by kernel_rfl) ?_ _
  have hq0' := below_cell hb3 hq0
  have hq1' := below_cell hb3 hq1
  have hg0' := below_frozen hb3 hq0 hg0
  have hg1' := below_frozen hb3 hq1 hg1
  have hfz3 := below_frozen hb3 hz2' hfz'
  have hB3 := below_then hB.drew hB.size hb3
  obtain ⟨⟨_, _, hz3⟩, _⟩ := hHeld
  go_wp2
  have hS := ((below_both hB3 ⟨z, 2, none⟩ (.bool true)).setCell (p := ⟨W.heap.size + 1, 0, none⟩) (Nat.le_succ _) (.int .u64 0)).setCell (p := ⟨W.heap.size + 1, 1, none⟩) (Nat.le_succ _) (.bool false)
  exact bodyPost_ret (v := .agg #[.int .u64 0, .bool false]) (by simp [results, Try.results64, go_sem, hq0', hq1']) rfl ⟨rfl, hS⟩

end Go.Proofs.Ytcledklajcdfiaa
