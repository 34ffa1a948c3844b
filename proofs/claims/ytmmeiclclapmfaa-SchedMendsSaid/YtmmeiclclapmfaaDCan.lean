/-
  canBe, of Mend of package sched: whether the picks can be gone on with.
  Conditions: the captured variables hold the waits, and the numbers.
-/
import Derived.Test.YtmmeiclclapmfaaDWithin
import Derived.Test.YtmmeiclclapmfaaDWish
import Derived.Deep.RegionHeld3
namespace Go.Proofs.Ytmmeiclclapmfaa
open Go.RowKit Go.Shelf

theorem within_o {c : Nat} {l : List Int} {x0 x1 x2 x3 x4 x5 x6 x7 : Int} {k : Int} (hc1 : 1 ≤ c) (hc8 : c ≤ 8) (hx : Hid (arr c l = [x0, x1, x2, x3, x4, x5, x6, x7])) (hk : (c : Int) ≤ k) (hk2 : k ≤ 9223372036854775807) (W : World) :
    Calls Try.prog 33 #[.agg #[.int .i64 x0, .int .i64 x1, .int .i64 x2, .int .i64 x3, .int .i64 x4, .int .i64 x5, .int .i64 x6, .int .i64 x7], .int .i64 (c : Int), .int .i64 k] W fun e w' => e = .returned (.bool (canB k (wv c l))) ∧ Below W.heap.size W w' := by
  have h := within_c c ⟨hc1, hc8⟩ l k hk hk2 W
  rwa [show aggI (arr c l) = .agg #[.int .i64 x0, .int .i64 x1, .int .i64 x2, .int .i64 x3, .int .i64 x4, .int .i64 x5, .int .i64 x6, .int .i64 x7] by rw [hx.out]; rfl] at h

set_option maxRecDepth 100000 in
set_option maxHeartbeats 4000000 in
theorem canBe_c (c : Nat) (hc : 1 ≤ c ∧ c ≤ 8) (l : List Int) (hl : l.length ≤ 1099511627776) (k : Int) (hk : (c : Int) ≤ k) (hk2 : k ≤ 9223372036854775807) (p : Nat) (hp : p < c) (zw zc zk : Nat) (W : World) (hw : WBox W zw (arr c l)) (h1 : W.cell? ⟨zc, 0, none⟩ = some (.int .i64 (c : Int))) (h2 : W.cell? ⟨zk, 0, none⟩ = some (.int .i64 k)) :
    Calls Try.prog 32 #[.int .i64 (p : Int), .pointer (some ⟨zw, 0, none⟩), .pointer (some ⟨zc, 0, none⟩), .pointer (some ⟨zk, 0, none⟩)] W fun e w' => e = .returned (.bool (canB k (wv c (l ++ [(p : Int)])))) ∧ Below W.heap.size W w' := by
  obtain ⟨a0, a1, a2, a3, a4, a5, a6, a7, HA, _⟩ := arr8 hc.2 l
  obtain ⟨hc1, hc8⟩ := hc
  rw [HA.out] at hw
  obtain ⟨g0, g1, g2, g3, g4, g5, g6, g7⟩ := hw.cells
  clear hw
  go_enter Try.func32, Try.ntmps32
  go_wp2_with fail
  have hW2 : Below W.heap.size W W.drew := (Below.refl _ _).drew
  go_region_held3 (fun w' => (w'.cell? ⟨zw, 0, none⟩ = some (.int .i64 a0) ∧ w'.cell? ⟨zw, 1, none⟩ = some (.int .i64 a1) ∧ w'.cell? ⟨zw, 2, none⟩ = some (.int .i64 a2) ∧ w'.cell? ⟨zw, 3, none⟩ = some (.int .i64 a3) ∧ w'.cell? ⟨zw, 4, none⟩ = some (.int .i64 a4) ∧ w'.cell? ⟨zw, 5, none⟩ = some (.int .i64 a5) ∧ w'.cell? ⟨zw, 6, none⟩ = some (.int .i64 a6) ∧ w'.cell? ⟨zw, 7, none⟩ = some (.int .i64 a7)) ∧ w'.cell? ⟨zc, 0, none⟩ = some (.int .i64 (c : Int)) ∧ w'.cell? ⟨zk, 0, none⟩ = some (.int .i64 k))
    (first
      | exact ⟨⟨g0, g1, g2, g3, g4, g5, g6, g7⟩, h1, h2⟩
      | go_keep
      | (go_split_ands; exact ⟨⟨below_cell hb3 (by assumption), below_cell hb3 (by assumption), below_cell hb3 (by assumption), below_cell hb3 (by assumption), below_cell hb3 (by assumption), below_cell hb3 (by assumption), below_cell hb3 (by assumption), below_cell hb3 (by assumption)⟩, below_cell hb3 (by assumption), below_cell hb3 (by assumption)⟩))
    (first
      | (go_at_call 28; refine (behind_o hc1 hc8 HA hl p hp _).mono ?_; rintro e w3 ⟨⟨y0, y1, y2, y3, y4, y5, y6, y7, rfl, HY⟩, hb3⟩; replace hW2 := below_then hW2 hW2.size hb3)
      | (go_at_call 33; refine (within_o hc1 hc8 HY hk hk2 _).mono ?_; rintro e w4 ⟨rfl, hb3⟩; replace hW2 := below_then hW2 hW2.size hb3))
  all_goals
    go_wp2
    go_ret
    exact ⟨rfl, hW2⟩

end Go.Proofs.Ytmmeiclclapmfaa
