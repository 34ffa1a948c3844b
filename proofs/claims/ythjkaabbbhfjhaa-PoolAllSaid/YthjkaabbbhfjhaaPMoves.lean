/-
  Package pool: the moves of a change.
  Conditions: as each has them.
-/
import Derived.Test.YthjkaabbbhfjhaaPChange
namespace Go.Proofs.Ythjkaabbbhfjhaa
open Go.RowKit Go.Shelf
attribute [local go_sem] Oper.semAt_some

theorem ChBox.row {W : World} {z : Nat} {b p : Int} {v : Value} {bs : List Bool} (h : ChBox W z b p v bs) {B n g : Nat} {u : Value} {xs : List Value} (hr : W.ownsRow B 3 1 u n xs) (hg : u.ownBlock = some g) : z ≠ g := fun e => by
  subst e
  obtain ⟨cc, f, h1⟩ := Lib.ownsRow_kind hr _ hg
  rw [h.2] at h1
  simp at h1
theorem Keeps.of_grown {w w' : World} {r : Option Nat} (h : w.grownBy w' r) : Keeps (fun q => some q = r) w w' := ⟨h.os, h.tape, h.output, h.size, h.block⟩
set_option maxRecDepth 100000 in
set_option maxHeartbeats 4000000 in
theorem ctake_c (z i k c : Nat) (b pg : Int) (p : Option Addr) (bs : List Bool) (W : World) (hi : i < 64) (hc : k + 1 ≤ c) (hk : k ≤ 64) (hX : ChBox W z b pg (.slice p (k + 1) c) bs) :
    Calls Try.prog 29 #[.pointer (some ⟨z, 0, none⟩), .int .i64 (i : Int)] W fun e w' => e = .returned (.tuple #[]) ∧ w' = (W.setCell ⟨z, 2, none⟩ (.slice p k k)).setCell ⟨z, 3 + i, none⟩ (.bool false) := by
  obtain ⟨c0, c1, c2⟩ := hX.cells
  have k2 := hX.mark 2
  obtain ⟨x0, hf⟩ : ∃ x, W.cell? ⟨z, 3 + i, none⟩ = some (.bool x) := ⟨_, hX.flag i (by rw [hX.1]; exact hi)⟩
  have kf := hX.mark (3 + i)
  clear hX
  go_enter Try.func29, Try.ntmps29
  go_wp2
  go_end0
  exact ⟨rfl, rfl⟩
set_option maxRecDepth 100000 in
set_option maxHeartbeats 4000000 in
theorem cgive_c (B z i n c : Nat) (b pg : Int) (p : Option Addr) (bs : List Bool) (fs : List Int) (W : World) (hi : i < 64) (hn : n ≤ 64) (hB : B ≤ W.heap.size) (hX : ChBox W z b pg (.slice p n c) bs) (hO : W.ownsRow B 3 1 (.slice p n c) n (fs.map (Value.int .i64))) :
    Calls Try.prog 31 #[.pointer (some ⟨z, 0, none⟩), .int .i64 (i : Int)] W fun e w' => e = .returned (.tuple #[]) ∧ ∃ p' c', ChBox w' z b pg (.slice p' (n + 1) c') (bs.set i true) ∧ w'.ownsRow B 3 1 (.slice p' (n + 1) c') (n + 1) ((fs ++ [(i : Int)]).map (Value.int .i64)) ∧ Keeps (fun k => k = z ∨ some k = (Value.slice p n c).ownBlock) W w' := by
  obtain ⟨c0, c1, c2⟩ := hX.cells
  have HX := Lib.hid hX
  have HO := Lib.hid hO
  have hz := hX.lt
  have hzg : ∀ g, (Value.slice p n c).ownBlock = some g → z ≠ g := fun g hg => hX.row hO hg
  have HZG := Lib.hid hzg
  obtain ⟨i0, hi1, hz0, hz1, hz2⟩ := info_parts int_info
  have HI0 := Lib.hid (And.intro hi1 (And.intro hz0 (And.intro hz1 hz2)))
  clear hi1 hz0 hz1 hz2 hzg hX hO
  go_enter Try.func31, Try.ntmps31
  go_wp2_with (at_builtin; go_loud (refine wpList_append_own_at _ rfl _ _ 22 rfl B 3 i0 (.int .i64 0) 1 8 Try.underlying22 HI0.out.1 HI0.out.2.1 HI0.out.2.2.1 HI0.out.2.2.2 rfl (by decide) (.slice p n c) n _ rfl (HO.out.alloc _) ⟨W.heap.size, 0, none⟩ 1 1 [.int .i64 (i : Int)] rfl rfl (cell_one_new _ _ _) (fun y hy => by rw [List.mem_singleton.1 hy]; rfl) (by unfold maxLen; omega) (by omega) (by simp; omega) ?_; intro v' w5 hown' hgrow _ hat; obtain ⟨pv, cv, rfl⟩ := owns_slice hown'; have X := Lib.hid (And.intro hown' (And.intro hgrow hat)); have hk5 : Keeps (fun k => some k = (Value.slice p n c).ownBlock) W w5 := ((Keeps.alloc _ W _).trans (Keeps.of_grown hgrow)); have hx5 := HX.out.keeps hk5 (fun e => HZG.out z e.symm rfl); have HX5 := Lib.hid hx5; have HK5 := Lib.hid hk5; obtain ⟨d0, d1, d2⟩ := hx5.cells; have l2 := hx5.mark 2; have l3 := hx5.mark (3 + i); obtain ⟨x0, hf⟩ : ∃ x, w5.cell? ⟨z, 3 + i, none⟩ = some (.bool x) := ⟨_, hx5.flag i (by rw [hx5.1]; exact hi)⟩; clear hown' hgrow hat hk5 hx5 c0 c1 c2))
  go_end0
  have hk6 : Keeps (fun k => k = z) w5 ((w5.setCell ⟨z, 2, none⟩ (.slice pv (n + 1) cv)).setCell ⟨z, 3 + i, none⟩ (.bool true)) :=
    (Keeps.setCell w5 (S := (· = z)) (p := ⟨z, 2, none⟩) rfl _).trans (Keeps.setCell _ (S := (· = z)) (p := ⟨z, 3 + i, none⟩) rfl _)
  exact ⟨rfl, pv, cv, (HX5.out.setV _).setF i true, by rw [List.map_append]; exact hk6.row X.out.1 (fun g hg e => HX5.out.row X.out.1 hg e.symm), (HK5.out.sub fun k _ h => .inr h).trans (hk6.sub fun k _ h => .inl h)⟩
end Go.Proofs.Ythjkaabbbhfjhaa
