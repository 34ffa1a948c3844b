/-
  spoil, of the statements of layer 2: it writes over the two rows of a memory, and over nothing else.
  Conditions: the memory has rows of its own.
-/
import Derived.Test.YtgpbhdoidhhhhaaMRefLive
import Derived.RegionTactic
namespace Go.Proofs.Ytgpbhdoidhhhhaa
open Go.RowKit Go.Shelf

/-- What holds while the rows are written over. -/
structure SpInv (B z : Nat) (vw vl : Value) (f : Bool) (n m : Nat) (us : List Int) (ms : List Bool) (W w : World) : Prop where
  box : MBox w z vw vl f
  words : w.ownsRow B 42 1 vw n (us.map (Value.int .u64))
  lives : w.ownsRow B 4 1 vl m (ms.map Value.bool)
  keeps : Keeps (fun q => vw.ownBlock = some q ∨ vl.ownBlock = some q) W w
theorem SpInv.drew {B z : Nat} {vw vl : Value} {f : Bool} {n m : Nat} {us : List Int} {ms : List Bool} {W w : World} (h : SpInv B z vw vl f n m us ms W w) : SpInv B z vw vl f n m us ms W w.drew := ⟨h.box, h.words.drew, h.lives.drew, h.keeps.drewN 1⟩

set_option maxRecDepth 100000 in
set_option maxHeartbeats 4000000 in
theorem spoil_c (B : Nat) (vw vl : Value) (f : Bool) (ws : List Int) (ls : List Bool) (W : World) (hw : W.ownsRow B 42 1 vw ws.length (ws.map (Value.int .u64))) (hl : W.ownsRow B 4 1 vl ls.length (ls.map Value.bool)) (hn : ws.length ≤ 4096) (hm : ls.length ≤ 4096) :
    Calls Try.prog 18 #[.agg #[vw, vl, .bool f]] W fun e w' => e = .returned (.tuple #[]) ∧ Keeps (fun q => vw.ownBlock = some q ∨ vl.ownBlock = some q) W w' := by
  obtain ⟨pw, cw, rfl⟩ := owns_slice hw
  obtain ⟨pl, cl, rfl⟩ := owns_slice hl
  obtain ⟨z, hz⟩ : ∃ z, z = W.heap.size := ⟨_, rfl⟩
  obtain ⟨wo, hwo⟩ : ∃ wo : World, wo = W.alloc (.cells #[.slice pw ws.length cw, .slice pl ls.length cl, .bool f] 25) := ⟨_, rfl⟩
  have HZS := Lib.hid (show ∀ q, ((Value.slice pw ws.length cw).ownBlock = some q ∨ (Value.slice pl ls.length cl).ownBlock = some q) → q < z from fun q hq => by
    rw [hz]; rcases hq with h | h
    · exact (hw.lt q h).2
    · exact (hl.lt q h).2)
  have HI := Lib.hid (show SpInv B z (.slice pw ws.length cw) (.slice pl ls.length cl) f ws.length ls.length ws ls W wo by
    rw [hwo, hz]; exact ⟨MBox.new _ _ _ _, hw.alloc _, hl.alloc _, Keeps.alloc _ _ _⟩)
  clear hw hl
  go_enter Try.func18, Try.ntmps18
  go_wp2
  rw [← hwo]
  clear hwo
  rw [← hz]
  clear hz
  go_loopw [7] (fun iv wr => ∃ (i : Nat) (us : List Int), i ≤ ws.length ∧ iv = .int .i64 i ∧ us.length = ws.length ∧ SpInv B z (.slice pw ws.length cw) (.slice pl ls.length cl) f ws.length ls.length us ls W wr) (fun iv _ => ws.length - (intOf iv).toNat)
  case atStart => exact ⟨0, ws, Nat.zero_le _, rfl, rfl, HI.out⟩
  case round =>
    obtain ⟨i, us, hi, rfl, hus, hinv⟩ := hrel
    have HR := Lib.hid hinv
    have HU := Lib.hid hus
    clear hinv hus HI
    obtain ⟨⟨hz0, hz1, hz2⟩, _⟩ := mbox_cells HR.out.box
    by_cases hlt : i < ws.length
    · obtain ⟨g, cg, hf, hBg, hgs⟩ := own_form HR.out.words (by omega)
      injection hf with hf hf2 hf3
      subst hf
      subst hf3
      have hw1 := HR.out.words.cellAt i (by omega)
      have hwf := HR.out.words.frozenAt i
      have hwi : i < (us.map (Value.int .u64)).length := by rw [List.length_map, HU.out]; exact hlt
      rw [List.getElem?_eq_getElem hwi, List.getElem_map] at hw1
      obtain ⟨y, hy⟩ : ∃ y, y = us[i]'(by rw [HU.out]; exact hlt) := ⟨_, rfl⟩
      rw [← hy] at hw1
      have HST := Lib.hid (show ∀ t : Int, SpInv B z (.slice (some ⟨g, 0, none⟩) ws.length cw) (.slice pl ls.length cl) f ws.length ls.length (us.set i t) ls W (wr.setCell ⟨g, i, none⟩ (.int .u64 t)) from fun t => by
        have hs := (HR.out.words.stored i (.int .u64 t)).1
        rw [← List.map_set] at hs
        have hzg : ¬ (z = g) := fun e => by have := HZS.out g (.inl rfl); omega
        refine ⟨HR.out.box.keeps (Keeps.setCell wr (S := fun q => q = g) (p := ⟨g, i, none⟩) rfl _) hzg, hs, ?_, HR.out.keeps.trans (Keeps.setCell wr (p := ⟨g, i, none⟩) (.inl rfl) _)⟩
        refine (Keeps.setCell wr (S := fun q => q = g) (p := ⟨g, i, none⟩) rfl _).row HR.out.lives fun g' hg' e => ?_
        have e' : g' = g := e
        subst e'
        exact owns_ne HR.out.words HR.out.lives (by decide) rfl hg' rfl)
      have HUL := Lib.hid (show ∀ t : Int, (us.set i t).length = ws.length from fun t => by simp [HU.out])
      clear hwi hy hBg hgs HR
      go_wp2
      go_roundw
      case rel => exact ⟨i + 1, _, by omega, by go_num, HUL.out _, HST.out _⟩
      case measure => simp [intOf]; omega
    · go_wp2
      clear hlt hi
      go_loopw [21] (fun iv wr => ∃ (i : Nat) (ms : List Bool), i ≤ ls.length ∧ iv = .int .i64 i ∧ ms.length = ls.length ∧ SpInv B z (.slice pw ws.length cw) (.slice pl ls.length cl) f ws.length ls.length us ms W wr) (fun iv _ => ls.length - (intOf iv).toNat)
      case atStart => exact ⟨0, ls, Nat.zero_le _, rfl, rfl, HR.out⟩
      case round =>
        obtain ⟨i, ms, hi, rfl, hus, hinv⟩ := hrel
        clear hz0 hz1 hz2 HR
        have HR := Lib.hid hinv
        have HU := Lib.hid hus
        clear hinv hus
        obtain ⟨⟨hz0, hz1, hz2⟩, _⟩ := mbox_cells HR.out.box
        by_cases hlt : i < ls.length
        · obtain ⟨g, cg, hf, hBg, hgs⟩ := own_form HR.out.lives (by omega)
          injection hf with hf hf2 hf3
          subst hf
          subst hf3
          have hw1 := HR.out.lives.cellAt i (by omega)
          have hwf := HR.out.lives.frozenAt i
          have hwi : i < (ms.map Value.bool).length := by rw [List.length_map, HU.out]; exact hlt
          rw [List.getElem?_eq_getElem hwi, List.getElem_map] at hw1
          obtain ⟨y, hy⟩ : ∃ y, y = ms[i]'(by rw [HU.out]; exact hlt) := ⟨_, rfl⟩
          rw [← hy] at hw1
          have HST := Lib.hid (show ∀ t : Bool, SpInv B z (.slice pw ws.length cw) (.slice (some ⟨g, 0, none⟩) ls.length cl) f ws.length ls.length us (ms.set i t) W (wr.setCell ⟨g, i, none⟩ (.bool t)) from fun t => by
            have hs := (HR.out.lives.stored i (.bool t)).1
            rw [← List.map_set] at hs
            have hzg : ¬ (z = g) := fun e => by have := HZS.out g (.inr rfl); omega
            refine ⟨HR.out.box.keeps (Keeps.setCell wr (S := fun q => q = g) (p := ⟨g, i, none⟩) rfl _) hzg, ?_, hs, HR.out.keeps.trans (Keeps.setCell wr (p := ⟨g, i, none⟩) (.inr rfl) _)⟩
            refine (Keeps.setCell wr (S := fun q => q = g) (p := ⟨g, i, none⟩) rfl _).row HR.out.words fun g' hg' e => ?_
            have e' : g' = g := e
            subst e'
            exact owns_ne HR.out.lives HR.out.words (by decide) rfl hg' rfl)
          have HUL := Lib.hid (show ∀ t : Bool, (ms.set i t).length = ls.length from fun t => by simp [HU.out])
          have hi1 : (i : Int) < (ls.length : Int) := by omega
          clear hwi hy hBg hgs HR
          go_wp2
          go_region
          go_wp2
          go_roundw
          case rel => exact ⟨i + 1, _, by omega, by go_num, HUL.out _, (HST.out _).drew⟩
          case measure => simp [intOf]; omega
        · go_wp2
          go_end0
          exact ⟨rfl, HR.out.keeps⟩

end Go.Proofs.Ytgpbhdoidhhhhaa
