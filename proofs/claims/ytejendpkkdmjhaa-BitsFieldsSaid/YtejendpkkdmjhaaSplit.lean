/-
  Split and Pack of package bits, called with any slices of fields and of words; what was in memory stays.
  Conditions: at most 2 to the power 40 fields.
-/
import Derived.Test.YtejendpkkdmjhaaGet
import Derived.Test.YtejendpkkdmjhaaNums
import Derived.Laws.OwnMore
import Derived.Deep.Onto
namespace Go.Proofs.Ytejendpkkdmjhaa
open Go.RowKit Go.Shelf

theorem chk_field {fs : List (Int × Int)} {T : Nat} (h : chkTo fs = some T) : ∀ f ∈ fs, isF f.1 f.2 = true := by
  suffices ∀ (l : List (Int × Int)) (o : Option Nat) (T : Nat), l.foldl (fun o f => o.bind fun t => chk1 t f) o = some T → ∀ f ∈ l, isF f.1 f.2 = true from this fs (some 0) T h
  intro l
  induction l with
  | nil => intro _ _ _ f hf; cases hf
  | cons g l ih =>
    intro o T h f hf
    rcases List.mem_cons.1 hf with e | e
    · subst e
      cases hg : isF f.1 f.2 with
      | true => rfl
      | false =>
        have hn : (o.bind fun t => chk1 t f) = none := by cases o <;> simp [chk1, hg]
        simp only [List.foldl_cons, hn] at h
        have : ∀ l : List (Int × Int), l.foldl (fun o f => o.bind fun t => chk1 t f) (none : Option Nat) = none := fun l => by
          induction l with
          | nil => rfl
          | cons x l ih => exact ih
        rw [this] at h; cases h
    · exact ih _ _ h f e

/-- What a word has in each field, as cells. -/
def splitV (w : Nat) (fs : List (Int × Int)) : List Value := fs.map fun f => .int .u64 (getN w f.1.toNat f.2.toNat : Nat)
def SplitOk (B w : Nat) (fs : List (Int × Int)) (e : Ending) (w' : World) : Prop :=
  ∃ v', e = .returned (.tuple #[v', .int .i64 0]) ∧ w'.ownsRow B 23 1 v' fs.length (splitV w fs)

set_option maxHeartbeats 1000000 in
theorem split_no (w : Nat) (v : Value) (fs : List (Int × Int)) (W : World) (hv : FieldsAt W v fs) (hlen : fs.length ≤ 1099511627776) (hc : chkTo fs = none) :
    Calls Try.prog 14 #[.int .u64 w, v] W fun e w' => e = .returned (.tuple #[.slice none 0 0, .int .i64 110]) ∧ Below W.heap.size W w' := by
  have he : chkE fs = 110 := by simp [chkE, hc]
  go_enter Try.func14, Try.ntmps14
  go_wp2_with fail
  refine (check_c v fs _ hv (by omega)).mono ?_
  rintro e w1 ⟨rfl, hb1⟩
  rw [he]
  go_wp2
  go_ret2
  exact ⟨rfl, hb1⟩

theorem owns_below {B : Nat} {E : TypeId} {size : Nat} {v : Value} {n : Nat} {xs : List Value} {X Y : World} (h : X.ownsRow B E size v n xs) (hb : Below X.heap.size X Y) : Y.ownsRow B E size v n xs := by
  refine ⟨h.1, ?_⟩
  rcases h.2 with h' | ⟨g, cap, cur, h1, h2, h3, h4⟩
  · exact .inl h'
  · exact .inr ⟨g, cap, cur, h1, h2, (hb.block g (Array.getElem?_eq_some_iff.1 h3).1).trans h3, h4⟩
/-- The row behind i rounds. -/
def splitRow (w : Nat) (fs : List (Int × Int)) (i : Nat) : List Value := splitV w (fs.take i) ++ List.replicate (fs.length - i) (.int .u64 0)
theorem splitRow_zero (w : Nat) (fs : List (Int × Int)) : splitRow w fs 0 = (madeCells (Value.int .u64 0).cells (fs.length * 1)).toList := by
  unfold splitRow splitV madeCells
  refine List.ext_getElem (by simp) fun i h1 h2 => by simp [Nat.mod_one, Value.cells]
theorem splitRow_step (w : Nat) (fs : List (Int × Int)) (i : Nat) (h : i < fs.length) :
    (splitRow w fs i).set i (.int .u64 (getN w fs[i].1.toNat fs[i].2.toNat : Nat)) = splitRow w fs (i + 1) := by
  have hl : (splitV w (fs.take i)).length = i := by simp [splitV]; omega
  unfold splitRow
  rw [List.set_append_right _ _ (by omega), hl, Nat.sub_self, show fs.length - i = (fs.length - (i + 1)) + 1 by omega, List.replicate_succ, List.set_cons_zero, List.take_succ_eq_append_getElem h]
  unfold splitV
  rw [List.map_append, List.append_assoc]
  rfl
theorem splitRow_end (w : Nat) (fs : List (Int × Int)) : splitRow w fs fs.length = splitV w fs := by simp [splitRow]
theorem splitRow_length (w : Nat) (fs : List (Int × Int)) (i : Nat) (h : i ≤ fs.length) : (splitRow w fs i).length = fs.length := by simp [splitRow, splitV]; omega

theorem info64 : (Try.prog.info? 23).map (fun i => (i.zero, i.size, i.bytes)) = some (some (.int .u64 0), 1, 8) := by kernel_rfl

set_option maxHeartbeats 4000000 in
theorem split_yes (w : Nat) (hw : w < 18446744073709551616) (v : Value) (fs : List (Int × Int)) (W : World) (hv : FieldsAt W v fs) (hlen : fs.length ≤ 1099511627776) (T : Nat) (hc : chkTo fs = some T) :
    Calls Try.prog 14 #[.int .u64 w, v] W fun e w' => SplitOk W.heap.size w fs e w' ∧ Below W.heap.size W w' := by
  have he : chkE fs = 0 := by simp [chkE, hc]
  have hfs := chk_field hc
  obtain ⟨i0, hi, hz0, hz1, hz2⟩ := info_parts info64
  have hvv := hv
  obtain ⟨p, cap, rfl, hrange, hcells⟩ := hv
  go_enter Try.func14, Try.ntmps14
  go_wp2_with fail
  refine (check_c _ fs _ hvv (by omega)).mono ?_
  rintro e w1 ⟨rfl, hb1⟩
  rw [he]
  obtain ⟨w2, hrun, hown, hgrow⟩ := run_make_full (P := Try.prog) w1 w1.heap.size 24 23 i0 (.int .u64 0) 1 Try.underlying24 hi hz0 hz1 .i64 .i64 fs.length (by rw [hz2]; omega) (by unfold maxLen; omega) (Nat.le_refl _)
  have hB2 : Below W.heap.size W w2 := hb1.grown hgrow hb1.size (fun k e => by cases e)
  go_wp2_with fail
  obtain ⟨g, hg⟩ : ∃ g, g = w1.heap.size := ⟨_, rfl⟩
  have hgW : W.heap.size ≤ g := by rw [hg]; exact hb1.size
  have hown0 : w2.ownsRow W.heap.size 23 1 (.slice (some ⟨g, 0, none⟩) fs.length fs.length) fs.length (splitRow w fs 0) := by
    rw [splitRow_zero, hg]; exact hown.mono hb1.size
  rw [← hg]
  clear hrun hown hgrow hb1 hg
  go_loopw [20] (fun iv wr => ∃ i : Nat, i ≤ fs.length ∧ iv = .int .i64 i ∧ wr.ownsRow W.heap.size 23 1 (.slice (some ⟨g, 0, none⟩) fs.length fs.length) fs.length (splitRow w fs i) ∧ Below W.heap.size W wr) (fun iv _ => fs.length - (intOf iv).toNat)
  case atStart => exact ⟨0, Nat.zero_le _, rfl, hown0, hB2⟩
  case round =>
    obtain ⟨i, hi2, rfl, hown, hB⟩ := hrel
    by_cases hlt : i < fs.length
    · obtain ⟨b, off, rfl, hcs⟩ := hcells (by intro e; rw [e] at hlt; cases hlt)
      obtain ⟨hx, hy⟩ := hcs i hlt
      have hstep := splitRow_step w fs i hlt
      have hf := hfs _ (List.getElem_mem hlt)
      obtain ⟨⟨a, k⟩, hak⟩ : ∃ f, f = fs[i] := ⟨_, rfl⟩
      rw [← hak] at hx hy hf hstep
      simp only at hx hy hf hstep
      obtain ⟨f1, f2, f3⟩ := isF_iff.1 hf
      obtain ⟨a, rfl⟩ := Int.eq_ofNat_of_zero_le f2
      obtain ⟨k, rfl⟩ := Int.eq_ofNat_of_zero_le (show 0 ≤ k by omega)
      simp only [Int.toNat_natCast] at hstep
      have hx' := (hB.cell (World.block_lt_of_cell? W _ hx)).trans hx
      have hy' := (hB.cell (World.block_lt_of_cell? W _ hy)).trans hy
      have HS := Lib.hid hstep
      clear hx hy hcs hak hf hstep
      go_wp2_with fail
      refine (of_c w a k hw (by omega) _).mono ?_
      rintro e w3 ⟨rfl, hb3⟩
      have hown3 := owns_below (hown.alloc _) hb3
      have hB3 := below_then (hB.alloc hB.size _) (by have := hB.size; simp; omega) hb3
      have hsl := hown3.cellAt i (by omega)
      rw [List.getElem?_eq_getElem (by rw [splitRow_length w fs i hi2]; exact hlt)] at hsl
      have hfr := hown3.frozenAt i
      obtain ⟨u, hu⟩ : ∃ u, u = (splitRow w fs i)[i]'(by rw [splitRow_length w fs i hi2]; exact hlt) := ⟨_, rfl⟩
      rw [← hu] at hsl
      clear hb3 hu
      have hst := (hown3.stored i (.int .u64 (getN w a k : Nat))).1
      rw [HS.out] at hst
      go_wp2
      go_roundw
      case rel => exact ⟨i + 1, by omega, by go_num, hst, hB3.setCell (p := ⟨g, i, none⟩) hgW _⟩
      case measure => simp [intOf]; omega
    · obtain rfl : i = fs.length := by omega
      rw [splitRow_end] at hown
      go_wp2
      go_ret2
      exact ⟨⟨_, rfl, hown⟩, hB⟩

end Go.Proofs.Ytejendpkkdmjhaa
