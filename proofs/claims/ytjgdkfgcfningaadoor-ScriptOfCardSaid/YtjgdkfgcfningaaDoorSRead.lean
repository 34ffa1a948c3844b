/-
  Read, of package script: the script that words say.
  Conditions: at most 2 to the power 40 words; the package's table of parts is as it was laid.
-/
import Derived.Test.YtjgdkfgcfningaaDoorSRd3
namespace Go.Proofs.YtjgdkfgcfningaaDoor
open Go.RowKit Go.Shelf
attribute [local go_sem] Oper.semAt_some

/-- Words that come in. -/
structure WAt (w : World) (p : Option Addr) (n d : Nat) (ws : List Nat) : Prop where
  nums : NumsAt w .u64 (.slice p n d) (ws.map Int.ofNat)
  len : n = ws.length
  room : n ≤ d
  big : ∀ x ∈ ws, x < 18446744073709551616
theorem WAt.left {w : World} {p : Option Addr} {n d : Nat} {ws : List Nat} (h : WAt w p n d ws) : Left w w.heap.size p n d ws := by
  refine ⟨h.nums, h.len, h.room, fun hne a ha => ?_, h.big⟩
  obtain ⟨q, cap, e, hc⟩ := h.nums
  injection e with e1 e2 e3
  obtain ⟨b, off, hq, hcs⟩ := hc (by simpa using hne)
  have h0 := hcs 0 (by rw [List.length_map]; exact List.length_pos_iff.2 hne)
  have h1 := World.block_lt_of_cell? w _ h0
  rw [← e1, ha] at hq
  injection hq with hq
  rw [hq]; exact h1
theorem WAt.below {w w' : World} {p : Option Addr} {n d : Nat} {ws : List Nat} (h : WAt w p n d ws) (hb : Below w.heap.size w w') : WAt w' p n d ws := ⟨nums_below h.nums hb, h.len, h.room, h.big⟩
theorem rows_info : (Tryd.prog.info? 47).map (fun i => (i.zero, i.size, i.bytes)) = some (some (.slice none 0 0), 1, 24) := by kernel_rfl
theorem run_makeC (n : Nat) (hn : n ≤ 1099511627776) (w : World) : (Instr.makeSlice 22 (.int .i64 (n : Int)) (.int .i64 (n : Int))).run Tryd.prog w = .ok (.slice (some ⟨w.heap.size, 0, none⟩) n n) (w.alloc (.cells (List.replicate n (Value.slice none 0 0)).toArray 47)) := by
  obtain ⟨i0, hi, hz0, hz1, hz2⟩ := info_parts rows_info
  have := run_make (P := Tryd.prog) w 22 47 i0 (.slice none 0 0) Tryd.underlying22 hi hz0 .i64 .i64 (n : Int) (n : Int) (by omega) (by omega) (by rw [hz2]; omega) (by omega)
  rw [this, hz1]
  have e : madeCells (Value.slice none 0 0).cells ((n : Int).toNat * 1) = (List.replicate n (Value.slice none 0 0)).toArray := by
    apply Array.toList_inj.1
    rw [List.toList_toArray, Nat.mul_one, Int.toNat_natCast]
    exact toList_madeCells_one _ n
  rw [e]
  simp
theorem RowsC.new (w : World) (n : Nat) : RowsC (w.alloc (.cells (List.replicate n (Value.slice none 0 0)).toArray 47)) w.heap.size (List.replicate n (Value.slice none 0 0)) (List.replicate n []) :=
  ⟨World.alloc_heap_new w _, by simp, fun j hj hj2 => by rw [List.getElem_replicate, List.getElem_replicate]; exact World.ownsRow_nil _ _ _ _, fun a b ha hb _ g hg => by rw [List.getElem_replicate] at hg; cases hg⟩

set_option maxRecDepth 100000 in
set_option maxHeartbeats 4000000 in
theorem begin_c (p : Option Addr) (n d : Nat) (ws : List Nat) (W : World) (h : WAt W p n d ws) (hT : Tab W) :
    Calls Tryd.prog 34 #[.slice p n d] W fun e w' => e = .returned (.pointer (some ⟨W.heap.size, 0, none⟩)) ∧ (∃ z, Rdr w' W.heap.size z (cpusN (ws.headD 0)) (pagesN (ws.headD 0)) (List.replicate (cpusN (ws.headD 0)) [], []) ws.tail) ∧ Below W.heap.size W w' := by
  obtain ⟨f, hf⟩ : ∃ f, f = ws.headD 0 := ⟨_, rfl⟩
  have hfb : f < 18446744073709551616 := by
    rw [hf]
    cases ws with
    | nil => simp
    | cons x r => exact h.big x (by simp)
  obtain ⟨r, hr⟩ : ∃ r, r = W.heap.size := ⟨_, rfl⟩
  obtain ⟨wA, hwA⟩ : ∃ w : World, w = W.alloc (.cells #[.int .i64 0, .int .i64 0, .slice none 0 0, .slice none 0 0, .slice p n d] 76) := ⟨_, rfl⟩
  have hbA : Below r W wA := by rw [hwA, hr]; exact (Below.refl _ _).alloc (Nat.le_refl _) _
  have hbx : RBox wA r (.int .i64 0) (.int .i64 0) (.slice none 0 0) (.slice none 0 0) (.slice p n d) := by rw [hwA, hr]; exact World.alloc_heap_new _ _
  have hLA : Left wA r p n d ws := by have := h.left; rw [← hr] at this; exact this.below hbA (Nat.le_refl _)
  have hrs : wA.heap.size = r + 1 := by rw [hwA, hr]; simp
  have hTA : Tab wA := by have h1 := hbA; rw [hr] at h1; exact hT.below h1
  have hr0 : 0 < r := by rw [hr]; exact hT.lt
  -- next
  have HN : Calls Tryd.prog 37 #[.pointer (some ⟨r, 0, none⟩)] wA fun e w' => (∃ b, e = .returned (.tuple #[.int .u64 (f : Int), .bool b])) ∧ (∃ p' n' d', RBox w' r (.int .i64 0) (.int .i64 0) (.slice none 0 0) (.slice none 0 0) (.slice p' n' d') ∧ Left w' r p' n' d' ws.tail) ∧ Below r wA w' ∧ r < w'.heap.size := by
    cases ws with
    | nil =>
      have hn := hLA.len
      simp only [List.length_nil] at hn
      subst hn
      refine (next_no r d p _ _ _ _ wA hbx).mono ?_
      rintro e w' ⟨rfl, rfl⟩
      exact ⟨⟨false, by rw [hf]; rfl⟩, ⟨p, 0, d, hbx, hLA⟩, Below.refl _ _, hbx.lt⟩
    | cons x rest =>
      refine (next_yes r n d x p rest _ _ _ _ wA hbx hLA).mono ?_
      rintro e w' ⟨rfl, ⟨p', h1, h2⟩, _, h4⟩
      exact ⟨⟨true, by rw [hf]; rfl⟩, ⟨p', _, _, h1, h2⟩, h4, h1.lt⟩
  have HNN := Lib.hid HN
  have HTA := Lib.hid hTA
  have HBA := Lib.hid hbA
  have hg0 := getN_small f (i := 0) (by omega)
  have hg1 := getN_small f (i := 1) (by omega)
  obtain ⟨c0, hc0⟩ : ∃ x, x = getN f (partAt 0) (partW 0) := ⟨_, rfl⟩
  obtain ⟨g0, hg0'⟩ : ∃ x, x = getN f (partAt 1) (partW 1) := ⟨_, rfl⟩
  have HC0 := Lib.hid (show ∀ W', Tab W' → Calls Tryd.prog 38 #[.int .u64 f, .int .i64 0] W' fun e w' => e = .returned (.int .i64 (c0 : Nat)) ∧ Below W'.heap.size W' w' from fun W' ht => by rw [hc0]; exact part_c f hfb 0 (by omega) W' ht)
  have HC1 := Lib.hid (show ∀ W', Tab W' → Calls Tryd.prog 38 #[.int .u64 f, .int .i64 1] W' fun e w' => e = .returned (.int .i64 (g0 : Nat)) ∧ Below W'.heap.size W' w' from fun W' ht => by rw [hg0']; exact part_c f hfb 1 (by omega) W' ht)
  rw [← hc0] at hg0
  rw [← hg0'] at hg1
  have HCC := Lib.hid (show cpusN f = c0 + 1 by rw [hc0]; rfl)
  have HGG := Lib.hid (show pagesN f = g0 + 1 by rw [hg0']; rfl)
  have HR := Lib.hid hr
  have HWA := Lib.hid hwA
  rw [← hr, ← hf]
  have hmk := run_makeC (c0 + 1) (by omega)
  obtain ⟨cn, hcn⟩ : ∃ cn : Array Value, cn = (List.replicate (c0 + 1) (Value.slice none 0 0)).toArray := ⟨_, rfl⟩
  rw [← hcn] at hmk
  have hcast : ((c0 + 1 : Nat) : Int) = (c0 : Int) + 1 := by omega
  rw [hcast] at hmk
  have HCN := Lib.hid hcn
  clear hbx hLA hTA hbA HN hc0 hg0' hcn hwA hf h hT hcast hrs hr
  go_enter Tryd.func34, Tryd.ntmps34
  go_wp2_with fail
  rw [← HWA.out, ← HR.out]
  refine HNN.out.mono ?_
  rintro e w1 ⟨⟨bb, rfl⟩, ⟨p', n', d', hb1, hL1⟩, hB1, hr1⟩
  have HT1 := Lib.hid (HTA.out.old hB1 hr0)
  have HB1 := Lib.hid (HBA.out.trans hB1)
  have HX1 := Lib.hid (And.intro hb1 hL1)
  clear hb1 hL1 hB1 HNN HTA HBA HWA
  go_wp2_with fail
  refine (HC0.out _ HT1.out).mono ?_
  rintro e w2 ⟨rfl, hb2⟩
  have HT2 := Lib.hid (HT1.out.below hb2)
  have HB2 := Lib.hid (HB1.out.trans (hb2.mono (Nat.le_of_lt hr1)))
  have HX2 := Lib.hid (And.intro (HX1.out.1.below hb2) (HX1.out.2.below hb2 (Nat.le_of_lt hr1)))
  have hr2 : r < w2.heap.size := HX2.out.1.lt
  clear hb2 HX1 HB1 HT1
  go_wp2_with fail
  refine (HC1.out _ HT2.out).mono ?_
  rintro e w3 ⟨rfl, hb3⟩
  have HB3 := Lib.hid (HB2.out.trans (hb3.mono (Nat.le_of_lt hr2)))
  have hbx3 := HX2.out.1.below hb3
  have HX3 := Lib.hid (And.intro hbx3 (HX2.out.2.below hb3 (Nat.le_of_lt hr2)))
  obtain ⟨⟨h0, h1, h2, h3, h4⟩, hf⟩ := hbx3.cells
  have hf0 := hf 0
  have hf1 := hf 1
  have hrs3 : r < w3.heap.size := hbx3.lt
  clear hb3 HX2 HB2 HT2 hf hbx3 h2 h3 h4
  go_upto_region 4 with (fail)
  obtain ⟨w4, hw4⟩ : ∃ w : World, w = (w3.setCell ⟨r, 0, none⟩ (.int .i64 ((c0 : Int) + 1))).setCell ⟨r, 1, none⟩ (.int .i64 ((g0 : Int) + 1)) := ⟨_, rfl⟩
  rw [← hw4]
  have hb4 : RBox w4 r (.int .i64 ((c0 : Int) + 1)) (.int .i64 ((g0 : Int) + 1)) (.slice none 0 0) (.slice none 0 0) (.slice p' n' d') := by rw [hw4]; exact HX3.out.1.set01 _ _
  have hk4 : Keeps (fun q => q = r) w3 w4 := by rw [hw4]; exact (Keeps.setCell w3 (S := fun q => q = r) (p := ⟨r, 0, none⟩) rfl _).trans (Keeps.setCell _ (S := fun q => q = r) (p := ⟨r, 1, none⟩) rfl _)
  have hs4 : w4.heap.size = w3.heap.size := by rw [hw4]; simp [World.setCell]
  have hL4 := HX3.out.2.keeps hk4 (fun k hk e => by omega)
  have hB4 : Below r W w4 := HB3.out.trans (hk4.below (Nat.le_of_lt hrs3) (fun q hq => Nat.le_of_eq hq.symm))
  clear hw4 hk4 HX3 HB3 h0 h1 hf0 hf1
  obtain ⟨w5, hw5⟩ : ∃ w : World, w = w4.alloc (.cells cn 47) := ⟨_, rfl⟩
  have hbB : Below w4.heap.size w4 w5 := by rw [hw5]; exact (Below.refl _ _).alloc (Nat.le_refl _) _
  have hr4 := hb4.lt
  have hb5 := hb4.below hbB
  have hL5 := hL4.below hbB (Nat.le_of_lt hr4)
  have hB5 := hB4.trans (hbB.mono (Nat.le_of_lt hr4))
  have hR5 : RowsC w5 w4.heap.size (List.replicate (c0 + 1) (Value.slice none 0 0)) (List.replicate (c0 + 1) []) := by rw [hw5, HCN.out]; exact RowsC.new w4 (c0 + 1)
  have hmk4 := hmk w4
  rw [← hw5] at hmk4
  obtain ⟨⟨h0, -, -, -, -⟩, -⟩ := hb4.cells
  obtain ⟨⟨-, -, hc2, -, -⟩, hf⟩ := hb5.cells
  have hf2 := hf 2
  have HALL := Lib.hid (And.intro hb5 (And.intro hL5 (And.intro hB5 hR5)))
  clear hb4 hL4 hB4 hbB hb5 hL5 hB5 hR5 hf hmk hw5
  go_wp2
  have hb6 := HALL.out.1.set2 (.slice (some ⟨w4.heap.size, 0, none⟩) (c0 + 1) (c0 + 1))
  have hk6 : Keeps (fun q => q = r) w5 (w5.setCell ⟨r, 2, none⟩ (.slice (some ⟨w4.heap.size, 0, none⟩) (c0 + 1) (c0 + 1))) := Keeps.setCell w5 (S := fun q => q = r) (p := ⟨r, 2, none⟩) rfl _
  have HF := Lib.hid (show (∃ z, Rdr (w5.setCell ⟨r, 2, none⟩ (.slice (some ⟨w4.heap.size, 0, none⟩) (c0 + 1) (c0 + 1))) r z (cpusN f) (pagesN f) (List.replicate (cpusN f) [], []) ws.tail) ∧ Below r W (w5.setCell ⟨r, 2, none⟩ (.slice (some ⟨w4.heap.size, 0, none⟩) (c0 + 1) (c0 + 1))) from by
    rw [HCC.out, HGG.out]
    refine ⟨⟨w4.heap.size, _, _, _, _, _, ⟨hb6, HALL.out.2.2.2.keeps hk6 (by omega) (fun j hj q hq => by rw [List.getElem_replicate] at hq; cases hq), World.ownsRow_nil _ _ _ _, HALL.out.2.1.keeps hk6 (fun k hk e => by omega), hr4⟩⟩, HALL.out.2.2.1.trans (hk6.below (Nat.le_of_lt HALL.out.1.lt) (fun q hq => Nat.le_of_eq hq.symm))⟩)
  clear hb6 hk6
  go_ret
  exact ⟨rfl, by rw [← hs4]; exact HF.out⟩

end Go.Proofs.YtjgdkfgcfningaaDoor
