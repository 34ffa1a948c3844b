/-
  memory.New, called with 2: two words, all free, of 0; what was in memory stays.
  Conditions: none.
-/
import Derived.Test.YtcledklajcdfiaaMNew
import Derived.Test.YtcledklajcdfiaaMLive
import Derived.Test.YtcledklajcdfiaaQLay
namespace Go.Proofs.Ytcledklajcdfiaa
open Go.RowKit Go.Shelf

/-- What New hands over. -/
def NewOk2 (B : Nat) (e : Ending) (w' : World) : Prop :=
  ∃ v', e = .returned (.tuple #[v', .int .i64 0]) ∧ OwnsMem w' B v' (List.replicate 2 0) (List.replicate 2 false) false

set_option maxRecDepth 100000 in
set_option maxHeartbeats 4000000 in
theorem new2_c (W : World) : Calls Try.prog 45 #[.int .i64 2] W fun e w' => NewOk2 W.heap.size e w' ∧ Below W.heap.size W w' := by
  obtain ⟨i0, hi, hz0, hz1, hz2⟩ := info_parts word_info
  obtain ⟨i1, hj, hy0, hy1, hy2⟩ := info_parts bool_info
  obtain ⟨c8, hc8⟩ : ∃ c : Array Value, c = madeCells (Value.int .u64 0).cells 2 := ⟨_, rfl⟩
  obtain ⟨b8, hb8⟩ : ∃ c : Array Value, c = madeCells (Value.bool false).cells 2 := ⟨_, rfl⟩
  have hm1 : ∀ w, (Instr.makeSlice 43 (.int .i64 2) (.int .i64 2)).run Try.prog w = .ok (.slice (some ⟨w.heap.size, 0, none⟩) 2 2) (w.alloc (.cells c8 22)) := fun w => by
    have := run_make (P := Try.prog) w 43 22 i0 (.int .u64 0) Try.underlying43 hi hz0 .i64 .i64 2 2 (by decide) (by decide) (by rw [hz2]; decide) (by decide)
    rw [this, hc8, hz1]; rfl
  have hm2 : ∀ w, (Instr.makeSlice 44 (.int .i64 2) (.int .i64 2)).run Try.prog w = .ok (.slice (some ⟨w.heap.size, 0, none⟩) 2 2) (w.alloc (.cells b8 4)) := fun w => by
    have := run_make (P := Try.prog) w 44 4 i1 (.bool false) Try.underlying44 hj hy0 .i64 .i64 2 2 (by decide) (by decide) (by rw [hy2]; decide) (by decide)
    rw [this, hb8, hy1]; rfl
  have HC := Lib.hid (show c8.toList = (List.replicate 2 (0 : Int)).map (Value.int .u64) by rw [hc8, List.map_replicate]; exact toList_madeCells_one _ 2)
  have HB := Lib.hid (show b8.toList = (List.replicate 2 false).map Value.bool by rw [hb8, List.map_replicate]; exact toList_madeCells_one _ 2)
  have HC8 := Lib.hid (show c8.size = 2 * 1 by rw [hc8, size_madeCells])
  have HB8 := Lib.hid (show b8.size = 2 * 1 by rw [hb8, size_madeCells])
  clear hc8 hb8 hi hj hz0 hz1 hz2 hy0 hy1 hy2
  go_enter Try.func45, Try.ntmps45
  go_wp2
  go_region
  all_goals go_wp2
  · have ho1 := (World.ownsRow_lit (base := W.heap.size) (e := 22) (size := 1) (W.alloc (.cells #[.slice (some ⟨W.heap.size + 1, 0, none⟩) 2 2, .slice (some ⟨W.heap.size + 1 + 1, 0, none⟩) 2 2, .bool false] 46)) c8 2 (by simp) (by decide) HC8.out).alloc (.cells b8 4)
    have ho2 := World.ownsRow_lit (base := W.heap.size) (e := 4) (size := 1) ((W.alloc (.cells #[.slice (some ⟨W.heap.size + 1, 0, none⟩) 2 2, .slice (some ⟨W.heap.size + 1 + 1, 0, none⟩) 2 2, .bool false] 46)).alloc (.cells c8 22)) b8 2 (by simp; omega) (by decide) HB8.out
    rw [World.size_alloc] at ho1
    rw [World.size_alloc, World.size_alloc] at ho2
    refine bodyPost_ret (v := .tuple #[.agg #[.slice (some ⟨W.heap.size + 1, 0, none⟩) 2 2, .slice (some ⟨W.heap.size + 1 + 1, 0, none⟩) 2 2, .bool false], .int .i64 0]) (by simp [results, Try.results45, go_sem]) rfl ⟨⟨_, rfl, _, _, rfl, ?_, ?_⟩, ((((Below.refl _ _).alloc (Nat.le_refl _) _).alloc (by simp) _).alloc (by simp; omega) _).drew⟩
    · rw [HC.out] at ho1; exact ho1.drew
    · rw [HB.out] at ho2; exact ho2.drew
  · have ho1 := (World.ownsRow_lit (base := W.heap.size) (e := 4) (size := 1) (W.alloc (.cells #[.slice (some ⟨W.heap.size + 1 + 1, 0, none⟩) 2 2, .slice (some ⟨W.heap.size + 1, 0, none⟩) 2 2, .bool false] 46)) b8 2 (by simp) (by decide) HB8.out).alloc (.cells c8 22)
    have ho2 := World.ownsRow_lit (base := W.heap.size) (e := 22) (size := 1) ((W.alloc (.cells #[.slice (some ⟨W.heap.size + 1 + 1, 0, none⟩) 2 2, .slice (some ⟨W.heap.size + 1, 0, none⟩) 2 2, .bool false] 46)).alloc (.cells b8 4)) c8 2 (by simp; omega) (by decide) HC8.out
    rw [World.size_alloc] at ho1
    rw [World.size_alloc, World.size_alloc] at ho2
    refine bodyPost_ret (v := .tuple #[.agg #[.slice (some ⟨W.heap.size + 1 + 1, 0, none⟩) 2 2, .slice (some ⟨W.heap.size + 1, 0, none⟩) 2 2, .bool false], .int .i64 0]) (by simp [results, Try.results45, go_sem]) rfl ⟨⟨_, rfl, _, _, rfl, ?_, ?_⟩, ((((Below.refl _ _).alloc (Nat.le_refl _) _).alloc (by simp) _).alloc (by simp; omega) _).drew⟩
    · rw [HC.out] at ho2; exact ho2.drew
    · rw [HB.out] at ho1; exact ho1.drew

theorem lay_two : layM [0, 0] [true, true] false 0 = (([0, 0], false), ((0, true), (0, true))) := by kernel_rfl
theorem qlay_two (v : Value) (W : World) (hv : MemAt W v [0, 0] [true, true] false) :
    Calls Try.prog 20 #[v, .int .i64 0] W fun e w' => (∃ gw cw gl cl, e = .returned (.tuple #[.agg #[.slice (some ⟨gw, 0, none⟩) 2 cw, .slice (some ⟨gl, 0, none⟩) 2 cl, .bool false], .int .i64 0]) ∧
      w'.ownsRow W.heap.size 22 1 (.slice (some ⟨gw, 0, none⟩) 2 cw) 2 (([0, 0] : List Int).map (Value.int .u64)) ∧ w'.ownsRow W.heap.size 4 1 (.slice (some ⟨gl, 0, none⟩) 2 cl) 2 ([true, true].map Value.bool)) ∧ Below W.heap.size W w' :=
  (qlay v [0, 0] [true, true] false 0 W hv (by decide) (by decide)).mono fun e w' h => by
    rw [lay_two] at h
    obtain ⟨⟨_, _, x, y, he, h1, h2⟩ | ⟨h, _⟩, h3⟩ := h
    · obtain ⟨gw, cw, rfl, _⟩ := own_form h1 (by decide)
      obtain ⟨gl, cl, rfl, _⟩ := own_form h2 (by decide)
      exact ⟨⟨gw, cw, gl, cl, he, h1, h2⟩, h3⟩
    · cases h

set_option maxRecDepth 100000 in
set_option maxHeartbeats 8000000 in
theorem qlaid (W : World) : Calls Try.prog 31 #[] W fun e w' => (∃ gw cw gl cl, e = .returned (.tuple #[.agg #[.slice (some ⟨gw, 0, none⟩) 2 cw, .slice (some ⟨gl, 0, none⟩) 2 cl, .bool false], .bool true]) ∧
      w'.ownsRow W.heap.size 22 1 (.slice (some ⟨gw, 0, none⟩) 2 cw) 2 (([0, 0] : List Int).map (Value.int .u64)) ∧ w'.ownsRow W.heap.size 4 1 (.slice (some ⟨gl, 0, none⟩) 2 cl) 2 ([true, true].map Value.bool)) ∧ Below W.heap.size W w' := by
  have hB : Below W.heap.size W (W.alloc (.cells #[.slice none 0 0, .slice none 0 0, .bool false] 46)) := (Below.refl _ _).alloc (Nat.le_refl _) _
  have HR := Lib.hid (MBox.new W (.slice none 0 0) (.slice none 0 0) false)
  go_enter Try.func31, Try.ntmps31
  go_wp2_with fail
  refine (new2_c _).mono ?_
  rintro e w1 ⟨⟨_, rfl, vw, vl, rfl, how, hol⟩, hb1⟩
  have HR1 := Lib.hid (HR.out.below hb1)
  have hB1 := below_then hB hB.size hb1
  clear hb1 hB HR
  obtain ⟨gw, cw, rfl, hgw, hgw3⟩ := own_form how (by decide)
  obtain ⟨gl, cl, rfl, hgl, hgl3⟩ := own_form hol (by decide)
  have hcapl := (own_cap hol).1
  have hb2 : Below w1.heap.size w1 (w1.alloc (.cells #[.slice (some ⟨gw, 0, none⟩) 2 cw, .slice (some ⟨gl, 0, none⟩) 2 cl, .bool false] 46)) := (Below.refl _ _).alloc (Nat.le_refl _) _
  have hmem : MemAt (w1.alloc (.cells #[.slice (some ⟨gw, 0, none⟩) 2 cw, .slice (some ⟨gl, 0, none⟩) 2 cl, .bool false] 46)) (.agg #[.slice (some ⟨gw, 0, none⟩) 2 cw, .slice (some ⟨gl, 0, none⟩) 2 cl, .bool false]) (List.replicate 2 0) (List.replicate 2 false) false :=
    ⟨_, _, rfl, nums_of_owns (by decide) (owns_below how hb2), bools_of_owns (by decide) (owns_below hol hb2)⟩
  have HLIVE := Lib.hid (live_yes _ _ _ false 0 2 _ hmem (by intro x y p n c e; injection e with e; injection e with e; injection e with _ e; injection e with e _; injection e with _ e1 e2; subst e1; subst e2; exact hcapl) (by decide) (by decide) (by decide) (by decide) (by decide))
  have HZ2 := Lib.hid (MBox.new w1 (.slice (some ⟨gw, 0, none⟩) 2 cw) (.slice (some ⟨gl, 0, none⟩) 2 cl) false)
  have HR2 := Lib.hid (HR1.out.below hb2)
  have hB2 := below_then hB1 hB1.size hb2
  have hzb : W.heap.size < w1.heap.size := HR1.out.lt
  obtain ⟨z, hz⟩ : ∃ z, z = w1.heap.size := ⟨_, rfl⟩
  have HZZ := Lib.hid hz
  clear hmem hb2 how hol hB1 HR1 hz
  go_wp2_with fail
  refine HLIVE.out.mono ?_
  rintro e w3 ⟨⟨_, rfl, vw2, vl2, rfl, how2, hol2⟩, hb3⟩
  obtain ⟨gw2, cw2, rfl, hgw2, hgw4⟩ := own_form how2 (by decide)
  obtain ⟨gl2, cl2, rfl, hgl2, hgl4⟩ := own_form hol2 (by decide)
  have e1 : fill (List.replicate 2 (0 : Int)) (Int.toNat 0) 0 (Int.toNat 2) = [0, 0] := by decide
  have e2 : fill (List.replicate 2 false) (Int.toNat 0) true (Int.toNat 2) = [true, true] := by decide
  rw [e1, e2]
  rw [e1] at how2
  rw [e2] at hol2
  rw [show ([0, 0] : List Int).length = 2 from rfl] at how2 ⊢
  rw [show ([true, true] : List Bool).length = 2 from rfl] at hol2 ⊢
  rw [World.size_alloc, ← HZZ.out] at hgw2 hgl2
  have hz3 := HZ2.out.below hb3
  rw [← HZZ.out] at hz3 hzb ⊢
  have hr3 := HR2.out.below hb3
  obtain ⟨⟨hd0, hd1, hd2⟩, he0, he1, he2⟩ := mbox_cells hz3
  obtain ⟨w4, hw4⟩ : ∃ w4 : World, w4 = ((w3.setCell ⟨z, 0, none⟩ (.slice (some ⟨gw2, 0, none⟩) 2 cw2)).setCell ⟨z, 1, none⟩ (.slice (some ⟨gl2, 0, none⟩) 2 cl2)).setCell ⟨z, 2, none⟩ (.bool false) := ⟨_, rfl⟩
  have hkz : Keeps (· = z) w3 w4 := by
    rw [hw4]
    exact ((Keeps.setCell w3 (S := (· = z)) (p := ⟨z, 0, none⟩) rfl _).trans (Keeps.setCell _ (S := (· = z)) (p := ⟨z, 1, none⟩) rfl _)).trans (Keeps.setCell _ (S := (· = z)) (p := ⟨z, 2, none⟩) rfl _)
  have HZ4 := Lib.hid (show MBox w4 z (.slice (some ⟨gw2, 0, none⟩) 2 cw2) (.slice (some ⟨gl2, 0, none⟩) 2 cl2) false by rw [hw4]; exact hz3.set _ _ _)
  have HR4 := Lib.hid (hr3.keeps hkz (fun e => by have e : W.heap.size = z := e; omega))
  have how4 := hkz.row how2 (fun q hq e => by have e : q = z := e; simp [Value.ownBlock] at hq; omega)
  have hol4 := hkz.row hol2 (fun q hq e => by have e : q = z := e; simp [Value.ownBlock] at hq; omega)
  have HLAY := Lib.hid (qlay_two (.agg #[.slice (some ⟨gw2, 0, none⟩) 2 cw2, .slice (some ⟨gl2, 0, none⟩) 2 cl2, .bool false]) w4 ⟨_, _, rfl, nums_of_owns (by decide) how4, bools_of_owns (by decide) hol4⟩)
  have HB4 := Lib.hid ((below_then hB2 hB2.size hb3).trans (hkz.below (below_then hB2 hB2.size hb3).size (fun q hq => by have e : q = z := hq; omega)))
  have HW4 := Lib.hid hw4
  clear hw4 hkz how2 hol2 how4 hol4 hz3 hr3 hb3 hB2 e1 e2 HLIVE HZ2 HR2 hgw hgl hgw3 hgl3 hgw2 hgl2 hgw4 hgl4
  go_upto_region 3 with (fail)
  rw [← HW4.out]
  clear hd0 hd1 hd2 he0 he1 he2
  obtain ⟨⟨hd0, hd1, hd2⟩, _⟩ := mbox_cells HZ4.out
  go_wp2_with fail
  refine HLAY.out.mono ?_
  rintro e w5 ⟨⟨gw3, cw3, gl3, cl3, rfl, how, hol⟩, hb5⟩
  have hz5 := HZ4.out.below hb5
  have hr5 := HR4.out.below hb5
  have hB5 := below_then HB4.out HB4.out.size hb5
  have hz4 := HZ4.out.lt
  clear hd0 hd1 hd2
  obtain ⟨⟨hd0, hd1, hd2⟩, he0, he1, he2⟩ := mbox_cells hz5
  obtain ⟨w6, hw6⟩ : ∃ w6 : World, w6 = ((w5.setCell ⟨z, 0, none⟩ (.slice (some ⟨gw3, 0, none⟩) 2 cw3)).setCell ⟨z, 1, none⟩ (.slice (some ⟨gl3, 0, none⟩) 2 cl3)).setCell ⟨z, 2, none⟩ (.bool false) := ⟨_, rfl⟩
  have hkz : Keeps (· = z) w5 w6 := by
    rw [hw6]
    exact ((Keeps.setCell w5 (S := (· = z)) (p := ⟨z, 0, none⟩) rfl _).trans (Keeps.setCell _ (S := (· = z)) (p := ⟨z, 1, none⟩) rfl _)).trans (Keeps.setCell _ (S := (· = z)) (p := ⟨z, 2, none⟩) rfl _)
  have hz6 : MBox w6 z (.slice (some ⟨gw3, 0, none⟩) 2 cw3) (.slice (some ⟨gl3, 0, none⟩) 2 cl3) false := by rw [hw6]; exact hz5.set _ _ _
  have hr6 := hr5.keeps hkz (fun e => by have e : W.heap.size = z := e; omega)
  have HOW := Lib.hid (hkz.row how (fun q hq e => by have e : q = z := e; have := (how.lt q hq).1; omega))
  have HOL := Lib.hid (hkz.row hol (fun q hq e => by have e : q = z := e; have := (hol.lt q hq).1; omega))
  have HB6 := Lib.hid (hB5.trans (hkz.below hB5.size (fun q hq => by have e : q = z := hq; omega)))
  have HW6 := Lib.hid hw6
  have HR6 := Lib.hid hr6
  have HZ6 := Lib.hid hz6
  have hw4s := HB4.out.size
  clear hw6 hkz how hol hz5 hr5 hb5 hB5 HLAY hr6 hz6
  go_upto_region 4 with (fail)
  rw [← HW6.out]
  clear hd0 hd1 hd2 he0 he1 he2
  obtain ⟨⟨hd0, hd1, hd2⟩, _⟩ := mbox_cells HZ6.out
  obtain ⟨⟨hr0, hr1, hr2⟩, hs0, hs1, hs2⟩ := mbox_cells HR6.out
  go_wp2
  obtain ⟨w7, hw7⟩ : ∃ w7 : World, w7 = ((w6.setCell ⟨W.heap.size, 0, none⟩ (.slice (some ⟨gw3, 0, none⟩) 2 cw3)).setCell ⟨W.heap.size, 1, none⟩ (.slice (some ⟨gl3, 0, none⟩) 2 cl3)).setCell ⟨W.heap.size, 2, none⟩ (.bool false) := ⟨_, rfl⟩
  rw [← hw7]
  have hk : Keeps (· = W.heap.size) w6 w7 := by
    rw [hw7]
    exact ((Keeps.setCell w6 (S := (· = W.heap.size)) (p := ⟨W.heap.size, 0, none⟩) rfl _).trans (Keeps.setCell _ (S := (· = W.heap.size)) (p := ⟨W.heap.size, 1, none⟩) rfl _)).trans (Keeps.setCell _ (S := (· = W.heap.size)) (p := ⟨W.heap.size, 2, none⟩) rfl _)
  have hM : MBox w7 W.heap.size (.slice (some ⟨gw3, 0, none⟩) 2 cw3) (.slice (some ⟨gl3, 0, none⟩) 2 cl3) false := by rw [hw7]; exact HR6.out.set _ _ _
  obtain ⟨⟨r0, r1, r2⟩, _⟩ := mbox_cells hM
  have hrow : ∀ {E : TypeId} {s m : Nat} {u : Value} {us : List Value}, w6.ownsRow w4.heap.size E s u m us → w7.ownsRow W.heap.size E s u m us := fun hr => (hk.row hr (fun q hq e => by have e : q = W.heap.size := e; have := (hr.lt q hq).1; omega)).mono (by omega)
  refine bodyPost_ret (v := .tuple #[.agg #[.slice (some ⟨gw3, 0, none⟩) 2 cw3, .slice (some ⟨gl3, 0, none⟩) 2 cl3, .bool false], .bool true]) (by simp [results, Try.results31, go_sem, r0, r1, r2]) rfl ?_
  exact ⟨⟨_, _, _, _, rfl, hrow HOW.out, hrow HOL.out⟩, HB6.out.trans (hk.below HB6.out.size (fun q hq => by have e : q = W.heap.size := hq; omega))⟩

end Go.Proofs.Ytcledklajcdfiaa
