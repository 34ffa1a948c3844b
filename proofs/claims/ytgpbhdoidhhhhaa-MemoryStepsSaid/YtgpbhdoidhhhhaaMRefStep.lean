/-
  Step, of the document's answers of layer 2: the memory behind an access, and what it comes to; what was in memory stays.
  Conditions: the access is of a kind, and the memory may be.
-/
import Derived.Test.YtgpbhdoidhhhhaaMStepLib
namespace Go.Proofs.Ytgpbhdoidhhhhaa
open Go.RowKit Go.Shelf

set_option maxRecDepth 100000 in
set_option maxHeartbeats 4000000 in
theorem refStep_c (B : Nat) (x y : Value) (us : List Int) (ms : List Bool) (f : Bool) (k a o n : Int) (W : World) (h0 : W.ownsRow B 42 1 x us.length (us.map (Value.int .u64))) (h1 : W.ownsRow B 4 1 y ms.length (ms.map Value.bool)) (hB : B ≤ W.heap.size)
    (hk1 : 1 ≤ k) (hk3 : k ≤ 3) (hr : rightB us ms = true) :
    Calls Try.prog 22 #[.agg #[x, y, .bool f], .agg #[.int .i64 k, .int .i64 a, .int .u64 o, .int .u64 n]] W fun e w' => RefStep B ms (accM us ms f k a o n) e w' ∧ Below W.heap.size W w' := by
  obtain ⟨hn1, hn2, hlen, -⟩ := rightB_iff.1 hr
  obtain ⟨gw, cw, rfl, hgw, _⟩ := own_form h0 (by omega)
  obtain ⟨gl, cl, rfl, hgl, _⟩ := own_form h1 (by omega)
  obtain ⟨z, hz⟩ : ∃ z, z = W.heap.size := ⟨_, rfl⟩
  obtain ⟨wo, hwo⟩ : ∃ wo : World, wo = (((W.alloc (.cells #[.slice (some ⟨gw, 0, none⟩) us.length cw, .slice (some ⟨gl, 0, none⟩) ms.length cl, .bool f] 25)).alloc (.cells #[.int .i64 k, .int .i64 a, .int .u64 o, .int .u64 n] 44)).alloc (.cells #[.slice none 0 0, .slice none 0 0, .bool false] 25)).alloc (.cells #[.int .u64 0, .bool false] 47) := ⟨_, rfl⟩
  have hbo : Below W.heap.size W wo := by rw [hwo]; exact ((((Below.refl _ _).alloc (Nat.le_refl _) _).alloc (by simp) _).alloc (by simp; omega) _).alloc (by simp; omega) _
  have HZM := Lib.hid (show MBox wo z (.slice (some ⟨gw, 0, none⟩) us.length cw) (.slice (some ⟨gl, 0, none⟩) ms.length cl) f by rw [hwo, hz]; exact (((MBox.new _ _ _ _).alloc _).alloc _).alloc _)
  have HZA := Lib.hid (show AcBox wo (z + 1) k a o n by
    have : AcBox ((W.alloc (.cells #[.slice (some ⟨gw, 0, none⟩) us.length cw, .slice (some ⟨gl, 0, none⟩) ms.length cl, .bool f] 25)).alloc (.cells #[.int .i64 k, .int .i64 a, .int .u64 o, .int .u64 n] 44)) _ k a o n := World.alloc_heap_new _ _
    rw [World.size_alloc] at this
    rw [hwo, hz]; exact (this.keeps (Keeps.alloc (fun _ => False) _ _) (fun h => h)).keeps (Keeps.alloc (fun _ => False) _ _) (fun h => h))
  have HZ4 := Lib.hid (show MBox wo (z + 1 + 1) (.slice none 0 0) (.slice none 0 0) false by
    have := MBox.new ((W.alloc (.cells #[.slice (some ⟨gw, 0, none⟩) us.length cw, .slice (some ⟨gl, 0, none⟩) ms.length cl, .bool f] 25)).alloc (.cells #[.int .i64 k, .int .i64 a, .int .u64 o, .int .u64 n] 44)) (.slice none 0 0) (.slice none 0 0) false
    rw [World.size_alloc, World.size_alloc] at this
    rw [hwo, hz]; exact this.alloc _)
  have HZ5 := Lib.hid (show GBox wo (z + 1 + 1 + 1) 0 false by
    have : GBox ((((W.alloc (.cells #[.slice (some ⟨gw, 0, none⟩) us.length cw, .slice (some ⟨gl, 0, none⟩) ms.length cl, .bool f] 25)).alloc (.cells #[.int .i64 k, .int .i64 a, .int .u64 o, .int .u64 n] 44)).alloc (.cells #[.slice none 0 0, .slice none 0 0, .bool false] 25)).alloc (.cells #[.int .u64 0, .bool false] 47)) _ 0 false := World.alloc_heap_new _ _
    rw [World.size_alloc, World.size_alloc, World.size_alloc] at this
    rw [hwo, hz]; exact this)
  have HW0 := Lib.hid h0
  have HL0 := Lib.hid h1
  have HOW := Lib.hid (owns_below h0 hbo)
  have HOL := Lib.hid (owns_below h1 hbo)
  have HBO := Lib.hid hbo
  have HZ := Lib.hid hz
  have HLEN := Lib.hid hlen
  have hdM := (mbox_cells HZM.out).1
  have hfM := (mbox_cells HZM.out).2
  obtain ⟨hdm0, hdm1, hdm2⟩ := hdM
  obtain ⟨_, _, hfm2⟩ := hfM
  obtain ⟨hda0, hda1, hda2, hda3⟩ := HZA.out.cells
  obtain ⟨⟨hd40, hd41, hd42⟩, hf40, hf41, hf42⟩ := mbox_cells HZ4.out
  obtain ⟨⟨hd50, hd51⟩, hf50, hf51⟩ := gbox_cells HZ5.out
  rw [hwo] at hdm0 hdm1 hdm2 hfm2 hda0 hda1 hda2 hda3 hd40 hd41 hd42 hf40 hf41 hf42 hd50 hd51 hf50 hf51
  have HWO := Lib.hid hwo
  clear h0 h1 hbo hlen hwo
  by_cases hin : 0 ≤ a ∧ a < (us.length : Int)
  · obtain ⟨i, rfl⟩ := Int.eq_ofNat_of_zero_le hin.1
    have hlt : i < us.length := by omega
    have hlt2 : i < ms.length := by have := HLEN.out; omega
    have hilt : (i : Int) < (us.length : Int) := hin.2
    have hilt2 : (i : Int) < (ms.length : Int) := by omega
    have hcw := HOW.out.cellAt i (by omega)
    have hcl := HOL.out.cellAt i (by omega)
    rw [List.getElem?_eq_getElem (by simpa using hlt), List.getElem_map] at hcw
    rw [List.getElem?_eq_getElem (by simpa using hlt2), List.getElem_map] at hcl
    have HGD := Lib.hid (show us.getD (i : Int).toNat 0 = us[i] by rw [Int.toNat_natCast, List.getD_eq_getElem?_getD, List.getElem?_eq_getElem hlt]; rfl)
    have HLA := Lib.hid (show liveAt us ms (i : Int) = ms[i] by rw [liveAt, Int.toNat_natCast, List.getD_eq_getElem?_getD, List.getElem?_eq_getElem hlt2, Option.getD_some, thereB_iff.2 ⟨by omega, by omega, by omega⟩, Bool.true_and])
    obtain ⟨h, hh⟩ : ∃ h, h = us[i] := ⟨_, rfl⟩
    obtain ⟨b, hb⟩ : ∃ b, b = ms[i] := ⟨_, rfl⟩
    rw [← hh] at hcw HGD
    rw [← hb] at hcl HLA
    rw [HWO.out] at hcw hcl
    clear hh hb hin
    cases b
    · have HLV := Lib.hid (accM_out HLA.out f k o n)
      clear hdm0 hdm1 hdm2 hfm2 hda0 hda1 hda2 hda3 hd40 hd41 hd42 hf40 hf41 hf42 hd50 hd51 hf50 hf51
      go_enter Try.func22, Try.ntmps22
      go_wp2
      exact bodyPost_ret (v := .tuple #[.agg #[(.slice (some ⟨gw, 0, none⟩) us.length cw), (.slice (some ⟨gl, 0, none⟩) ms.length cl), .bool true], .agg #[.int .u64 0, .bool false]]) (by simp [results, Try.results22, go_sem]) rfl ⟨by rw [HLV.out]; exact ⟨_, rfl, _, _, rfl, (((HW0.out.alloc _).alloc _).alloc _).alloc _, (((HL0.out.alloc _).alloc _).alloc _).alloc _⟩, ((((Below.refl _ _).alloc (Nat.le_refl _) _).alloc (by simp) _).alloc (by simp; omega) _).alloc (by simp; omega) _⟩
    · by_cases h1 : k = 1
      · subst h1
        have HLV := Lib.hid (show accM us ms f 1 (i : Int) o n = (us, f, h, true) by rw [accM_load HLA.out, HGD.out])
        clear hdm0 hdm1 hdm2 hfm2 hda0 hda1 hda2 hda3 hd40 hd41 hd42 hf40 hf41 hf42 hd50 hd51 hf50 hf51
        go_enter Try.func22, Try.ntmps22
        go_wp2
        exact bodyPost_ret (v := .tuple #[.agg #[(.slice (some ⟨gw, 0, none⟩) us.length cw), (.slice (some ⟨gl, 0, none⟩) ms.length cl), .bool f], .agg #[.int .u64 h, .bool true]]) (by simp [results, Try.results22, go_sem]) rfl ⟨by rw [HLV.out]; exact ⟨_, rfl, _, _, rfl, (((HW0.out.alloc _).alloc _).alloc _).alloc _, (((HL0.out.alloc _).alloc _).alloc _).alloc _⟩, ((((Below.refl _ _).alloc (Nat.le_refl _) _).alloc (by simp) _).alloc (by simp; omega) _).alloc (by simp; omega) _⟩
      · by_cases h2 : k = 2
        · subst h2
          have HMS := Lib.hid (show ms.set i true = ms by have h1 := HLA.out; rw [liveAt, Int.toNat_natCast] at h1; simp only [Bool.and_eq_true] at h1; have h2 := h1.2; rw [List.getD_eq_getElem?_getD, List.getElem?_eq_getElem hlt2, Option.getD_some] at h2; have h3 : ms.set i ms[i] = ms := List.set_getElem_self hlt2; rwa [h2] at h3)
          obtain ⟨uN, huN⟩ : ∃ u, u = us.set i n := ⟨_, rfl⟩
          have HUN := Lib.hid huN
          clear huN
          have HLV := Lib.hid (show accM us ms f 2 (i : Int) o n = (uN, f, h, true) by rw [accM_store HLA.out, HGD.out, Int.toNat_natCast, HUN.out])
          go_enter Try.func22, Try.ntmps22
          go_wp2_with fail
          rw [← HWO.out]
          clear hdm0 hdm1 hdm2 hfm2 hda0 hda1 hda2 hda3 hd40 hd41 hd42 hf40 hf41 hf42 hd50 hd51 hf50 hf51 hcw hcl
          refine (with_c _ us ms f i n true wo ⟨_, _, rfl, nums_of_owns rfl HOW.out, bools_of_owns rfl HOL.out⟩ HLEN.out hn2).mono ?_
          rintro e w1 ⟨⟨_, rfl, _, _, rfl, h0, h1⟩, hb⟩
          obtain ⟨pN, cN, rfl⟩ := owns_slice h0
          obtain ⟨qN, dN, rfl⟩ := owns_slice h1
          rw [HMS.out] at h1 ⊢
          rw [← HUN.out] at h0 ⊢
          have hz4 := HZ4.out.below hb
          have hz5 := HZ5.out.below hb
          obtain ⟨⟨hd40, hd41, hd42⟩, hf40, hf41, hf42⟩ := mbox_cells hz4
          obtain ⟨⟨hd50, hd51⟩, hf50, hf51⟩ := gbox_cells hz5
          have hBw : B ≤ wo.heap.size := Nat.le_trans hB HBO.out.size
          have HE := Lib.hid (putR_owns (f := f) (g := h) (d := true) hz4 hz5 (h0.mono hBw) (h1.mono hBw))
          have HBE := Lib.hid ((below_then HBO.out HBO.out.size hb).trans ((putR_keeps w1 (z + 1 + 1) (.slice pN uN.length cN) (.slice qN ms.length dN) f h true).below (Nat.le_trans HBO.out.size hb.size) (fun q hq => by have hq : q = z + 1 + 1 ∨ q = z + 1 + 1 + 1 := hq; have := HZ.out; omega)))
          unfold putR at HE HBE
          clear HOW HOL HZ4 HZ5 HZM HWO HLEN h0 h1 hb hz4 hz5 hBw hz
          rw [HZ.out] at hd40 hd41 hd42 hf40 hf41 hf42 hd50 hd51 hf50 hf51 HE HBE
          go_wp2
          exact bodyPost_ret (v := .tuple #[.agg #[(.slice pN uN.length cN), (.slice qN ms.length dN), .bool f], .agg #[.int .u64 h, .bool true]]) (by simp [results, Try.results22, go_sem, hd40, hd41, hd42, hd50, hd51]) rfl ⟨by rw [HLV.out]; exact ⟨_, rfl, HE.out⟩, HBE.out⟩
        · obtain rfl : k = 3 := by omega
          by_cases hho : h = o
          · subst hho
            have hho' : (h != h) = false := by simp
            have HMS := Lib.hid (show ms.set i true = ms by have h1 := HLA.out; rw [liveAt, Int.toNat_natCast] at h1; simp only [Bool.and_eq_true] at h1; have h2 := h1.2; rw [List.getD_eq_getElem?_getD, List.getElem?_eq_getElem hlt2, Option.getD_some] at h2; have h3 : ms.set i ms[i] = ms := List.set_getElem_self hlt2; rwa [h2] at h3)
            obtain ⟨uN, huN⟩ : ∃ u, u = us.set i n := ⟨_, rfl⟩
            have HUN := Lib.hid huN
            clear huN
            have HLV := Lib.hid (show accM us ms f 3 (i : Int) h n = (uN, f, h, true) by rw [accM_yes HLA.out f h n HGD.out, HGD.out, Int.toNat_natCast, HUN.out])
            go_enter Try.func22, Try.ntmps22
            go_wp2_with fail
            rw [← HWO.out]
            clear hdm0 hdm1 hdm2 hfm2 hda0 hda1 hda2 hda3 hd40 hd41 hd42 hf40 hf41 hf42 hd50 hd51 hf50 hf51 hcw hcl
            refine (with_c _ us ms f i n true wo ⟨_, _, rfl, nums_of_owns rfl HOW.out, bools_of_owns rfl HOL.out⟩ HLEN.out hn2).mono ?_
            rintro e w1 ⟨⟨_, rfl, _, _, rfl, h0, h1⟩, hb⟩
            obtain ⟨pN, cN, rfl⟩ := owns_slice h0
            obtain ⟨qN, dN, rfl⟩ := owns_slice h1
            rw [HMS.out] at h1 ⊢
            rw [← HUN.out] at h0 ⊢
            have hz4 := HZ4.out.below hb
            have hz5 := HZ5.out.below hb
            obtain ⟨⟨hd40, hd41, hd42⟩, hf40, hf41, hf42⟩ := mbox_cells hz4
            obtain ⟨⟨hd50, hd51⟩, hf50, hf51⟩ := gbox_cells hz5
            have hBw : B ≤ wo.heap.size := Nat.le_trans hB HBO.out.size
            have HE := Lib.hid (putR_owns (f := f) (g := h) (d := true) hz4 hz5 (h0.mono hBw) (h1.mono hBw))
            have HBE := Lib.hid ((below_then HBO.out HBO.out.size hb).trans ((putR_keeps w1 (z + 1 + 1) (.slice pN uN.length cN) (.slice qN ms.length dN) f h true).below (Nat.le_trans HBO.out.size hb.size) (fun q hq => by have hq : q = z + 1 + 1 ∨ q = z + 1 + 1 + 1 := hq; have := HZ.out; omega)))
            unfold putR at HE HBE
            clear HOW HOL HZ4 HZ5 HZM HWO HLEN h0 h1 hb hz4 hz5 hBw hz
            rw [HZ.out] at hd40 hd41 hd42 hf40 hf41 hf42 hd50 hd51 hf50 hf51 HE HBE
            go_wp2
            exact bodyPost_ret (v := .tuple #[.agg #[(.slice pN uN.length cN), (.slice qN ms.length dN), .bool f], .agg #[.int .u64 h, .bool true]]) (by simp [results, Try.results22, go_sem, hd40, hd41, hd42, hd50, hd51]) rfl ⟨by rw [HLV.out]; exact ⟨_, rfl, HE.out⟩, HBE.out⟩
          · have HLV := Lib.hid (show accM us ms f 3 (i : Int) o n = (us, f, h, false) by rw [accM_no HLA.out f o n (by rw [HGD.out]; exact hho), HGD.out])
            have hho' : (h != o) = true := by simpa using hho
            clear hdm0 hdm1 hdm2 hfm2 hda0 hda1 hda2 hda3 hd40 hd41 hd42 hf40 hf41 hf42 hd50 hd51 hf50 hf51
            go_enter Try.func22, Try.ntmps22
            go_wp2
            exact bodyPost_ret (v := .tuple #[.agg #[(.slice (some ⟨gw, 0, none⟩) us.length cw), (.slice (some ⟨gl, 0, none⟩) ms.length cl), .bool f], .agg #[.int .u64 h, .bool false]]) (by simp [results, Try.results22, go_sem]) rfl ⟨by rw [HLV.out]; exact ⟨_, rfl, _, _, rfl, (((HW0.out.alloc _).alloc _).alloc _).alloc _, (((HL0.out.alloc _).alloc _).alloc _).alloc _⟩, ((((Below.refl _ _).alloc (Nat.le_refl _) _).alloc (by simp) _).alloc (by simp; omega) _).alloc (by simp; omega) _⟩
  · have HLV := Lib.hid (accM_out (show liveAt us ms a = false by rw [liveAt, show thereB us.length a 1 = false by simp [thereB]; omega, Bool.false_and]) f k o n)
    clear hdm0 hdm1 hdm2 hfm2 hda0 hda1 hda2 hda3 hd40 hd41 hd42 hf40 hf41 hf42 hd50 hd51 hf50 hf51
    by_cases hneg : a < 0
    all_goals
      go_enter Try.func22, Try.ntmps22
      go_wp2
      exact bodyPost_ret (v := .tuple #[.agg #[(.slice (some ⟨gw, 0, none⟩) us.length cw), (.slice (some ⟨gl, 0, none⟩) ms.length cl), .bool true], .agg #[.int .u64 0, .bool false]]) (by simp [results, Try.results22, go_sem]) rfl ⟨by rw [HLV.out]; exact ⟨_, rfl, _, _, rfl, (((HW0.out.alloc _).alloc _).alloc _).alloc _, (((HL0.out.alloc _).alloc _).alloc _).alloc _⟩, ((((Below.refl _ _).alloc (Nat.le_refl _) _).alloc (by simp) _).alloc (by simp; omega) _).alloc (by simp; omega) _⟩

end Go.Proofs.Ytgpbhdoidhhhhaa
