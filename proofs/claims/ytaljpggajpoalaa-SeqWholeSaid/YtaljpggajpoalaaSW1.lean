/-
  SeqWhole, its words: rows of writes, and of slices, that are appended to.
  Conditions: as each has them.
-/
import Derived.Test.YtaljpggajpoalaaSBH
import Derived.Test.YtaljpggajpoalaaSB3
import Derived.Test.YtaljpggajpoalaaSB4
import Derived.Test.YtaljpggajpoalaaSB10
import Derived.Test.YtaljpggajpoalaaSB5
import Derived.Maps.AppendAt
/-
  slices.ContainsFunc of slices of words, with SeqWhole's closure: whether one of them has the values of a read.
  Conditions: at most 2 to the power 62 slices, and words.
-/
namespace Go.Proofs.Ytaljpggajpoalaa
open Go.RowKit Go.Shelf
attribute [local go_sem] Oper.semAt_some

set_option maxHeartbeats 4000000 in
theorem equalW_c (v0 v1 : Value) (xs ys : List Int) (W : World) (hv0 : NumsAt W .u64 v0 xs) (hv1 : NumsAt W .u64 v1 ys) (hl0 : xs.length ≤ 9223372036854775807) (hl1 : ys.length ≤ 9223372036854775807) :
    Calls Try.prog 37 #[v0, v1] W fun e w' => e = .returned (.bool (decide (xs = ys))) ∧ Below W.heap.size W w' := by
  obtain ⟨p0, cap0, rfl, hc0⟩ := hv0
  obtain ⟨p1, cap1, rfl, hc1⟩ := hv1
  go_enter Try.func37, Try.ntmps37
  by_cases hlen : xs.length = ys.length
  · have hne : ((xs.length : Int) != (ys.length : Int)) = false := by rw [bne_eq_false_iff_eq]; omega
    have HL := Lib.hid hlen
    clear hlen
    go_wp2
    clear hne
    go_loopw [13] (fun iv wr => ∃ i : Nat, i ≤ xs.length ∧ iv = .int .i64 i ∧ xs.take i = ys.take i ∧ Below W.heap.size W wr) (fun iv _ => xs.length - (intOf iv).toNat)
    case atStart => exact ⟨0, Nat.zero_le _, rfl, rfl, Below.refl _ _⟩
    case round =>
      obtain ⟨i, hi, rfl, heq, hB⟩ := hrel
      by_cases hlt : i < xs.length
      · obtain ⟨b0, off0, rfl, hcs0⟩ := hc0 (by intro e; rw [e] at hlt; cases hlt)
        have hlt1 : i < ys.length := by have := HL.out; omega
        obtain ⟨b1, off1, rfl, hcs1⟩ := hc1 (by intro e; rw [e] at hlt1; cases hlt1)
        have hx := hcs0 i hlt
        have hy := hcs1 i hlt1
        have ha := List.take_succ_eq_append_getElem hlt
        have hb := List.take_succ_eq_append_getElem hlt1
        obtain ⟨x, hxe⟩ : ∃ x, x = xs[i] := ⟨_, rfl⟩
        obtain ⟨y, hye⟩ : ∃ y, y = ys[i] := ⟨_, rfl⟩
        rw [← hxe] at hx ha
        rw [← hye] at hy hb
        have hx' := (hB.cell (World.block_lt_of_cell? W _ hx)).trans hx
        have hy' := (hB.cell (World.block_lt_of_cell? W _ hy)).trans hy
        have HE := Lib.hid heq
        have HA := Lib.hid ha
        have HB := Lib.hid hb
        have HXY := Lib.hid (And.intro hxe hye)
        clear hx hy hcs0 hcs1 heq ha hb hxe hye
        by_cases hxy : x = y
        · subst hxy
          go_wp2
          go_quiet (fail)
          go_wp2
          all_goals
            go_roundw
            case rel => exact ⟨i + 1, by omega, by go_num, by rw [HA.out, HB.out, HE.out], below_drewN hB _⟩
            case measure => simp [intOf]; omega
        · have hne : (x != y) = true := by rw [bne_iff_ne]; exact hxy
          have hr : decide (xs = ys) = false := by
            rw [decide_eq_false_iff_not]
            intro e
            subst e
            exact hxy (HXY.out.1.trans HXY.out.2.symm)
          have HR := Lib.hid hr
          clear hr hxy
          go_wp2
          go_quiet (fail)
          go_wp2
          all_goals go_ret
          all_goals exact ⟨ret_bool HR.out.symm, below_drewN hB _⟩
      · have heq2 : xs = ys := by rwa [List.take_of_length_le (by omega), List.take_of_length_le (by have := HL.out; omega)] at heq
        have HE := Lib.hid heq2
        clear heq heq2
        go_wp2
        go_ret
        exact ⟨ret_bool (by simp [HE.out]), hB⟩
  · have hne : ((xs.length : Int) != (ys.length : Int)) = true := by rw [bne_iff_ne]; omega
    have hr : decide (xs = ys) = false := by rw [decide_eq_false_iff_not]; intro e; rw [e] at hlen; exact hlen rfl
    have HR := Lib.hid hr
    clear hr hlen
    go_wp2
    go_ret
    exact ⟨ret_bool HR.out.symm, Below.refl _ _⟩


/-- A slice of slices that read as these rows. -/
def HadAt (W : World) (v : Value) (hs : List (Value × List Int)) : Prop := ∃ p cap, v = .slice p hs.length cap ∧ (hs ≠ [] → ∃ b off, p = some ⟨b, off, none⟩ ∧ ∀ i (h : i < hs.length), W.cell? ⟨b, off + i, none⟩ = some hs[i].1) ∧ ∀ x ∈ hs, NumsAt W .u64 x.1 x.2
theorem HadAt.below {W W' : World} {v : Value} {hs : List (Value × List Int)} (h : HadAt W v hs) (hb : Below W.heap.size W W') : HadAt W' v hs := by
  obtain ⟨p, cap, rfl, hc, hn⟩ := h
  refine ⟨p, cap, rfl, fun hne => ?_, fun x hx => nums_below (hn x hx) hb⟩
  obtain ⟨b, off, rfl, hcs⟩ := hc hne
  exact ⟨b, off, rfl, fun i hi => below_cell hb (hcs i hi)⟩

set_option maxRecDepth 100000 in
set_option maxHeartbeats 4000000 in
theorem whole1_c (z : Nat) (s : RdM) (sv v : Value) (xs ys : List Int) (W : World) (hR : RdBox W z s sv) (hx : NumsAt W .u64 v xs) (hy : NumsAt W .u64 sv ys) (h0 : xs.length ≤ 9223372036854775807) (h1 : ys.length ≤ 9223372036854775807) :
    Calls Try.prog 36 #[v, .pointer (some ⟨z, 0, none⟩)] W fun e w' => e = .returned (.bool (decide (xs = ys))) ∧ Below W.heap.size W w' := by
  have HE := Lib.hid (equalW_c v sv xs ys W hx hy h0 h1)
  obtain ⟨c0, c1, c2, c3, c4, c5, c6⟩ := hR.cells
  obtain ⟨q0, n0, rfl, -⟩ := hx
  obtain ⟨q1, n1, rfl, -⟩ := hy
  clear hR h0 h1
  obtain ⟨r, hr⟩ : ∃ r, r = decide (xs = ys) := ⟨_, rfl⟩
  rw [← hr] at HE ⊢
  clear hr
  go_enter Try.func36, Try.ntmps36
  go_wp2_with fail
  refine HE.out.mono ?_
  rintro e w1 ⟨rfl, hb1⟩
  have HB := Lib.hid hb1
  clear hb1 HE c0 c1 c2 c3 c4 c5 c6
  go_wp2
  go_ret
  exact ⟨rfl, HB.out⟩

set_option maxRecDepth 100000 in
set_option maxHeartbeats 4000000 in
theorem hadIndex_c (z : Nat) (s : RdM) (sv v : Value) (hs : List (Value × List Int)) (ys : List Int) (W : World) (hR : RdBox W z s sv) (hv : HadAt W v hs) (hy : NumsAt W .u64 sv ys) (hl : ∀ x ∈ hs, x.2.length ≤ 9223372036854775807) (h1 : ys.length ≤ 9223372036854775807) (hn : hs.length ≤ 4611686018427387904) (hin : ys ∈ hs.map (·.2)) :
    Calls Try.prog 61 #[v, .func (.func 36) #[] #[.pointer (some ⟨z, 0, none⟩)]] W fun e w' => (∃ i : Nat, e = .returned (.int .i64 (i : Int))) ∧ Below W.heap.size W w' := by
  have HH := Lib.hid (And.intro hR (And.intro hv (And.intro hy (And.intro hl h1))))
  obtain ⟨p, cap, rfl, -, -⟩ := hv
  have HIN := Lib.hid hin
  obtain ⟨n, hnn⟩ : ∃ n, n = hs.length := ⟨_, rfl⟩
  rw [← hnn] at hn ⊢
  have HN := Lib.hid hnn
  clear hR hy hl h1 hin hnn
  go_enter Try.func61, Try.ntmps61
  go_wp2
  go_loopw [8] (fun iv wr => ∃ i : Nat, i ≤ n ∧ iv = .int .i64 (i : Int) ∧ Hid (ys ∈ (hs.drop i).map (·.2) ∧ Below W.heap.size W wr)) (fun iv _ => n - (pIntOf iv).toNat)
  case atStart => exact ⟨0, Nat.zero_le _, rfl, Lib.hid ⟨by rw [List.drop_zero]; exact HIN.out, Below.refl _ _⟩⟩
  case round =>
    clear HIN
    obtain ⟨i, hi, rfl, HI⟩ := hrel
    by_cases hlt : i < n
    · have hlh : i < hs.length := by rw [← HN.out]; exact hlt
      obtain ⟨hR, hv, hy, hl, h1⟩ := HH.out
      obtain ⟨p', cap', e, hc, hnu⟩ := hv
      injection e with e1 e2 e3
      subst e1
      obtain ⟨b, off, rfl, hcs⟩ := hc (by intro e; rw [e] at hlh; exact absurd hlh (Nat.not_lt_zero _))
      have hx := below_cell HI.out.2 (hcs i hlh)
      have hnx := hnu hs[i] (List.getElem_mem hlh)
      have hlx := hl hs[i] (List.getElem_mem hlh)
      have hmem := HI.out.1
      rw [List.drop_eq_getElem_cons hlh, List.map_cons, List.mem_cons] at hmem
      obtain ⟨⟨hv1, hx1⟩, hxe⟩ : ∃ x, x = hs[i] := ⟨_, rfl⟩
      rw [← hxe] at hx hnx hlx hmem
      dsimp only at hx hnx hlx hmem
      have HC := Lib.hid (whole1_c z s sv hv1 hx1 ys wr (hR.below HI.out.2) (nums_below hnx HI.out.2) (nums_below hy HI.out.2) hlx h1)
      obtain ⟨q1, n1, rfl, -⟩ := hnx
      have HM := Lib.hid (And.intro hmem HI.out.2)
      clear hcs hc hnu hxe hlx hmem HI hR hy hl h1 e2 e3 hlh
      by_cases heq : hx1 = ys
      · rw [decide_eq_true heq] at HC
        clear heq
        go_wp2_with fail
        refine HC.out.mono ?_
        rintro e w1 ⟨rfl, hb1⟩
        have HB := Lib.hid (below_then HM.out.2 HM.out.2.size hb1)
        clear hb1 HC hx
        go_wp2
        go_ret
        exact ⟨⟨i, rfl⟩, HB.out⟩
      · rw [decide_eq_false heq] at HC
        have HM2 := Lib.hid (show ys ∈ (hs.drop (i + 1)).map (·.2) from by
          rcases HM.out.1 with h | h
          · exact absurd h.symm heq
          · exact h)
        clear heq
        go_wp2_with fail
        refine HC.out.mono ?_
        rintro e w1 ⟨rfl, hb1⟩
        have HB := Lib.hid (And.intro HM2.out (below_then HM.out.2 HM.out.2.size hb1))
        clear hb1 HC hx HM HM2
        go_wp2
        go_roundw
        case rel => exact ⟨i + 1, by omega, by go_num, HB⟩
        case measure => simp [pIntOf]; omega
    · have h := HI.out.1
      rw [List.drop_eq_nil_of_le (by rw [← HN.out]; omega)] at h
      exact absurd h (by simp)

set_option maxRecDepth 100000 in
set_option maxHeartbeats 4000000 in
theorem hadContains_c (z : Nat) (s : RdM) (sv v : Value) (hs : List (Value × List Int)) (ys : List Int) (W : World) (hR : RdBox W z s sv) (hv : HadAt W v hs) (hy : NumsAt W .u64 sv ys) (hl : ∀ x ∈ hs, x.2.length ≤ 9223372036854775807) (h1 : ys.length ≤ 9223372036854775807) (hn : hs.length ≤ 4611686018427387904) (hin : ys ∈ hs.map (·.2)) :
    Calls Try.prog 35 #[v, .func (.func 36) #[] #[.pointer (some ⟨z, 0, none⟩)]] W fun e w' => e = .returned (.bool true) ∧ Below W.heap.size W w' := by
  have HC := Lib.hid (hadIndex_c z s sv v hs ys W hR hv hy hl h1 hn hin)
  obtain ⟨p, cap, rfl, -, -⟩ := hv
  clear hR hy hl h1 hn hin
  go_enter Try.func35, Try.ntmps35
  go_wp2_with fail
  refine HC.out.mono ?_
  rintro e w1 ⟨⟨i, rfl⟩, hb1⟩
  have HB := Lib.hid hb1
  have hi : (0 : Int) ≤ (i : Int) := by omega
  clear hb1 HC
  go_wp2
  go_ret
  exact ⟨rfl, HB.out⟩
end Go.Proofs.Ytaljpggajpoalaa
/-
  memory.New, called with 12: so many words, all free, of 0; what was in memory stays.
  Conditions: none.
-/
namespace Go.Proofs.Ytaljpggajpoalaa
open Go.RowKit Go.Shelf

/-- What New hands over. -/
def NewOk12 (B : Nat) (e : Ending) (w' : World) : Prop :=
  ∃ v', e = .returned (.tuple #[v', .int .i64 0]) ∧ OwnsMem w' B v' (List.replicate 12 0) (List.replicate 12 false) false

set_option maxRecDepth 100000 in
set_option maxHeartbeats 4000000 in
theorem new12_c (W : World) : Calls Try.prog 59 #[.int .i64 12] W fun e w' => NewOk12 W.heap.size e w' ∧ Below W.heap.size W w' := by
  obtain ⟨i0, hi, hz0, hz1, hz2⟩ := info_parts word_info
  obtain ⟨i1, hj, hy0, hy1, hy2⟩ := info_parts bool_info
  obtain ⟨c8, hc8⟩ : ∃ c : Array Value, c = madeCells (Value.int .u64 0).cells 12 := ⟨_, rfl⟩
  obtain ⟨b8, hb8⟩ : ∃ c : Array Value, c = madeCells (Value.bool false).cells 12 := ⟨_, rfl⟩
  have hm1 : ∀ w, (Instr.makeSlice 24 (.int .i64 12) (.int .i64 12)).run Try.prog w = .ok (.slice (some ⟨w.heap.size, 0, none⟩) 12 12) (w.alloc (.cells c8 27)) := fun w => by
    have := run_make (P := Try.prog) w 24 27 i0 (.int .u64 0) Try.underlying24 hi hz0 .i64 .i64 12 12 (by decide) (by decide) (by rw [hz2]; decide) (by decide)
    rw [this, hc8, hz1]; rfl
  have hm2 : ∀ w, (Instr.makeSlice 42 (.int .i64 12) (.int .i64 12)).run Try.prog w = .ok (.slice (some ⟨w.heap.size, 0, none⟩) 12 12) (w.alloc (.cells b8 4)) := fun w => by
    have := run_make (P := Try.prog) w 42 4 i1 (.bool false) Try.underlying42 hj hy0 .i64 .i64 12 12 (by decide) (by decide) (by rw [hy2]; decide) (by decide)
    rw [this, hb8, hy1]; rfl
  have HC := Lib.hid (show c8.toList = (List.replicate 12 (0 : Int)).map (Value.int .u64) by rw [hc8, List.map_replicate]; exact toList_madeCells_one _ 12)
  have HB := Lib.hid (show b8.toList = (List.replicate 12 false).map Value.bool by rw [hb8, List.map_replicate]; exact toList_madeCells_one _ 12)
  have HC8 := Lib.hid (show c8.size = 12 * 1 by rw [hc8, size_madeCells])
  have HB8 := Lib.hid (show b8.size = 12 * 1 by rw [hb8, size_madeCells])
  clear hc8 hb8 hi hj hz0 hz1 hz2 hy0 hy1 hy2
  go_enter Try.func59, Try.ntmps59
  go_wp2
  go_region
  all_goals go_wp2
  · have ho1 := (World.ownsRow_lit (base := W.heap.size) (e := 27) (size := 1) (W.alloc (.cells #[.slice (some ⟨W.heap.size + 1, 0, none⟩) 12 12, .slice (some ⟨W.heap.size + 1 + 1, 0, none⟩) 12 12, .bool false] 44)) c8 12 (by simp) (by decide) HC8.out).alloc (.cells b8 4)
    have ho2 := World.ownsRow_lit (base := W.heap.size) (e := 4) (size := 1) ((W.alloc (.cells #[.slice (some ⟨W.heap.size + 1, 0, none⟩) 12 12, .slice (some ⟨W.heap.size + 1 + 1, 0, none⟩) 12 12, .bool false] 44)).alloc (.cells c8 27)) b8 12 (by simp; omega) (by decide) HB8.out
    rw [World.size_alloc] at ho1
    rw [World.size_alloc, World.size_alloc] at ho2
    refine bodyPost_ret (v := .tuple #[.agg #[.slice (some ⟨W.heap.size + 1, 0, none⟩) 12 12, .slice (some ⟨W.heap.size + 1 + 1, 0, none⟩) 12 12, .bool false], .int .i64 0]) (by simp [results, Try.results59, go_sem]) rfl ⟨⟨_, rfl, _, _, rfl, ?_, ?_⟩, ((((Below.refl _ _).alloc (Nat.le_refl _) _).alloc (by simp) _).alloc (by simp; omega) _).drew⟩
    · rw [HC.out] at ho1; exact ho1.drew
    · rw [HB.out] at ho2; exact ho2.drew
  · have ho1 := (World.ownsRow_lit (base := W.heap.size) (e := 4) (size := 1) (W.alloc (.cells #[.slice (some ⟨W.heap.size + 1 + 1, 0, none⟩) 12 12, .slice (some ⟨W.heap.size + 1, 0, none⟩) 12 12, .bool false] 44)) b8 12 (by simp) (by decide) HB8.out).alloc (.cells c8 27)
    have ho2 := World.ownsRow_lit (base := W.heap.size) (e := 27) (size := 1) ((W.alloc (.cells #[.slice (some ⟨W.heap.size + 1 + 1, 0, none⟩) 12 12, .slice (some ⟨W.heap.size + 1, 0, none⟩) 12 12, .bool false] 44)).alloc (.cells b8 4)) c8 12 (by simp; omega) (by decide) HC8.out
    rw [World.size_alloc] at ho1
    rw [World.size_alloc, World.size_alloc] at ho2
    refine bodyPost_ret (v := .tuple #[.agg #[.slice (some ⟨W.heap.size + 1 + 1, 0, none⟩) 12 12, .slice (some ⟨W.heap.size + 1, 0, none⟩) 12 12, .bool false], .int .i64 0]) (by simp [results, Try.results59, go_sem]) rfl ⟨⟨_, rfl, _, _, rfl, ?_, ?_⟩, ((((Below.refl _ _).alloc (Nat.le_refl _) _).alloc (by simp) _).alloc (by simp; omega) _).drew⟩
    · rw [HC.out] at ho2; exact ho2.drew
    · rw [HB.out] at ho1; exact ho1.drew

end Go.Proofs.Ytaljpggajpoalaa
/-
  live(12), of the statements of layer 6: words, all live, of 0.
  Conditions: none.
-/
namespace Go.Proofs.Ytaljpggajpoalaa
open Go.RowKit Go.Shelf
attribute [local go_sem] Oper.semAt_some

set_option maxRecDepth 100000 in
set_option maxHeartbeats 8000000 in
theorem elive12 (W : World) : Calls Try.prog 34 #[.int .i64 12] W fun e w' => (∃ gw cw gl cl, e = .returned (.tuple #[.agg #[.slice (some ⟨gw, 0, none⟩) 12 cw, .slice (some ⟨gl, 0, none⟩) 12 cl, .bool false], .bool true]) ∧
      w'.ownsRow W.heap.size 27 1 (.slice (some ⟨gw, 0, none⟩) 12 cw) 12 ((List.replicate 12 0 : List Int).map (Value.int .u64)) ∧ w'.ownsRow W.heap.size 4 1 (.slice (some ⟨gl, 0, none⟩) 12 cl) 12 ((List.replicate 12 true).map Value.bool)) ∧ Below W.heap.size W w' := by
  have hB : Below W.heap.size W (W.alloc (.cells #[.slice none 0 0, .slice none 0 0, .bool false] 44)) := (Below.refl _ _).alloc (Nat.le_refl _) _
  have HR := Lib.hid (MBox.new W (.slice none 0 0) (.slice none 0 0) false)
  go_enter Try.func34, Try.ntmps34
  go_wp2_with fail
  refine (new12_c _).mono ?_
  rintro e w1 ⟨⟨_, rfl, vw, vl, rfl, how, hol⟩, hb1⟩
  have HR1 := Lib.hid (HR.out.below hb1)
  have hB1 := below_then hB hB.size hb1
  clear hb1 hB HR
  obtain ⟨gw, cw, rfl, hgw, hgw3⟩ := own_form how (by decide)
  obtain ⟨gl, cl, rfl, hgl, hgl3⟩ := own_form hol (by decide)
  have hcapl := (own_cap hol).1
  have hb2 : Below w1.heap.size w1 (w1.alloc (.cells #[.slice (some ⟨gw, 0, none⟩) 12 cw, .slice (some ⟨gl, 0, none⟩) 12 cl, .bool false] 44)) := (Below.refl _ _).alloc (Nat.le_refl _) _
  have hmem : MemAt (w1.alloc (.cells #[.slice (some ⟨gw, 0, none⟩) 12 cw, .slice (some ⟨gl, 0, none⟩) 12 cl, .bool false] 44)) (.agg #[.slice (some ⟨gw, 0, none⟩) 12 cw, .slice (some ⟨gl, 0, none⟩) 12 cl, .bool false]) (List.replicate 12 0) (List.replicate 12 false) false :=
    ⟨_, _, rfl, nums_of_owns (by decide) (owns_below how hb2), bools_of_owns (by decide) (owns_below hol hb2)⟩
  have HLIVE := Lib.hid (live_yes _ _ _ false 0 12 _ hmem (by intro x y p n c e; injection e with e; injection e with e; injection e with _ e; injection e with e _; injection e with _ e1 e2; subst e1; subst e2; exact hcapl) (by decide) (by decide) (by kernel_rfl) (by kernel_rfl) (by kernel_rfl))
  have HZ2 := Lib.hid (MBox.new w1 (.slice (some ⟨gw, 0, none⟩) 12 cw) (.slice (some ⟨gl, 0, none⟩) 12 cl) false)
  have HR2 := Lib.hid (HR1.out.below hb2)
  have hB2 := below_then hB1 hB1.size hb2
  have hzb : W.heap.size < w1.heap.size := HR1.out.lt
  obtain ⟨z, hz⟩ : ∃ z, z = w1.heap.size := ⟨_, rfl⟩
  have HZZ := Lib.hid hz
  clear hmem hb2 how hol hB1 HR1 hz
  go_wp2_with fail
  refine HLIVE.out.mono ?_
  rintro e w3 ⟨⟨_, rfl, vw2, vl2, rfl, how2, hol2⟩, hb3⟩
  obtain ⟨gw2, cw2, rfl, hgw2, hgw4⟩ := own_form how2 (by decide)
  obtain ⟨gl2, cl2, rfl, hgl2, hgl4⟩ := own_form hol2 (by decide)
  have e1 : fill (List.replicate 12 (0 : Int)) (Int.toNat 0) 0 (Int.toNat 12) = List.replicate 12 0 := by kernel_rfl
  have e2 : fill (List.replicate 12 false) (Int.toNat 0) true (Int.toNat 12) = List.replicate 12 true := by kernel_rfl
  rw [e1, e2]
  rw [e1] at how2
  rw [e2] at hol2
  rw [show (List.replicate 12 0 : List Int).length = 12 from rfl] at how2 ⊢
  rw [show (List.replicate 12 true : List Bool).length = 12 from rfl] at hol2 ⊢
  rw [World.size_alloc, ← HZZ.out] at hgw2 hgl2
  have hz3 := HZ2.out.below hb3
  rw [← HZZ.out] at hz3 hzb ⊢
  have hr3 := HR2.out.below hb3
  obtain ⟨⟨hd0, hd1, hd2⟩, he0, he1, he2⟩ := mbox_cells hz3
  obtain ⟨w4, hw4⟩ : ∃ w4 : World, w4 = ((w3.setCell ⟨z, 0, none⟩ (.slice (some ⟨gw2, 0, none⟩) 12 cw2)).setCell ⟨z, 1, none⟩ (.slice (some ⟨gl2, 0, none⟩) 12 cl2)).setCell ⟨z, 2, none⟩ (.bool false) := ⟨_, rfl⟩
  have hkz : Keeps (· = z) w3 w4 := by
    rw [hw4]
    exact ((Keeps.setCell w3 (S := (· = z)) (p := ⟨z, 0, none⟩) rfl _).trans (Keeps.setCell _ (S := (· = z)) (p := ⟨z, 1, none⟩) rfl _)).trans (Keeps.setCell _ (S := (· = z)) (p := ⟨z, 2, none⟩) rfl _)
  have HZ4 := Lib.hid (show MBox w4 z (.slice (some ⟨gw2, 0, none⟩) 12 cw2) (.slice (some ⟨gl2, 0, none⟩) 12 cl2) false by rw [hw4]; exact hz3.set _ _ _)
  have HR4 := Lib.hid (hr3.keeps hkz (fun e => by have e : W.heap.size = z := e; omega))
  have how4 := hkz.row how2 (fun q hq e => by have e : q = z := e; simp [Value.ownBlock] at hq; omega)
  have hol4 := hkz.row hol2 (fun q hq e => by have e : q = z := e; simp [Value.ownBlock] at hq; omega)
  have HOW := Lib.hid how4
  have HOL := Lib.hid hol4
  have HB4 := Lib.hid ((below_then hB2 hB2.size hb3).trans (hkz.below (below_then hB2 hB2.size hb3).size (fun q hq => by have e : q = z := hq; omega)))
  have HW4 := Lib.hid hw4
  have HGG := Lib.hid (show W.heap.size < gw2 ∧ W.heap.size < gl2 by omega)
  clear hw4 hkz how2 hol2 how4 hol4 hz3 hr3 hb3 hB2 e1 e2 HLIVE HZ2 HR2 hgw hgl hgw3 hgl3 hgw2 hgl2 hgw4 hgl4
  go_upto_region 3 with (fail)
  rw [← HW4.out]
  clear hd0 hd1 hd2 he0 he1 he2 HW4
  obtain ⟨⟨hd0, hd1, hd2⟩, _⟩ := mbox_cells HZ4.out
  obtain ⟨⟨r0, r1, r2⟩, q0, q1, q2⟩ := mbox_cells HR4.out
  have HPS := Lib.hid (HR4.out.set (.slice (some ⟨gw2, 0, none⟩) 12 cw2) (.slice (some ⟨gl2, 0, none⟩) 12 cl2) false)
  have HPK := Lib.hid (((Keeps.setCell w4 (S := (· = W.heap.size)) (p := ⟨W.heap.size, 0, none⟩) rfl (.slice (some ⟨gw2, 0, none⟩) 12 cw2)).trans (Keeps.setCell _ (S := (· = W.heap.size)) (p := ⟨W.heap.size, 1, none⟩) rfl (.slice (some ⟨gl2, 0, none⟩) 12 cl2))).trans (Keeps.setCell _ (S := (· = W.heap.size)) (p := ⟨W.heap.size, 2, none⟩) rfl (.bool false)))
  go_wp2
  clear hd0 hd1 hd2 r0 r1 r2 q0 q1 q2
  revert HPS HPK
  generalize World.setCell _ ⟨W.heap.size, 2, none⟩ _ = w5
  intro HPS HPK
  obtain ⟨⟨r0, r1, r2⟩, -, -, -⟩ := mbox_cells HPS.out
  exact bodyPost_ret (v := .tuple #[.agg #[.slice (some ⟨gw2, 0, none⟩) 12 cw2, .slice (some ⟨gl2, 0, none⟩) 12 cl2, .bool false], .bool true]) (by simp [results, Try.results34, go_sem, r0, r1, r2]) rfl ⟨⟨gw2, cw2, gl2, cl2, rfl, (HPK.out.row HOW.out (fun g hg e => by simp [Value.ownBlock] at hg; have e' : g = W.heap.size := e; have := HGG.out; omega)).mono (by rw [World.size_alloc, ← HZZ.out]; omega), (HPK.out.row HOL.out (fun g hg e => by simp [Value.ownBlock] at hg; have e' : g = W.heap.size := e; have := HGG.out; omega)).mono (by rw [World.size_alloc, ← HZZ.out]; omega)⟩, HB4.out.trans (HPK.out.below HB4.out.size (fun k e => Nat.le_of_eq e.symm))⟩

end Go.Proofs.Ytaljpggajpoalaa
namespace Go.Proofs.Ytaljpggajpoalaa
open Go.RowKit Go.Shelf

theorem own_slice {X : World} {B : Nat} {E : TypeId} {s n : Nat} {v : Value} {xs : List Value} (h : X.ownsRow B E s v n xs) : ∃ p c, v = .slice p n c := by
  rcases h.2 with ⟨rfl, rfl⟩ | ⟨g, cap, cur, rfl, _⟩
  · exact ⟨_, _, rfl⟩
  · exact ⟨_, _, rfl⟩
def wcells (x : WrX) : List Value := [.int .i64 x.s.a, .int .i64 x.s.f, x.v, .int .i64 x.s.p, .int .u64 x.s.b, .int .i64 x.s.w]
def flatW : List WrX → List Value
  | [] => []
  | x :: t => wcells x ++ flatW t
theorem flatW_length (l : List WrX) : (flatW l).length = l.length * 6 := by
  induction l with
  | nil => rfl
  | cons x t ih => simp [flatW, wcells, ih]; omega
theorem flatW_snoc (l : List WrX) (x : WrX) : flatW (l ++ [x]) = flatW l ++ wcells x := by
  induction l with
  | nil => simp [flatW]
  | cons y t ih => simp [flatW, ih, List.append_assoc]
theorem flatW_get : ∀ (l : List WrX) (i : Nat) (h : i < l.length), (flatW l)[i * 6]? = some (.int .i64 l[i].s.a) ∧ (flatW l)[i * 6 + 1]? = some (.int .i64 l[i].s.f) ∧ (flatW l)[i * 6 + 2]? = some l[i].v ∧ (flatW l)[i * 6 + 3]? = some (.int .i64 l[i].s.p) ∧ (flatW l)[i * 6 + 4]? = some (.int .u64 l[i].s.b) ∧ (flatW l)[i * 6 + 5]? = some (.int .i64 l[i].s.w)
  | x :: t, 0, _ => ⟨rfl, rfl, rfl, rfl, rfl, rfl⟩
  | x :: t, i + 1, h => by
    have ih := flatW_get t i (by simpa using h)
    have e : (i + 1) * 6 = i * 6 + 6 := by omega
    rw [e]
    have hs : ∀ k, (flatW (x :: t))[k + 6]? = (flatW t)[k]? := fun k => by simp [flatW, wcells]
    refine ⟨(hs _).trans ih.1, ?_, ?_, ?_, ?_, ?_⟩
    · rw [show i * 6 + 6 + 1 = (i * 6 + 1) + 6 by omega]; exact (hs _).trans ih.2.1
    · rw [show i * 6 + 6 + 2 = (i * 6 + 2) + 6 by omega]; exact (hs _).trans ih.2.2.1
    · rw [show i * 6 + 6 + 3 = (i * 6 + 3) + 6 by omega]; exact (hs _).trans ih.2.2.2.1
    · rw [show i * 6 + 6 + 4 = (i * 6 + 4) + 6 by omega]; exact (hs _).trans ih.2.2.2.2.1
    · rw [show i * 6 + 6 + 5 = (i * 6 + 5) + 6 by omega]; exact (hs _).trans ih.2.2.2.2.2
theorem wrs_of_owns {B n c : Nat} {p : Option Addr} {W : World} {l : List WrX} (hl : l.length = n) (h : W.ownsRow B 34 6 (.slice p n c) n (flatW l)) (hv : ∀ x ∈ l, VV (fun k => W.heap.size ≤ k) W x.v x.vs) : WrsAt (fun k => W.heap.size ≤ k) W p l := by
  intro hne
  subst hl
  rcases h.2 with ⟨h1, h0⟩ | ⟨g, cap, cur, h1, hB, hb, h2, h3, h4, h5⟩
  · exact absurd (List.eq_nil_of_length_eq_zero h0) hne
  · injection h1 with e1 _ e3
    subst e1 e3
    refine ⟨g, 0, rfl, fun hs => ?_, fun i hi => ?_⟩
    · have h6 := (Array.getElem?_eq_some_iff.1 hb).1
      have hs' : W.heap.size ≤ g := hs
      omega
    · obtain ⟨f0, f1, f2, f3, f4, f5⟩ := flatW_get l i hi
      rw [Nat.zero_add]
      exact ⟨⟨(h.cellAt _ (by omega)).trans f0, (h.cellAt _ (by omega)).trans f1, (h.cellAt _ (by omega)).trans f2, (h.cellAt _ (by omega)).trans f3, (h.cellAt _ (by omega)).trans f4, (h.cellAt _ (by omega)).trans f5⟩, hv _ (List.getElem_mem hi)⟩
theorem had_of_owns {B n c : Nat} {p : Option Addr} {W : World} {hs : List (Value × List Int)} (hl : hs.length = n) (h : W.ownsRow B 24 1 (.slice p n c) n (hs.map (·.1))) (hv : ∀ x ∈ hs, NumsAt W .u64 x.1 x.2) : HadAt W (.slice p n c) hs := by
  subst hl
  refine ⟨p, c, rfl, fun hne => ?_, hv⟩
  rcases h.2 with ⟨h1, h0⟩ | ⟨g, cap, cur, h1, hB, hb, h2, h3, h4, h5⟩
  · exact absurd (List.eq_nil_of_length_eq_zero h0) hne
  · injection h1 with e1 _ e3
    subst e1 e3
    refine ⟨g, 0, rfl, fun i hi => ?_⟩
    rw [Nat.zero_add, h.cellAt _ (by omega), List.getElem?_map, List.getElem?_eq_getElem hi]
    rfl
theorem app_gen {P : Program} {w : World} {B : Nat} {T E : TypeId} {i0 : TypeInfo} {z : Value} {size bytes : Nat} (ht : P.underlying T = some (.slice E)) (hi : P.info? E = some i0) (hz : i0.zero = some z) (hsz : i0.size = size) (hby : i0.bytes = bytes) (hzs : z.cells.size = size) (hs0 : 0 < size)
    {v : Value} {n : Nat} {xs news : List Value} {ad : Addr} {c : Nat} (ty : TypeId) (hown : w.ownsRow B E size v n xs) (hl : news.length = size) (hnews : ∀ j u, news[j]? = some u → w.cell? (ad.add j) = some u) (h1 : ∀ u ∈ news, u.oneCell' = true) (hB : B ≤ w.heap.size) (h63 : n + 1 ≤ 1000) (hb64 : bytes ≤ 1000) :
    ∃ q r w', (Builtin.append_ #[T, T] ty #[v, .slice (some ad) 1 c]).run P w = .ok (.slice q (n + 1) r) w' ∧ w'.ownsRow B E size (.slice q (n + 1) r) (n + 1) (xs ++ news) ∧ Below B w w' ∧ w.grownBy w' v.ownBlock := by
  obtain ⟨v', w', hrun, ho, hg, _, hat⟩ := run_append_own_at (P := P) (w := w) B T ty E i0 z size bytes ht hi hz hsz hby hzs hs0 v n _ hown ad 1 c _ (by omega) hnews h1 (by unfold maxLen; omega) (by have : (n + 1) * bytes ≤ 1000 * 1000 := Nat.mul_le_mul h63 hb64; omega) hB
  obtain ⟨q, r, rfl⟩ := own_slice ho
  exact ⟨q, r, w', hrun, ho, (Below.refl B w).grown hg hB (fun k hk => (hown.lt k hk).1), hg⟩
/-- At a step of a region that draws its order. -/
theorem step_appG {P : Program} {w : World} {ops : Array Oper} {o : Oper} {a : Act} {K : Act → World → Prop} {Q : Exit → Act → World → Prop} {E' : Prop} (hgd : o.guard = none) (s x : Operand) {T E : TypeId}
    (ho : o.op = .call { callee := .builtin .append, args := #[s, x], argTypes := #[T, T] })
    {B : Nat} {i0 : TypeInfo} {z : Value} {size bytes : Nat} (ht : P.underlying T = some (.slice E)) (hi : P.info? E = some i0) (hz : i0.zero = some z) (hsz : i0.size = size) (hby : i0.bytes = bytes) (hzs : z.cells.size = size) (hs0 : 0 < size)
    {v : Value} {n : Nat} {xs news : List Value} {ad : Addr} {c : Nat} (hs : a.eval s = v) (hown : w.ownsRow B E size v n xs) (hx : a.eval x = .slice (some ad) 1 c) (hl : news.length = size) (hnews : ∀ j u, news[j]? = some u → w.cell? (ad.add j) = some u) (h1 : ∀ u ∈ news, u.oneCell' = true) (hB : B ≤ w.heap.size) (h63 : n + 1 ≤ 1000) (hb64 : bytes ≤ 1000)
    (h : ∀ q r w', w'.ownsRow B E size (.slice q (n + 1) r) (n + 1) (xs ++ news) → Below B w w' → w.grownBy w' v.ownBlock → K (a.put o.dst (.slice q (n + 1) r)) w') :
    if Region.wanted o (yielded ops a.tmps) = true then Oper.wp P o a w K Q else E' := by
  have hw : Region.wanted o (yielded ops a.tmps) = true := by simp [Region.wanted, hgd]
  rw [if_pos hw]
  obtain ⟨q, r, w', hrun, h1, h2, h3⟩ := app_gen ht hi hz hsz hby hzs hs0 o.type hown hl hnews h1 hB h63 hb64
  unfold Oper.wp
  simp [execOp, ho, resolve, invoke, builtin, hs, hx, Result.andThen]
  rw [hrun]
  exact h q r w' h1 h2 h3
theorem keeps_grown {w w' : World} {row : Option Nat} (hg : w.grownBy w' row) : Keeps (fun q => row = some q) w w' := by
  obtain ⟨h1, h2, h3, h4, h5⟩ := hg
  exact ⟨h1, h2, h3, h4, fun q hq hn => h5 q hq (fun e => hn e.symm)⟩
theorem wrinfo : (Try.prog.info? 34).map (fun i => (i.zero, i.size, i.bytes)) = some (some (.agg #[.int .i64 0, .int .i64 0, .slice none 0 0, .int .i64 0, .int .u64 0, .int .i64 0]), 6, 64) := by kernel_rfl
theorem slinfo : (Try.prog.info? 24).map (fun i => (i.zero, i.size, i.bytes)) = some (some (.slice none 0 0), 1, 24) := by kernel_rfl
theorem cut3 (z m : Nat) (hm : m ≤ 3) (wx : World) : (Instr.sliceAt 76 (.pointer (some ⟨z, 0, none⟩)) none (some (.int .i64 (m : Int))) none).run Try.prog wx = .ok (.slice (some ⟨z, 0, none⟩) m 3) wx := by
  have h3 : Try.prog.arrayLen 76 = 3 := by kernel_rfl
  have hsz : (sizeOf (Try.prog.elem 76)).run Try.prog wx = .ok 1 wx := by go_simp
  rw [run_sliceAt_array_h wx 76 _ (by kernel_rfl) .i64 (m : Int) (by omega) (by rw [h3]; omega), hsz, h3]
  simp [slicedAt, Addr.add]
theorem rem3 (many : Int) : ∃ m : Nat, wrap64 (1 + wrap64 ((IntKind.u64.wrap many).tmod 3)) = (m : Int) ∧ 1 ≤ m ∧ m ≤ 3 := by
  have h := u64wrap_range many
  obtain ⟨x, hx⟩ := Int.eq_ofNat_of_zero_le h.1
  refine ⟨1 + x % 3, ?_, by omega⟩
  rw [hx]
  have e : ((x : Int)).tmod 3 = ((x % 3 : Nat) : Int) := rfl
  rw [e]
  unfold wrap64
  omega
/-- A box of three words. -/
def A3Box (w : World) (z : Nat) (a b c : Int) : Prop := w.heap[z]? = some (.cells #[.int .u64 a, .int .u64 b, .int .u64 c] 76 (0, 0))
theorem A3Box.below {w w' : World} {z : Nat} {a b c : Int} (h : A3Box w z a b c) (hb : Below w.heap.size w w') : A3Box w' z a b c := (hb.block z (Array.getElem?_eq_some_iff.1 h).1).trans h
theorem A3Box.vals {w : World} {z : Nat} {a b c : Int} (h : A3Box w z a b c) (m : Nat) (hm : 1 ≤ m ∧ m ≤ 3) : ValsAt w (.slice (some ⟨z, 0, none⟩) m 3) 1 m ((([a, b, c] : List Int).take m).map (Value.int .u64)) := by
  refine ⟨by simp; omega, _, _, rfl, .inr ⟨_, rfl, fun j u hj => ?_⟩⟩
  have h' : w.heap[z]? = _ := h
  rw [List.getElem?_map, List.getElem?_take] at hj
  split at hj
  · rw [addr_add_off]
    rcases (by omega : j = 0 ∨ j = 1 ∨ j = 2) with rfl | rfl | rfl <;> (simp at hj; subst hj; simp [World.cell?, h'])
  · cases hj
theorem A3Box.nums {w : World} {z : Nat} {a b c : Int} (h : A3Box w z a b c) (m : Nat) (hm : 1 ≤ m ∧ m ≤ 3) : NumsAt w .u64 (.slice (some ⟨z, 0, none⟩) m 3) (([a, b, c] : List Int).take m) := by
  refine ⟨some ⟨z, 0, none⟩, 3, by rw [show (([a, b, c] : List Int).take m).length = m by simp; omega], fun _ => ⟨z, 0, rfl, fun j hj => ?_⟩⟩
  have h' : w.heap[z]? = _ := h
  have hj' : j < m := by simp at hj; omega
  rw [List.getElem_take, Nat.zero_add]
  rcases (by omega : j = 0 ∨ j = 1 ∨ j = 2) with rfl | rfl | rfl <;> simp [World.cell?, h']
end Go.Proofs.Ytaljpggajpoalaa
