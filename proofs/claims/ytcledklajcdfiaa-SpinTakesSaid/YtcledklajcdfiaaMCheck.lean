/-
  memory.Check: 0 of a memory that may be, else 120; what was in memory stays.
  Conditions: the memory reads as these words and truth values.
-/
import Derived.Test.YtcledklajcdfiaaMClone
namespace Go.Proofs.Ytcledklajcdfiaa
open Go.RowKit Go.Shelf

theorem mayB_live (w : Int) : mayB true w = true := rfl
theorem mayB_free (w : Int) : mayB false w = (w == 0 || w == poison) := rfl

set_option maxRecDepth 100000 in
theorem may_c (i : Nat) (w : Int) (l : Bool) (z b off n cap : Nat) (W : World) (hc : W.cell? ⟨z, 1, none⟩ = some (.slice (some ⟨b, off, none⟩) n cap)) (hi : i < n) (hl : W.cell? ⟨b, off + i, none⟩ = some (.bool l)) :
    Calls Try.prog 84 #[.int .i64 i, .int .u64 w, .pointer (some ⟨z, 0, none⟩)] W fun e w' => e = .returned (.bool (mayB l w)) ∧ w' = W := by
  cases l with
  | true =>
    go_enter Try.func84, Try.ntmps84
    go_wp2
    go_ret
    exact ⟨rfl, rfl⟩
  | false =>
    rcases Bool.eq_false_or_eq_true (w == 0) with h0 | h0
    · have hr : mayB false w = true := by rw [mayB_free, h0]; rfl
      have HR := Lib.hid hr
      clear hr
      go_enter Try.func84, Try.ntmps84
      go_wp2
      go_ret
      exact ⟨ret_bool HR.out.symm, rfl⟩
    · rcases Bool.eq_false_or_eq_true (w == 18369900232523579118) with hp | hp
      · have hr : mayB false w = true := by rw [mayB_free, h0, poison, hp]; rfl
        have HR := Lib.hid hr
        clear hr
        go_enter Try.func84, Try.ntmps84
        go_wp2
        go_ret
        exact ⟨ret_bool HR.out.symm, rfl⟩
      · have hr : mayB false w = false := by rw [mayB_free, h0, poison, hp]; rfl
        have HR := Lib.hid hr
        clear hr
        go_enter Try.func84, Try.ntmps84
        go_wp2
        go_ret
        exact ⟨ret_bool HR.out.symm, rfl⟩

/-- The first i words may be. -/
def MayTo (ls : List Bool) (ws : List Int) (i : Nat) : Prop := ((ls.zip ws).take i).all (fun x => mayB x.1 x.2) = true
def mayAll (ls : List Bool) (ws : List Int) : Bool := (ls.zip ws).all fun x => mayB x.1 x.2
theorem mayTo_step {ls : List Bool} {ws : List Int} {i : Nat} (h : MayTo ls ws i) (hi : i < ws.length) (hi' : i < ls.length) : (mayB ls[i] ws[i] = true → MayTo ls ws (i + 1)) ∧ (mayB ls[i] ws[i] = false → mayAll ls ws = false) := by
  have htk : (ls.zip ws).take (i + 1) = (ls.zip ws).take i ++ [(ls[i], ws[i])] := by
    rw [List.take_succ_eq_append_getElem (by simp; omega), List.getElem_zip]
  refine ⟨fun e => ?_, fun e => ?_⟩
  · unfold MayTo at h ⊢
    rw [htk, List.all_append, h]
    simp [e]
  · unfold mayAll
    rw [List.all_eq_false]
    refine ⟨(ls[i], ws[i]), ?_, by simp [e]⟩
    rw [List.mem_iff_getElem]
    exact ⟨i, by simp; omega, by simp⟩
theorem mayTo_end {ls : List Bool} {ws : List Int} (h : MayTo ls ws ws.length) (hl : ls.length = ws.length) : mayAll ls ws = true := by
  unfold MayTo at h
  rwa [List.take_of_length_le (by simp [hl])] at h

set_option maxRecDepth 100000 in
set_option maxHeartbeats 1000000 in
theorem everyW_c (bw ow cap z b off cap1 : Nat) (ws : List Int) (ls : List Bool) (W : World) (hlen : ls.length = ws.length) (hmax : ws.length ≤ 4096)
    (hw : ∀ i (h : i < ws.length), W.cell? ⟨bw, ow + i, none⟩ = some (.int .u64 ws[i]))
    (hc : W.cell? ⟨z, 1, none⟩ = some (.slice (some ⟨b, off, none⟩) ws.length cap1)) (hl : ∀ i (h : i < ls.length), W.cell? ⟨b, off + i, none⟩ = some (.bool ls[i])) :
    Calls Try.prog 85 #[.slice (some ⟨bw, ow, none⟩) ws.length cap, .func (.func 84) #[] #[.pointer (some ⟨z, 0, none⟩)]] W
      fun e w' => e = .returned (.bool (mayAll ls ws)) ∧ w' = W := by
  have HLEN := Lib.hid hlen
  have HL := Lib.hid hl
  have HW := Lib.hid hw
  clear hlen hl hw
  go_enter Try.func85, Try.ntmps85
  go_wp2
  go_loop [9] (fun iv => ∃ i : Nat, i ≤ ws.length ∧ iv = .int .i64 i ∧ MayTo ls ws i) (fun iv => ws.length - (intOf iv).toNat)
  case atStart => exact ⟨0, Nat.zero_le _, rfl, rfl⟩
  case round =>
    obtain ⟨i, hi, rfl, hm⟩ := hrel
    by_cases hlt : i < ws.length
    · have hlt' : i < ls.length := by rw [HLEN.out]; exact hlt
      have hstep := mayTo_step hm hlt hlt'
      have hx := HW.out i hlt
      have hy := HL.out i hlt'
      obtain ⟨x, hxe⟩ : ∃ x, x = ws[i] := ⟨_, rfl⟩
      obtain ⟨y, hye⟩ : ∃ y, y = ls[i] := ⟨_, rfl⟩
      rw [← hxe] at hx hstep
      rw [← hye] at hy hstep
      have HST := Lib.hid hstep
      clear hstep hxe hye hm hlt'
      go_wp2_with fail
      refine (may_c i x y z b off ws.length cap1 _ hc hlt hy).mono ?_
      rintro e w' ⟨rfl, rfl⟩
      rcases Bool.eq_false_or_eq_true (mayB y x) with hb | hb
      · rw [hb]
        go_wp2
        go_round
        case rel => exact ⟨i + 1, by omega, by go_num, HST.out.1 hb⟩
        case measure => simp [intOf]; omega
      · rw [hb]
        go_wp2
        go_ret
        exact ⟨ret_bool (HST.out.2 hb).symm, rfl⟩
    · obtain rfl : i = ws.length := by omega
      go_wp2
      go_ret
      exact ⟨ret_bool (mayTo_end hm HLEN.out).symm, rfl⟩

/-- What Check answers. -/
def chkM (ws : List Int) (ls : List Bool) : Int := if rightB ws ls then 0 else 120
theorem chkM_yes {ws : List Int} {ls : List Bool} (h : rightB ws ls = true) : chkM ws ls = 0 := by simp [chkM, h]
theorem chkM_no {ws : List Int} {ls : List Bool} (h : rightB ws ls = false) : chkM ws ls = 120 := by simp [chkM, h]
theorem rightB_all {ws : List Int} {ls : List Bool} (h1 : 1 ≤ ws.length) (h2 : ws.length ≤ 4096) (h3 : ls.length = ws.length) : rightB ws ls = mayAll ls ws := by
  simp [rightB, mayAll, h1, h2, h3]

set_option maxRecDepth 100000 in
set_option maxHeartbeats 1000000 in
theorem check_c (v : Value) (ws : List Int) (ls : List Bool) (f : Bool) (W : World) (hv : MemAt W v ws ls f) (hw : ws.length ≤ 9223372036854775807) :
    Calls Try.prog 59 #[v] W fun e w' => e = .returned (.int .i64 (chkM ws ls)) ∧ Below W.heap.size W w' := by
  obtain ⟨vw, vl, rfl, ⟨pw, cw, rfl, hcw⟩, pl, cl, rfl, hcl⟩ := hv
  by_cases h1 : ws.length < 1
  · have hr : chkM ws ls = 120 := chkM_no (by simp [rightB]; omega)
    have HR := Lib.hid hr
    clear hr hcw hcl
    go_enter Try.func59, Try.ntmps59
    go_wp2
    go_ret
    exact ⟨ret_int HR.out.symm, (Below.refl _ _).alloc (Nat.le_refl _) _⟩
  by_cases h2 : 4096 < ws.length
  · have hr : chkM ws ls = 120 := chkM_no (by simp [rightB]; omega)
    have HR := Lib.hid hr
    clear hr hcw hcl
    go_enter Try.func59, Try.ntmps59
    go_wp2
    go_ret
    exact ⟨ret_int HR.out.symm, (Below.refl _ _).alloc (Nat.le_refl _) _⟩
  by_cases h3 : ls.length = ws.length
  · obtain ⟨bw, ow, rfl, hcs⟩ := hcw (by intro e; rw [e] at h1; simp at h1)
    obtain ⟨bl, ol, rfl, hcs2⟩ := hcl (by intro e; rw [e] at h3; simp at h3; omega)
    have hne : ((ls.length : Int) != (ws.length : Int)) = false := by rw [bne_eq_false_iff_eq]; omega
    rw [h3] at hne ⊢
    have HR := Lib.hid (rightB_all (ls := ls) (ws := ws) (by omega) (by omega) h3)
    have H3 := Lib.hid h3
    have HC := Lib.hid hcs
    have HC2 := Lib.hid hcs2
    clear h3 hcs hcs2 hcw hcl
    go_enter Try.func59, Try.ntmps59
    go_wp2_with fail
    refine (everyW_c bw ow cw W.heap.size bl ol cl ws ls _ H3.out (by omega) (fun i h => ?_) (by simp) (fun i h => ?_)).mono ?_
    · have := HC.out i h
      rw [World.cell?_alloc_lt _ _ _ (World.block_lt_of_cell? W _ this)]; exact this
    · have := HC2.out i h
      rw [World.cell?_alloc_lt _ _ _ (World.block_lt_of_cell? W _ this)]; exact this
    rintro e w' ⟨rfl, rfl⟩
    rcases Bool.eq_false_or_eq_true (mayAll ls ws) with hb | hb
    · rw [hb]
      go_wp2
      go_ret
      exact ⟨ret_int (chkM_yes (HR.out.trans hb)).symm, (Below.refl _ _).alloc (Nat.le_refl _) _⟩
    · rw [hb]
      go_wp2
      go_ret
      exact ⟨ret_int (chkM_no (HR.out.trans hb)).symm, (Below.refl _ _).alloc (Nat.le_refl _) _⟩
  · have hr : chkM ws ls = 120 := chkM_no (by simp [rightB, h3])
    have HR := Lib.hid hr
    have hne : ((ls.length : Int) != (ws.length : Int)) = true := by rw [bne_iff_ne]; omega
    clear hr hcw hcl h3
    go_enter Try.func59, Try.ntmps59
    go_wp2
    go_ret
    exact ⟨ret_int HR.out.symm, (Below.refl _ _).alloc (Nat.le_refl _) _⟩

end Go.Proofs.Ytcledklajcdfiaa
