/-
  The walk of BitsTexts: it returns true, for every row of texts and of words, and leaves memory as it was.
  Conditions: the slices read as lists of texts, each of a length that Go allows, and of words.
-/
import Derived.Test.YtldghcihijegaaaRefTexts
import Derived.Test.YtldghcihijegaaaNums
import Derived.Test.YtldghcihijegaaaStrs
import Derived.Deep.CutBlock
import Derived.Deep.DeepCutAuto
namespace Go.Proofs.Ytldghcihijegaaa
open Go.RowKit Go.Shelf

set_option maxRecDepth 100000 in
set_option maxHeartbeats 8000000 in
theorem bitsTexts_walk (v0 v1 : Value) (ts : List ByteArray) (ws : List Int) (W : World) (hv0 : StrsAt W v0 ts) (hv1 : NumsAt W .u64 v1 ws)
    (hts : ∀ s ∈ ts, s.size ≤ maxLen) (hws : ∀ x ∈ ws, 0 ≤ x ∧ x ≤ 18446744073709551615)
    (hl0 : ts.length ≤ 9223372036854775807) (hl1 : ws.length ≤ 9223372036854775807) :
    Calls Try.prog 6 #[v0, v1] W fun e w' => e = .returned (.bool true) ∧ Below W.heap.size W w' := by
  obtain ⟨p0, cap0, rfl, hc0⟩ := hv0
  obtain ⟨p1, cap1, rfl, hc1⟩ := hv1
  go_enter Try.func6, Try.ntmps6
  go_wp2_with fail
  refine (wakes_c _).mono ?_
  rintro e w1 ⟨rfl, hB1⟩
  go_upto_block 0 with fail
  go_cut [] (fun wc => Below W.heap.size W wc)
  case first =>
    go_wp2_with fail
    go_loopw [21] (fun iv wr => ∃ i : Nat, i ≤ ts.length ∧ iv = .int .i64 i ∧ Below W.heap.size W wr) (fun iv _ => ts.length - (intOf iv).toNat)
    case atStart => exact ⟨0, Nat.zero_le _, rfl, hB1⟩
    case round =>
      obtain ⟨i, hi, rfl, hB⟩ := hrel
      by_cases hlt : i < ts.length
      · obtain ⟨b, off, rfl, hcs⟩ := hc0 (by intro e; rw [e] at hlt; cases hlt)
        have hx := hcs i hlt
        have hsl := hts _ (List.getElem_mem hlt)
        obtain ⟨s, hxe⟩ : ∃ s, s = ts[i] := ⟨_, rfl⟩
        rw [← hxe] at hx hsl
        have hx' := (hB.cell (World.block_lt_of_cell? W _ hx)).trans hx
        clear hx hcs hxe
        by_cases h10 : i = 10
        · subst h10
          go_wp2
          go_meet
          exact hB
        · have h10' : ((i : Int) == 10) = false := by rw [beq_eq_false_iff_ne]; omega
          go_upto_region 7 with fail
          go_cut [6] (fun s6 wc => (∃ s' : ByteArray, s6 = .string s' ∧ s'.size ≤ maxLen) ∧ wc = wr)
          case first =>
            by_cases h12 : s.size < 12
            · go_wp2
              all_goals go_meet
              all_goals exact ⟨⟨s, by first | rfl | simp, hsl⟩, rfl⟩
            · go_wp2
              all_goals go_meet
              all_goals exact ⟨⟨_, rfl, by simp [maxLen]; omega⟩, rfl⟩
          case rest =>
          obtain ⟨⟨t, ht, htl⟩, rfl⟩ := hcut
          subst ht
          have hlen : t.data.toList.length = t.size := by simp
          have htl2 := htl
          unfold maxLen at htl2
          go_wp2_with fail
          refine (text_any t htl _).mono ?_
          rintro e w4 ⟨⟨v4, c4, hsays4, rfl⟩, hb4⟩
          have hB4 := below_then hB hB.size hb4
          clear hb4
          rcases hsays4 with ⟨h8, rfl, rfl⟩ | ⟨h8, hnul, rfl, rfl⟩ | ⟨h8, hnul, rfl, rfl⟩
          · have h8' : 8 < t.size := by omega
            go_wp2
            go_roundw
            case rel => exact ⟨i + 1, by omega, by go_num, hB4⟩
            case measure => simp [intOf]; omega
          · have h8' : ¬ 8 < t.size := by omega
            have HN := Lib.hid hnul
            clear hnul
            go_wp2_with (go_at_call 36; refine (nought_c t htl _).mono ?_; rintro e w' ⟨rfl, rfl⟩; rw [HN.out])
            go_roundw
            case rel => exact ⟨i + 1, by omega, by go_num, hB4⟩
            case measure => simp [intOf]; omega
          · have h8' : ¬ 8 < t.size := by omega
            have HN := Lib.hid hnul
            clear hnul
            go_wp2_with (first
              | (go_at_call 36; refine (nought_c t htl _).mono ?_; rintro e w' ⟨rfl, rfl⟩; rw [HN.out])
              | (go_at_call 37; refine (rtext_c t (by omega) _).mono ?_; rintro e w' ⟨rfl, rfl⟩))
            go_roundw
            case rel => exact ⟨i + 1, by omega, by go_num, hB4⟩
            case measure => simp [intOf]; omega
      · go_wp2
        go_meet
        exact hB
  case rest =>
  have hBc := hcut
  go_wp2_with fail
  go_loopw [58] (fun kv wr2 => ∃ k : Nat, k ≤ ws.length ∧ kv = .int .i64 k ∧ Below W.heap.size W wr2) (fun kv _ => ws.length - (intOf kv).toNat)
  case atStart => exact ⟨0, Nat.zero_le _, rfl, hBc⟩
  case round =>
    obtain ⟨k, hk, rfl, hBk⟩ := hrel
    by_cases hltk : k < ws.length
    · obtain ⟨b1, off1, rfl, hcs1⟩ := hc1 (by intro e; rw [e] at hltk; cases hltk)
      have hy := hcs1 k hltk
      have hyr := hws _ (List.getElem_mem hltk)
      obtain ⟨y, hye⟩ : ∃ y, y = ws[k] := ⟨_, rfl⟩
      rw [← hye] at hy hyr
      obtain ⟨w, rfl⟩ := Int.eq_ofNat_of_zero_le hyr.1
      have hw : w < 18446744073709551616 := by omega
      have hy' := (hBk.cell (World.block_lt_of_cell? W _ hy)).trans hy
      clear hy hcs1 hye hyr
      by_cases hk10 : k = 10
      · subst hk10
        go_wp2
        go_ret
        exact ⟨rfl, hBk⟩
      · have hk10' : ((k : Int) == 10) = false := by rw [beq_eq_false_iff_ne]; omega
        go_wp2_with fail
        refine (back_any w hw _).mono ?_
        rintro e w5 ⟨⟨s5, c5, hsays5, rfl⟩, hb5⟩
        have hB5 := below_then hBk hBk.size hb5
        clear hb5
        go_wp2_with fail
        refine (rback_c w hw _).mono ?_
        rintro e w6 ⟨hr, hb6⟩
        have hB6 := below_then hB5 hB5.size hb6
        clear hb6
        rcases hsays5 with ⟨hno, rfl, rfl⟩ | ⟨l, hl, rfl, rfl⟩
        · obtain ⟨l2, hl2, _⟩ | ⟨_, rfl⟩ := hr
          · exact absurd ⟨l2, hl2⟩ hno
          · go_wp2
            go_roundw
            case rel => exact ⟨k + 1, by omega, by go_num, hB6⟩
            case measure => simp [intOf]; omega
        · obtain ⟨l2, hl2, he2⟩ | ⟨hno, _⟩ := hr
          · obtain rfl : l2 = l := textN_inj l2 l hl2.2.1 hl.2.1 (hl2.2.2.symm.trans hl.2.2)
            subst he2
            clear hl hl2
            go_wp2
            go_roundw
            case rel => exact ⟨k + 1, by omega, by go_num, hB6⟩
            case measure => simp [intOf]; omega
          · exact absurd ⟨l, hl⟩ hno
    · go_wp2
      go_ret
      exact ⟨rfl, hBk⟩

end Go.Proofs.Ytldghcihijegaaa
