/-
  The document's answers of layer 2 that only look: Right, Same, In, All, Kind.
  Conditions: the memory reads as these lists, of at most 4096 words.
-/
import Derived.Test.YtgpbhdoidhhhhaaMTurnMath
namespace Go.Proofs.Ytgpbhdoidhhhhaa
open Go.RowKit Go.Shelf

set_option maxRecDepth 100000 in
set_option maxHeartbeats 2000000 in
theorem refRight_c (v : Value) (ws : List Int) (ls : List Bool) (f : Bool) (W : World) (hv : MemAt W v ws ls f) (hn : ws.length ≤ 4096) :
    Calls Try.prog 12 #[v] W fun e w' => e = .returned (.bool (rightB ws ls)) ∧ Below W.heap.size W w' := by
  obtain ⟨vw, vl, rfl, ⟨p0, c0, rfl, hw0⟩, q0, d0, rfl, hl0⟩ := hv
  have hB : Below W.heap.size W (W.alloc (.cells #[.slice p0 ws.length c0, .slice q0 ls.length d0, .bool f] 25)) := (Below.refl _ _).alloc (Nat.le_refl _) _
  have HB := Lib.hid hB
  have HW := Lib.hid hw0
  have HL := Lib.hid hl0
  clear hB hw0 hl0
  by_cases h1 : ws.length < 1
  · have HR := Lib.hid (show rightB ws ls = false by simp [rightB]; omega)
    go_enter Try.func12, Try.ntmps12
    go_wp2
    go_ret
    exact ⟨ret_bool HR.out.symm, HB.out⟩
  · by_cases h2 : ls.length = ws.length
    · have HH2 := Lib.hid h2
      have hne : ((ls.length : Int) != (ws.length : Int)) = false := by rw [h2]; simp
      clear h2
      go_enter Try.func12, Try.ntmps12
      go_wp2
      obtain ⟨b0, o0, rfl, hc0⟩ := HW.out (by intro e; rw [e] at h1; simp at h1)
      obtain ⟨b1, o1, rfl, hc1⟩ := HL.out (by intro e; have := HH2.out; rw [e] at this; simp at this; omega)
      have hcs0 : ∀ i (h : i < ws.length), (W.alloc (.cells #[.slice (some ⟨b0, o0, none⟩) ws.length c0, .slice (some ⟨b1, o1, none⟩) ls.length d0, .bool f] 25)).cell? ⟨b0, o0 + i, none⟩ = some (.int .u64 ws[i]) := fun i h => below_cell HB.out (hc0 i h)
      have hcs1 : ∀ i (h : i < ls.length), (W.alloc (.cells #[.slice (some ⟨b0, o0, none⟩) ws.length c0, .slice (some ⟨b1, o1, none⟩) ls.length d0, .bool f] 25)).cell? ⟨b1, o1 + i, none⟩ = some (.bool ls[i]) := fun i h => below_cell HB.out (hc1 i h)
      have HC0 := Lib.hid hcs0
      have HC1 := Lib.hid hcs1
      clear hc0 hc1 hcs0 hcs1 HW HL hne
      go_loop [27] (fun iv => ∃ i : Nat, i ≤ ws.length ∧ iv = .int .i64 i ∧ MayTo ls ws i) (fun iv => ws.length - (intOf iv).toNat)
      case atStart => exact ⟨0, Nat.zero_le _, rfl, rfl⟩
      case round =>
        obtain ⟨i, hi, rfl, hmt⟩ := hrel
        by_cases hlt : i < ws.length
        · have hlt' : i < ls.length := by have := HH2.out; omega
          have hlt1 : (i : Int) < (ls.length : Int) := by omega
          have hx := HC0.out i hlt
          have hz := HC1.out i hlt'
          have HS := Lib.hid (mayTo_step hmt hlt hlt')
          clear hmt
          obtain ⟨x, hxe⟩ : ∃ x, x = ws[i] := ⟨_, rfl⟩
          obtain ⟨b, hbe⟩ : ∃ b, b = ls[i] := ⟨_, rfl⟩
          rw [← hxe, ← hbe] at HS
          rw [← hxe] at hx
          rw [← hbe] at hz
          clear hxe hbe
          have HM : Hid (∀ c, mayB b x = c → (c = true → MayTo ls ws (i + 1)) ∧ (c = false → mayAll ls ws = false)) := Lib.hid (fun c h => by subst h; exact HS.out)
          clear HS
          cases b with
          | true =>
            go_wp2
            go_round
            case rel => exact ⟨i + 1, by omega, by go_num, (HM.out true rfl).1 rfl⟩
            case measure => simp [intOf]; omega
          | false =>
            by_cases hx0 : x = 0
            · subst hx0
              go_wp2
              go_round
              case rel => exact ⟨i + 1, by omega, by go_num, (HM.out true rfl).1 rfl⟩
              case measure => simp [intOf]; omega
            · by_cases hxp : x = 18369900232523579118
              · subst hxp
                go_wp2
                go_round
                case rel => exact ⟨i + 1, by omega, by go_num, (HM.out true rfl).1 rfl⟩
                case measure => simp [intOf]; omega
              · have hx0' : (x != 0) = true := by simpa using hx0
                have hxp' : (x != 18369900232523579118) = true := by simpa using hxp
                have HMF := Lib.hid ((HM.out false (by rw [mayB_free]; simp [poison, hx0, hxp])).2 rfl)
                go_wp2
                go_ret
                exact ⟨ret_bool (by rw [rightB_all (by omega) (by omega) HH2.out, HMF.out]), HB.out⟩
        · have hii : i = ws.length := by omega
          have HE := Lib.hid (mayTo_end (hii ▸ hmt) HH2.out)
          clear hmt hii
          go_wp2
          go_ret
          exact ⟨ret_bool (by rw [rightB_all (by omega) (by omega) HH2.out, HE.out]), HB.out⟩
    · have HR := Lib.hid (show rightB ws ls = false by simp [rightB]; omega)
      have hne : ((ls.length : Int) != (ws.length : Int)) = true := by simp; omega
      go_enter Try.func12, Try.ntmps12
      go_wp2
      go_ret
      exact ⟨ret_bool HR.out.symm, HB.out⟩

set_option maxRecDepth 100000 in
set_option maxHeartbeats 2000000 in
theorem refSame_t (v0 v1 : Value) (ws : List Int) (ls : List Bool) (f : Bool) (W : World) (h0 : MemAt W v0 ws ls f) (h1 : MemAt W v1 ws ls f) (hn : ws.length ≤ 4096) (hm : ls.length ≤ 4096) :
    Calls Try.prog 17 #[v0, v1] W fun e w' => e = .returned (.bool true) ∧ Below W.heap.size W w' := by
  obtain ⟨vw, vl, rfl, ⟨p0, c0, rfl, hw0⟩, q0, d0, rfl, hl0⟩ := h0
  obtain ⟨uw, ul, rfl, ⟨p1, c1, rfl, hw1⟩, q1, d1, rfl, hl1⟩ := h1
  obtain ⟨wo, hwo⟩ : ∃ wo : World, wo = (W.alloc (.cells #[.slice p0 ws.length c0, .slice q0 ls.length d0, .bool f] 25)).alloc (.cells #[.slice p1 ws.length c1, .slice q1 ls.length d1, .bool f] 25) := ⟨_, rfl⟩
  have hB : Below W.heap.size W wo := by rw [hwo]; exact ((Below.refl _ _).alloc (Nat.le_refl _) _).alloc (by simp) _
  have HB := Lib.hid hB
  have HW0 := Lib.hid (nums_below (show NumsAt W .u64 (.slice p0 ws.length c0) ws from ⟨_, _, rfl, hw0⟩) hB)
  have HW1 := Lib.hid (nums_below (show NumsAt W .u64 (.slice p1 ws.length c1) ws from ⟨_, _, rfl, hw1⟩) hB)
  have HL0 := Lib.hid (bools_below (show BoolsAt W (.slice q0 ls.length d0) ls from ⟨_, _, rfl, hl0⟩) hB)
  have HL1 := Lib.hid (bools_below (show BoolsAt W (.slice q1 ls.length d1) ls from ⟨_, _, rfl, hl1⟩) hB)
  have hz0 : MBox wo W.heap.size (.slice p0 ws.length c0) (.slice q0 ls.length d0) f := by rw [hwo]; exact (MBox.new _ _ _ _).alloc _
  have hz1 : MBox wo (W.heap.size + 1) (.slice p1 ws.length c1) (.slice q1 ls.length d1) f := by
    have := MBox.new (W.alloc (.cells #[.slice p0 ws.length c0, .slice q0 ls.length d0, .bool f] 25)) (.slice p1 ws.length c1) (.slice q1 ls.length d1) f
    rw [World.size_alloc] at this
    rw [hwo]; exact this
  obtain ⟨⟨ha0, ha1, ha2⟩, _⟩ := mbox_cells hz0
  obtain ⟨⟨hb0, hb1, hb2⟩, _⟩ := mbox_cells hz1
  have hf : (f != f) = false := by cases f <;> rfl
  have hw2 : ((ws.length : Int) != (ws.length : Int)) = false := by simp
  have hl2 : ((ls.length : Int) != (ls.length : Int)) = false := by simp
  clear hB hw0 hw1 hl0 hl1 hz0 hz1
  have HWO := Lib.hid hwo
  rw [hwo] at ha0 ha1 ha2 hb0 hb1 hb2
  clear hwo
  go_enter Try.func17, Try.ntmps17
  go_wp2
  rw [← HWO.out]
  rw [← HWO.out] at ha0 ha1 ha2 hb0 hb1 hb2
  clear hf hw2 hl2
  go_loop [35] (fun iv => ∃ i : Nat, i ≤ ws.length ∧ iv = .int .i64 i) (fun iv => ws.length - (intOf iv).toNat)
  case atStart => exact ⟨0, Nat.zero_le _, rfl⟩
  case round =>
    obtain ⟨i, hi, rfl⟩ := hrel
    by_cases hlt : i < ws.length
    · obtain ⟨x0, y0, rfl, hc0⟩ := nums_cells HW0.out (by omega)
      obtain ⟨x1, y1, rfl, hc1⟩ := nums_cells HW1.out (by omega)
      have hx := hc0 i hlt
      have hz := hc1 i hlt
      obtain ⟨x, hxe⟩ : ∃ x, x = ws[i] := ⟨_, rfl⟩
      rw [← hxe] at hx hz
      have hxx : (x != x) = false := by simp
      clear hc0 hc1 hxe
      go_wp2
      go_round
      case rel => exact ⟨i + 1, by omega, by go_num⟩
      case measure => simp [intOf]; omega
    · go_wp2
      go_loop [51] (fun iv => ∃ j : Nat, j ≤ ls.length ∧ iv = .int .i64 j) (fun iv => ls.length - (intOf iv).toNat)
      case atStart => exact ⟨0, Nat.zero_le _, rfl⟩
      case round =>
        obtain ⟨j, hj, rfl⟩ := hrel
        by_cases hlt : j < ls.length
        · obtain ⟨x0, y0, rfl, hc0⟩ := bools_cells HL0.out (by omega)
          obtain ⟨x1, y1, rfl, hc1⟩ := bools_cells HL1.out (by omega)
          have hx := hc0 j hlt
          have hz := hc1 j hlt
          obtain ⟨x, hxe⟩ : ∃ x, x = ls[j] := ⟨_, rfl⟩
          rw [← hxe] at hx hz
          have hxx : (x != x) = false := by simp
          clear hc0 hc1 hxe
          go_wp2
          go_round
          case rel => exact ⟨j + 1, by omega, by go_num⟩
          case measure => simp [intOf]; omega
        · go_wp2
          go_ret
          exact ⟨rfl, HB.out⟩

set_option maxRecDepth 100000 in
set_option maxHeartbeats 2000000 in
theorem refIn_c (p : Option Addr) (n c : Nat) (v : Value) (hv : ∃ q m d, v = .slice q m d) (f : Bool) (a k : Int) (W : World) (hn : n ≤ 4096) (ha : -9223372036854775808 ≤ a) (hk : k ≤ 9223372036854775807) :
    Calls Try.prog 13 #[.agg #[.slice p n c, v, .bool f], .int .i64 a, .int .i64 k] W fun e w' => e = .returned (.bool (thereB n a k)) ∧ Below W.heap.size W w' := by
  obtain ⟨q, m, d, rfl⟩ := hv
  have HB := Lib.hid (show Below W.heap.size W (W.alloc (.cells #[.slice p n c, .slice q m d, .bool f] 25)) from (Below.refl _ _).alloc (Nat.le_refl _) _)
  by_cases h1 : 1 ≤ k
  · by_cases h2 : 0 ≤ a
    · by_cases h3 : a < (n : Int)
      · have hsub : IntKind.i64.wrap ((n : Int) - a) = (n : Int) - a := by simp [IntKind.wrap, IntKind.signed, IntKind.bits]; omega
        by_cases h4 : k ≤ (n : Int) - a
        · have HR := Lib.hid (show thereB n a k = true by rw [thereB_iff]; omega)
          go_enter Try.func13, Try.ntmps13
          go_wp2
          go_ret
          exact ⟨ret_bool HR.out.symm, HB.out⟩
        · have HR := Lib.hid (show thereB n a k = false by simp [thereB]; omega)
          go_enter Try.func13, Try.ntmps13
          go_wp2
          go_ret
          exact ⟨ret_bool HR.out.symm, HB.out⟩
      · have HR := Lib.hid (show thereB n a k = false by simp [thereB]; omega)
        go_enter Try.func13, Try.ntmps13
        go_wp2
        go_ret
        exact ⟨ret_bool HR.out.symm, HB.out⟩
    · have HR := Lib.hid (show thereB n a k = false by simp [thereB]; omega)
      go_enter Try.func13, Try.ntmps13
      go_wp2
      go_ret
      exact ⟨ret_bool HR.out.symm, HB.out⟩
  · have HR := Lib.hid (show thereB n a k = false by simp [thereB]; omega)
    go_enter Try.func13, Try.ntmps13
    go_wp2
    go_ret
    exact ⟨ret_bool HR.out.symm, HB.out⟩

theorem refKind_c (k a o n : Int) (W : World) : Calls Try.prog 21 #[.agg #[.int .i64 k, .int .i64 a, .int .u64 o, .int .u64 n]] W fun e w' => e = .returned (.bool (kindB k)) ∧ Below W.heap.size W w' := by
  have HB := Lib.hid (show Below W.heap.size W (W.alloc (.cells #[.int .i64 k, .int .i64 a, .int .u64 o, .int .u64 n] 44)) from (Below.refl _ _).alloc (Nat.le_refl _) _)
  by_cases h1 : 1 ≤ k
  · by_cases h2 : k ≤ 3
    · have HR := Lib.hid (show kindB k = true by simp [kindB, h1, h2])
      go_enter Try.func21, Try.ntmps21
      go_wp2
      go_ret
      exact ⟨ret_bool HR.out.symm, HB.out⟩
    · have HR := Lib.hid (show kindB k = false by simp [kindB, h2])
      go_enter Try.func21, Try.ntmps21
      go_wp2
      go_ret
      exact ⟨ret_bool HR.out.symm, HB.out⟩
  · have HR := Lib.hid (show kindB k = false by simp [kindB, h1])
    go_enter Try.func21, Try.ntmps21
    go_wp2
    go_ret
    exact ⟨ret_bool HR.out.symm, HB.out⟩

theorem all_next {p : Nat → Prop} {i : Nat} (h : ∀ m, m < i → p m) (hi : p i) : ∀ m, m < i + 1 → p m := fun m hm => by
  rcases Nat.lt_or_ge m i with h' | h'
  · exact h m h'
  · obtain rfl : m = i := by omega
    exact hi
/-- Are so many words, from one on, all live, or all free? -/
def allB (ls : List Bool) (x k : Nat) (d : Bool) : Bool := (List.range k).all fun i => ls.getD (x + i) false == d
theorem allB_true {ls : List Bool} {x k : Nat} {d : Bool} : allB ls x k d = true ↔ ∀ i, i < k → ls.getD (x + i) false = d := by simp [allB]

set_option maxRecDepth 100000 in
set_option maxHeartbeats 2000000 in
theorem refAll_c (v : Value) (ws : List Int) (ls : List Bool) (f : Bool) (x k : Nat) (d : Bool) (W : World) (hv : MemAt W v ws ls f) (hcap0 : ∀ x y p n c, v = .agg #[x, .slice p n c, y] → n ≤ c ∧ c ≤ 9223372036854775807) (hm : ls.length ≤ 4096) (hk : 1 ≤ k) (hxk : x + k ≤ ls.length) :
    Calls Try.prog 14 #[v, .int .i64 (x : Int), .int .i64 (k : Int), .bool d] W fun e w' => e = .returned (.bool (allB ls x k d)) ∧ Below W.heap.size W w' := by
  obtain ⟨vw, vl, rfl, ⟨p0, c0, rfl, hw0⟩, q0, d0, rfl, hl0⟩ := hv
  obtain ⟨hcap, hcap2⟩ := hcap0 _ _ _ _ _ rfl
  obtain ⟨b1, o1, rfl, hc1⟩ := hl0 (by intro e; rw [e] at hxk; simp at hxk; omega)
  have HB := Lib.hid (show Below W.heap.size W (W.alloc (.cells #[.slice p0 ws.length c0, .slice (some ⟨b1, o1, none⟩) ls.length d0, .bool f] 25)) from (Below.refl _ _).alloc (Nat.le_refl _) _)
  have HC := Lib.hid (show ∀ i (h : i < ls.length), (W.alloc (.cells #[.slice p0 ws.length c0, .slice (some ⟨b1, o1, none⟩) ls.length d0, .bool f] 25)).cell? ⟨b1, o1 + i, none⟩ = some (.bool ls[i]) from fun i h => below_cell HB.out (hc1 i h))
  have hdx : x + k ≤ d0 := by omega
  clear hcap0 hw0 hc1
  go_enter Try.func14, Try.ntmps14
  go_wp2
  rw [show x + k - x = k by omega]
  go_loop [19] (fun iv => ∃ i : Nat, i ≤ k ∧ iv = .int .i64 i ∧ ∀ m, m < i → ls.getD (x + m) false = d) (fun iv => k - (intOf iv).toNat)
  case atStart => exact ⟨0, Nat.zero_le _, rfl, fun m hm => absurd hm (Nat.not_lt_zero _)⟩
  case round =>
    obtain ⟨i, hi, rfl, hall⟩ := hrel
    have HA := Lib.hid hall
    clear hall
    by_cases hlt : i < k
    · have hx := HC.out (x + i) (by omega)
      rw [← Nat.add_assoc] at hx
      have hgd : ls.getD (x + i) false = ls[x + i]'(by omega) := by rw [List.getD_eq_getElem?_getD, List.getElem?_eq_getElem (by omega)]; rfl
      obtain ⟨b, hb⟩ : ∃ b, b = ls[x + i]'(by omega) := ⟨_, rfl⟩
      rw [← hb] at hx hgd
      have HGD := Lib.hid hgd
      clear hb hgd
      by_cases hbd : b = d
      · subst hbd
        have hbb : (b != b) = false := by simp
        go_wp2
        go_round
        case rel => exact ⟨i + 1, by omega, by go_num, all_next HA.out HGD.out⟩
        case measure => simp [intOf]; omega
      · have hbb : (b == d) = false := by simpa using hbd
        have HF := Lib.hid (show allB ls x k d = false by
          cases h : allB ls x k d with
          | false => rfl
          | true => exact absurd (HGD.out.symm.trans (allB_true.1 h i hlt)) hbd)
        go_wp2
        go_ret
        exact ⟨ret_bool HF.out.symm, HB.out⟩
    · have HT := Lib.hid (show allB ls x k d = true from allB_true.2 fun m hm => HA.out m (by omega))
      go_wp2
      go_ret
      exact ⟨ret_bool HT.out.symm, HB.out⟩

end Go.Proofs.Ytgpbhdoidhhhhaa
