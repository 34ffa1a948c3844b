/-
  The document's answers for texts (afterglowref01): Nought, Text, Back, for every text and word.
  Conditions: Text is called with at most eight bytes.
-/
import Derived.Test.YtldghcihijegaaaRef
namespace Go.Proofs.Ytldghcihijegaaa
open Go.RowKit Go.Shelf

theorem take_snoc_s (s : ByteArray) (k : Nat) (h : k < s.size) : s.data.toList.take (k + 1) = s.data.toList.take k ++ [s[k]] := by
  rw [List.take_succ_eq_append_getElem (by simpa using h)]; rfl

set_option maxHeartbeats 1000000 in
theorem nought_c (s : ByteArray) (hs : s.size ≤ maxLen) (W : World) :
    Calls Try.prog 36 #[.string s] W fun e w' => e = .returned (.bool (hasNul s.data.toList)) ∧ w' = W := by
  unfold maxLen at hs
  go_enter Try.func36, Try.ntmps36
  go_wp2
  go_loop [6] (fun i => ∃ k : Nat, k ≤ s.size ∧ i = .int .i64 k ∧ hasNul (s.data.toList.take k) = false) (fun i => s.size - (intOf i).toNat)
  case atStart => exact ⟨0, Nat.zero_le _, rfl, rfl⟩
  case round =>
    obtain ⟨k, hk, rfl, hn⟩ := hrel
    by_cases hlt : k < s.size
    · have ht := take_snoc_s s k hlt
      have hs2 := hasNul_snoc (s.data.toList.take k) s[k]
      rw [← ht, hn, Bool.false_or] at hs2
      have HS := Lib.hid hs2
      clear hs2 ht
      by_cases h0 : s[k].toNat = 0
      · have hz : ((s[k].toNat : Int) == 0) = true := by simp [h0]
        have hres : hasNul s.data.toList = true := by
          unfold hasNul; rw [List.any_eq_true]
          exact ⟨s[k], List.getElem_mem (by simpa using hlt), by rw [beq_iff_eq]; exact UInt8.toNat_inj.1 h0⟩
        have HR := Lib.hid hres
        clear hres h0
        go_wp2
        go_ret
        exact ⟨ret_bool HR.out.symm, rfl⟩
      · have hz : ((s[k].toNat : Int) == 0) = false := by simp; omega
        have hb : (s[k] == 0) = false := by rw [beq_eq_false_iff_ne]; intro e; rw [e] at h0; exact h0 rfl
        have HB := Lib.hid hb
        clear hb h0
        go_wp2
        go_round
        case rel => exact ⟨k + 1, by omega, by go_num, by rw [HS.out, HB.out]⟩
        case measure => simp [intOf]; omega
    · have ht : s.data.toList.take k = s.data.toList := List.take_of_length_le (by simp; omega)
      rw [ht] at hn
      have HN := Lib.hid hn
      clear hn ht
      go_wp2
      go_ret
      exact ⟨ret_bool HN.out.symm, rfl⟩

theorem drop_cons_s (s : ByteArray) (k : Nat) (h : k < s.size) : s.data.toList.drop k = s[k] :: s.data.toList.drop (k + 1) := by
  rw [List.drop_eq_getElem_cons (by simpa using h)]; rfl

set_option maxHeartbeats 1000000 in
theorem rtext_c (s : ByteArray) (hs : s.size ≤ 8) (W : World) :
    Calls Try.prog 37 #[.string s] W fun e w' => e = .returned (.int .u64 (textN s.data.toList)) ∧ w' = W := by
  go_enter Try.func37, Try.ntmps37
  go_wp2
  go_loop [3, 4] (fun v i => ∃ k : Nat, k ≤ s.size ∧ i = .int .i64 ((k : Int) - 1) ∧ v = .int .u64 (textN (s.data.toList.drop k))) (fun _ i => (intOf i + 1).toNat)
  case atStart => exact ⟨s.size, Nat.le_refl _, by rfl, by rw [List.drop_of_length_le (by simp)]; rfl⟩
  case round =>
    obtain ⟨k, hk, rfl, rfl⟩ := hrel
    cases k with
    | zero =>
      go_wp2
      go_ret
      exact ⟨rfl, rfl⟩
    | succ k =>
      have hlt : k < s.size := hk
      have hd := drop_cons_s s k hlt
      have hb := s[k].toNat_lt
      have h64 : textN (s.data.toList.drop k) < 18446744073709551616 := textN_64 _ (by simp; omega)
      have hst : textN (s.data.toList.drop k) = s[k].toNat + 256 * textN (s.data.toList.drop (k + 1)) := by rw [hd]; rfl
      have hidx : (((k + 1 : Nat) : Int) - 1) = (k : Int) := by omega
      rw [hidx]
      obtain ⟨t, ht⟩ : ∃ t, t = textN (s.data.toList.drop (k + 1)) := ⟨_, rfl⟩
      have hv : (256 : Int) * t + (s[k].toNat : Int) = (textN (s.data.toList.drop k) : Nat) := by rw [hst, ht]; omega
      have ht64 : 256 * t + s[k].toNat ≤ 18446744073709551615 := by rw [ht]; omega
      rw [← ht]
      have HV := Lib.hid hv
      clear hv hst hd h64 ht hidx
      go_wp2
      go_round
      case rel => exact ⟨k, by omega, rfl, by first | exact congrArg (Value.int .u64) HV.out | (rw [← HV.out]; simp [wrap_u64]; omega)⟩
      case measure => simp [intOf]

theorem text_split : ∀ (acc l : List UInt8) (x : Nat), hasNul acc = false → hasNul l = false → textN l = textN acc + 256 ^ acc.length * x → ∃ m, textN m = x ∧ hasNul m = false
  | [], l, x, _, h, e => ⟨l, by simpa [textN] using e, h⟩
  | a :: acc, [], x, h, _, e => by
    rw [hasNul_cons, Bool.or_eq_false_iff, beq_eq_false_iff_ne] at h
    have : a.toNat = 0 := by simp only [textN] at e; omega
    exact absurd (UInt8.toNat_inj.1 this) h.1
  | a :: acc, b :: l, x, h, h', e => by
    have ha := a.toNat_lt
    have hb := b.toNat_lt
    rw [hasNul_cons, Bool.or_eq_false_iff] at h h'
    simp only [textN, List.length_cons] at e
    rw [Nat.pow_succ, Nat.mul_comm (256 ^ acc.length) 256, Nat.mul_assoc] at e
    exact text_split acc l x h.2 h'.2 (by omega)
theorem text_mod {m : List UInt8} {x : Nat} (hx : textN m = x) (hn : hasNul m = false) (h0 : 0 < x) : x % 256 ≠ 0 := by
  cases m with
  | nil => simp only [textN] at hx; omega
  | cons b r =>
    rw [hasNul_cons, Bool.or_eq_false_iff, beq_eq_false_iff_ne] at hn
    have hb := b.toNat_lt
    simp only [textN] at hx
    intro e
    have : b.toNat = 0 := by omega
    exact hn.1 (UInt8.toNat_inj.1 this)

/-- The document's Back: the text whose word it is, or none. -/
def RBack (w : Nat) (e : Ending) : Prop :=
  (∃ l, isText w l ∧ e = .returned (.tuple #[.string ⟨l.toArray⟩, .bool true])) ∨ ((¬ ∃ l, isText w l) ∧ e = .returned (.tuple #[.string ⟨#[]⟩, .bool false]))
structure RBackI (w x : Nat) (acc : List UInt8) : Prop where
  nul : hasNul acc = false
  word : w = textN acc + 256 ^ acc.length * x
  len : acc.length ≤ 8
theorem RBackI.done {w : Nat} {acc : List UInt8} (h : RBackI w 0 acc) : isText w acc := ⟨h.len, h.nul, by rw [h.word]; simp⟩
theorem RBackI.none {w x : Nat} {acc : List UInt8} (h : RBackI w x acc) (h0 : 0 < x) (hm : x % 256 = 0) : ¬ ∃ l, isText w l := by
  rintro ⟨l, _, hn, hl⟩
  obtain ⟨m, hm1, hm2⟩ := text_split acc l x h.nul hn (by rw [← hl]; exact h.word)
  exact text_mod hm1 hm2 h0 hm
theorem RBackI.step {w x : Nat} {acc : List UInt8} (hw : w < 18446744073709551616) (h : RBackI w x acc) (h0 : 0 < x) (hm : x % 256 ≠ 0) : RBackI w (x / 256) (acc ++ [UInt8.ofNat (x % 256)]) := by
  have hb : (UInt8.ofNat (x % 256)).toNat = x % 256 := by simp [UInt8.toNat_ofNat']
  refine ⟨?_, ?_, ?_⟩
  · rw [hasNul_snoc, h.nul, Bool.false_or, beq_eq_false_iff_ne]
    intro e
    rw [e] at hb
    exact hm hb.symm
  · rw [textN_snoc, hb, List.length_append, List.length_singleton, Nat.pow_succ, Nat.mul_assoc, Nat.add_assoc, ← Nat.mul_add, show x % 256 + 256 * (x / 256) = x by omega]
    exact h.word
  · rw [List.length_append, List.length_singleton]
    rcases Nat.lt_or_ge acc.length 8 with h8 | h8
    · omega
    · exfalso
      have h1 : acc.length = 8 := by have := h.len; omega
      have h2 := h.word
      rw [h1] at h2
      have h3 : (256 : Nat) ^ 8 = 18446744073709551616 := rfl
      rw [h3] at h2
      omega

theorem bytes_snoc (acc : List UInt8) (b : UInt8) : (⟨acc.toArray⟩ : ByteArray) ++ (⟨#[b]⟩ : ByteArray) = ⟨(acc ++ [b]).toArray⟩ := by
  ext1
  simp

set_option maxHeartbeats 4000000 in
theorem rback_c (w : Nat) (hw : w < 18446744073709551616) (W : World) :
    Calls Try.prog 39 #[.int .u64 w] W fun e w' => RBack w e ∧ Below W.heap.size W w' := by
  go_enter Try.func39, Try.ntmps39
  go_wp2
  go_loopw [0, 4] (fun v o wr => ∃ (x : Nat) (acc : List UInt8), v = .int .u64 x ∧ o = .string ⟨acc.toArray⟩ ∧ RBackI w x acc ∧ x < 18446744073709551616 ∧ Below W.heap.size W wr) (fun v _ _ => (intOf v).toNat)
  case atStart => exact ⟨w, [], rfl, rfl, ⟨rfl, by simp [textN], by simp⟩, hw, Below.refl _ _⟩
  case round =>
    obtain ⟨x, acc, rfl, rfl, hI, hx, hB⟩ := hrel
    by_cases h0 : 0 < x
    · by_cases hm : x % 256 = 0
      · have hz : ((x : Int) % 256 == 0) = true := by rw [beq_iff_eq]; omega
        have hno := hI.none h0 hm
        have HN := Lib.hid hno
        clear hno hm hI
        go_wp2
        go_ret2
        exact ⟨.inr ⟨HN.out, rfl⟩, hB⟩
      · have hz : ((x : Int) % 256 == 0) = false := by rw [beq_eq_false_iff_ne]; omega
        have hs := hI.step hw h0 hm
        have hcv := run_convert_bytes_back (P := Try.prog) (wr.alloc (Obj.cells #[Value.int .u8 ((x : Int) % 256)] 5)) 79 9 5 ⟨wr.heap.size, 0, none⟩ 1 [UInt8.ofNat (x % 256)] Try.underlying79 Try.underlying5 Try.underlying9
          (fun i hi => by
            have hi0 : i = 0 := by simp at hi; omega
            subst hi0
            rw [addr_add]
            have hb : (UInt8.ofNat (x % 256)).toNat = x % 256 := by simp [UInt8.toNat_ofNat']
            simp [hb])
        simp only [List.length_singleton] at hcv
        have HS := Lib.hid hs
        have hlen : ¬ 9223372036854775807 < acc.length + 1 := by have := hI.len; omega
        clear hm hs hI
        go_wp2
        go_roundw
        case rel => exact ⟨x / 256, acc ++ [UInt8.ofNat (x % 256)], by go_num, congrArg Value.string (bytes_snoc acc _), HS.out, by omega, hB.alloc hB.size _⟩
        case measure => simp [intOf]; omega
    · obtain rfl : x = 0 := by omega
      have hd := hI.done
      have HD := Lib.hid hd
      clear hd hI
      go_wp2
      go_ret2
      exact ⟨.inl ⟨acc, HD.out, rfl⟩, hB⟩

end Go.Proofs.Ytldghcihijegaaa
