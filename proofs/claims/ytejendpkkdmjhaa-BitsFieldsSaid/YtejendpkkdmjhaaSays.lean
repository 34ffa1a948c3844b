/-
  The functions of package bits that can answer an error, each by one contract: what it answers, for every input.
  Conditions: none but the ranges of Go's types.
-/
import Derived.Test.YtejendpkkdmjhaaWakes
namespace Go.Proofs.Ytejendpkkdmjhaa
open Go.RowKit Go.Shelf

theorem fits_or (w n : Nat) : fitsB w n = true ∨ fitsB w n = false := by cases fitsB w n <;> simp

/-- What Turn answers. -/
def TurnSays (w : Nat) (n v e : Int) : Prop :=
  (¬ (0 ≤ n ∧ n ≤ 64) ∧ v = 0 ∧ e = 2) ∨ (∃ m : Nat, n = m ∧ m ≤ 64 ∧ fitsB w m = false ∧ v = 0 ∧ e = 111) ∨ (∃ m : Nat, n = m ∧ m ≤ 64 ∧ fitsB w m = true ∧ v = (turnN w m : Nat) ∧ e = 0)
/-- What Left answers. -/
def LeftSays (w : Nat) (n v e : Int) : Prop :=
  (n < 0 ∧ v = 0 ∧ e = 2) ∨ (∃ m : Nat, n = m ∧ ¬ w * 2 ^ m < 18446744073709551616 ∧ v = 0 ∧ e = 111) ∨ (∃ m : Nat, n = m ∧ w * 2 ^ m < 18446744073709551616 ∧ v = (w * 2 ^ m : Nat) ∧ e = 0)
/-- What Signed answers. -/
def SignedSays (w : Nat) (n v e : Int) : Prop :=
  (¬ (1 ≤ n ∧ n ≤ 64) ∧ v = 0 ∧ e = 2) ∨ (∃ m : Nat, n = m ∧ 1 ≤ m ∧ m ≤ 64 ∧ v = sgnN w m ∧ e = 0)
/-- What Unsigned answers. -/
def UnsignedSays (x n v e : Int) : Prop :=
  (¬ (1 ≤ n ∧ n ≤ 64) ∧ v = 0 ∧ e = 2) ∨ (∃ m : Nat, n = m ∧ 1 ≤ m ∧ m ≤ 64 ∧ ¬ inN x m ∧ v = 0 ∧ e = 111) ∨ (∃ m : Nat, n = m ∧ 1 ≤ m ∧ m ≤ 64 ∧ inN x m ∧ v = (unsN x m : Nat) ∧ e = 0)
/-- What Text answers. -/
def TextSays (l : List UInt8) (v e : Int) : Prop :=
  (8 < l.length ∧ v = 0 ∧ e = 111) ∨ (l.length ≤ 8 ∧ hasNul l = true ∧ v = 0 ∧ e = 2) ∨ (l.length ≤ 8 ∧ hasNul l = false ∧ v = (textN l : Nat) ∧ e = 0)
/-- What Back answers. -/
def BackSays (w : Nat) (s : ByteArray) (e : Int) : Prop :=
  ((¬ ∃ l, isText w l) ∧ s = ⟨#[]⟩ ∧ e = 2) ∨ (∃ l, isText w l ∧ s = ⟨l.toArray⟩ ∧ e = 0)

def Two (k : IntKind) (P : Int → Int → Prop) (e : Ending) : Prop := ∃ v c, P v c ∧ e = .returned (.tuple #[.int k v, .int .i64 c])

theorem turn_any (w : Nat) (hw : w < 18446744073709551616) (n : Int) (W : World) :
    Calls Try.prog 27 #[.int .u64 w, .int .i64 n] W fun e w' => Two .u64 (TurnSays w n) e ∧ Below W.heap.size W w' := by
  by_cases h : 0 ≤ n ∧ n ≤ 64
  · obtain ⟨m, rfl⟩ := Int.eq_ofNat_of_zero_le h.1
    rcases fits_or w m with hf | hf
    · exact (turn_yes w m hw (by omega) hf W).mono fun e w' ⟨he, hb⟩ => ⟨⟨_, _, .inr (.inr ⟨m, rfl, by omega, hf, rfl, rfl⟩), he⟩, hb⟩
    · exact (turn_over w m hw (by omega) hf W).mono fun e w' ⟨he, hb⟩ => ⟨⟨_, _, .inr (.inl ⟨m, rfl, by omega, hf, rfl, rfl⟩), he⟩, hb⟩
  · exact (turn_no w n h W).mono fun e w' ⟨he, hb⟩ => ⟨⟨_, _, .inl ⟨h, rfl, rfl⟩, he⟩, hb⟩

theorem left_any (w : Nat) (hw : w < 18446744073709551616) (n : Int) (W : World) :
    Calls Try.prog 25 #[.int .u64 w, .int .i64 n] W fun e w' => Two .u64 (LeftSays w n) e ∧ w' = W := by
  by_cases h : n < 0
  · exact (left_no w n h W).mono fun e w' ⟨he, hb⟩ => ⟨⟨_, _, .inl ⟨h, rfl, rfl⟩, he⟩, hb⟩
  · obtain ⟨m, rfl⟩ := Int.eq_ofNat_of_zero_le (show 0 ≤ n by omega)
    by_cases hf : w * 2 ^ m < 18446744073709551616
    · exact (left_yes w m hf W).mono fun e w' ⟨he, hb⟩ => ⟨⟨_, _, .inr (.inr ⟨m, rfl, hf, rfl, rfl⟩), he⟩, hb⟩
    · exact (left_over w m hw hf W).mono fun e w' ⟨he, hb⟩ => ⟨⟨_, _, .inr (.inl ⟨m, rfl, hf, rfl, rfl⟩), he⟩, hb⟩

theorem signed_any (w : Nat) (n : Int) (W : World) :
    Calls Try.prog 31 #[.int .u64 w, .int .i64 n] W fun e w' => Two .i64 (SignedSays w n) e ∧ w' = W := by
  by_cases h : 1 ≤ n ∧ n ≤ 64
  · obtain ⟨m, rfl⟩ := Int.eq_ofNat_of_zero_le (show 0 ≤ n by omega)
    exact (signed_yes w m (by omega) (by omega) W).mono fun e w' ⟨he, hb⟩ => ⟨⟨_, _, .inr ⟨m, rfl, by omega, by omega, rfl, rfl⟩, he⟩, hb⟩
  · exact (signed_no w n h W).mono fun e w' ⟨he, hb⟩ => ⟨⟨_, _, .inl ⟨h, rfl, rfl⟩, he⟩, hb⟩

theorem unsigned_any (x n : Int) (W : World) :
    Calls Try.prog 33 #[.int .i64 x, .int .i64 n] W fun e w' => Two .u64 (UnsignedSays x n) e ∧ Below W.heap.size W w' := by
  by_cases h : 1 ≤ n ∧ n ≤ 64
  · obtain ⟨m, rfl⟩ := Int.eq_ofNat_of_zero_le (show 0 ≤ n by omega)
    by_cases hf : inN x m
    · exact (unsigned_yes x m (by omega) (by omega) hf W).mono fun e w' ⟨he, hb⟩ => ⟨⟨_, _, .inr (.inr ⟨m, rfl, by omega, by omega, hf, rfl, rfl⟩), he⟩, hb⟩
    · exact (unsigned_over x m (by omega) (by omega) hf W).mono fun e w' ⟨he, hb⟩ => ⟨⟨_, _, .inr (.inl ⟨m, rfl, by omega, by omega, hf, rfl, rfl⟩), he⟩, hb⟩
  · exact (unsigned_no x n h W).mono fun e w' ⟨he, hb⟩ => ⟨⟨_, _, .inl ⟨h, rfl, rfl⟩, he⟩, hb ▸ Below.refl _ _⟩

theorem text_any (s : ByteArray) (hs : s.size ≤ maxLen) (W : World) :
    Calls Try.prog 35 #[.string s] W fun e w' => Two .u64 (TextSays s.data.toList) e ∧ Below W.heap.size W w' := by
  have hl : s.data.toList.length = s.size := by simp
  by_cases h : 8 < s.size
  · exact (text_long s hs h W).mono fun e w' ⟨he, hb⟩ => ⟨⟨_, _, .inl ⟨by omega, rfl, rfl⟩, he⟩, hb⟩
  · refine (text_c s (by omega) W).mono fun e w' ⟨he, hb⟩ => ⟨⟨_, _, ?_, he⟩, hb⟩
    cases hn : hasNul s.data.toList with
    | true => exact .inr (.inl ⟨by omega, hn, by simp [textV, hn], by simp [textE, hn]⟩)
    | false => exact .inr (.inr ⟨by omega, hn, by simp [textV, hn], by simp [textE, hn]⟩)

def TwoS (P : ByteArray → Int → Prop) (e : Ending) : Prop := ∃ s c, P s c ∧ e = .returned (.tuple #[.string s, .int .i64 c])
theorem back_any (w : Nat) (hw : w < 18446744073709551616) (W : World) :
    Calls Try.prog 38 #[.int .u64 w] W fun e w' => TwoS (BackSays w) e ∧ Below W.heap.size W w' := by
  refine (back_c w hw W).mono ?_
  rintro e w' ⟨h | h, hb⟩
  · obtain ⟨l, hl, he⟩ := h
    exact ⟨⟨_, _, .inr ⟨l, hl, rfl, rfl⟩, he⟩, hb⟩
  · exact ⟨⟨_, _, .inl ⟨h.1, rfl, rfl⟩, h.2⟩, hb⟩

end Go.Proofs.Ytejendpkkdmjhaa
