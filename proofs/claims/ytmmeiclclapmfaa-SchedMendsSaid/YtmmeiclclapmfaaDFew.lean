/-
  Rows of ints as the statements of layer 4 hold them; few, which hands over the first sixty in memory of their own; Mend, opened.
  Conditions: as each has them.
-/
import Derived.Test.YtmmeiclclapmfaaDSplit
import Derived.Test.YtmmeiclclapmfaaDRounds
namespace Go.Proofs.Ytmmeiclclapmfaa
open Go.RowKit Go.Shelf

/-- A slice that reads as these ints, no longer than its room. -/
structure RI (w : World) (p : Option Addr) (n c : Nat) (xs : List Int) : Prop where
  nums : NumsAt w .i64 (.slice p n c) xs
  len : n = xs.length
  room : n ≤ c
  nil : p = none → c = 0
theorem RI.below {w w' : World} {p : Option Addr} {n c : Nat} {xs : List Int} (h : RI w p n c xs) (hb : Below w.heap.size w w') : RI w' p n c xs := ⟨nums_below h.nums hb, h.len, h.room, h.nil⟩
theorem RI.of_owns {w : World} {B : Nat} {p : Option Addr} {n m c : Nat} {xs : List Int} (h : w.ownsRow B 3 1 (.slice p n c) m (xs.map (Value.int .i64))) : RI w p n c xs := by
  have hl : xs.length = m := by have := h.1; simpa using this
  have hn := nums_of_owns hl h
  refine ⟨hn, nums_len hn, ?_, ?_⟩
  · rcases h.2 with ⟨e, _⟩ | ⟨g, cap, cur, e, _, _, h1, _⟩
    · cases e; exact Nat.le_refl _
    · cases e; exact h1
  · rcases h.2 with ⟨e, _⟩ | ⟨g, cap, cur, e, _⟩
    · cases e; exact fun _ => rfl
    · cases e; exact fun h => by cases h
theorem RI.of_block {w : World} {b : Nat} {xs : List Int} (h : IBox w b xs) : RI w (some ⟨b, 0, none⟩) xs.length xs.length xs := by
  have := nums_block (n := xs.length) (c := xs.length) h (Nat.le_refl _)
  rw [List.take_length] at this
  exact ⟨this, rfl, Nat.le_refl _, fun h => by cases h⟩
theorem RI.vals {w : World} {p : Option Addr} {n c : Nat} {xs : List Int} (h : RI w p n c xs) : ValsAt w (.slice p n c) 1 n (xs.map (Value.int .i64)) := vals_nums h.nums fun _ => h.nil
theorem RI.take {w : World} {p : Option Addr} {n c : Nat} {xs : List Int} (h : RI w p n c xs) (m : Nat) (hm : m ≤ n) : RI w p m c (xs.take m) := by
  obtain ⟨q, cap, e, hc⟩ := h.nums
  injection e with e1 e2 e3
  have hl : (xs.take m).length = m := by rw [List.length_take]; have := h.len; omega
  refine ⟨⟨p, c, by rw [hl], fun hne => ?_⟩, hl.symm, Nat.le_trans hm h.room, h.nil⟩
  have hne' : xs ≠ [] := by rintro rfl; simp at hne
  obtain ⟨b, off, hq, hcs⟩ := hc hne'
  refine ⟨b, off, by rw [e1]; exact hq, fun i hi => ?_⟩
  rw [List.getElem_take]
  exact hcs i (by rw [List.length_take] at hi; omega)

theorem run_cutI (p : Option Addr) (n c k : Nat) (h : k ≤ c) (w : World) : (Instr.slice 22 (.slice p n c) none (some (.int .i64 (k : Int))) none).run Try.prog w = .ok (.slice p k c) w := by
  rw [run_slice_h w 22 p n c Try.underlying22 .i64 (k : Int) (by omega) (by omega), seq_size]
  have : Option.map (fun x : Addr => x.add 0) p = p := by cases p <;> simp [Addr.add_zero']
  simp [sliced, Result.andThen, this]
/-- What few, and Clone, answer. -/
def GivesRow (B : Nat) (xs : List Int) (e : Ending) (w' : World) : Prop := ∃ p c, e = .returned (.slice p xs.length c) ∧ w'.ownsRow B 3 1 (.slice p xs.length c) xs.length (xs.map (Value.int .i64))
theorem gives_of_new {B n : Nat} {xs : List Int} {e : Ending} {w' : World} (hn : xs.length = n) (h : OwnsNew B 3 1 n (xs.map (Value.int .i64)) e w') : GivesRow B xs e w' := by
  subst hn
  obtain ⟨v', rfl, ho⟩ := h
  obtain ⟨p, c, rfl⟩ := owns_slice ho
  exact ⟨p, c, rfl, ho⟩

set_option maxHeartbeats 4000000 in
theorem few_c (p : Option Addr) (n c : Nat) (xs : List Int) (W : World) (h : RI W p n c xs) (hl : n ≤ 9223372036854775807) :
    Calls Try.prog 9 #[.slice p n c] W fun e w' => GivesRow W.heap.size (xs.take 60) e w' ∧ Below W.heap.size W w' := by
  obtain ⟨k, hk⟩ : ∃ k, k = min n 60 := ⟨_, rfl⟩
  have hkn : k ≤ n := by omega
  have hT := h.take k hkn
  have hxk : xs.take k = xs.take 60 := by
    rw [hk, h.len]
    by_cases h6 : xs.length ≤ 60
    · rw [Nat.min_eq_left h6, List.take_length, List.take_of_length_le h6]
    · rw [Nat.min_eq_right (by omega)]
  have hlen : (xs.take k).length = k := hT.len.symm
  have HCL := (cloneI _ k _ W hT.vals (fun u hu => by obtain ⟨x, _, rfl⟩ := List.mem_map.1 hu; rfl) (by omega)).mono fun e w' hh => And.intro (gives_of_new hlen hh.1) hh.2
  rw [hxk] at HCL
  have hs : ∀ w, (Instr.slice 22 (.slice p n c) none (some (.int .i64 (k : Int))) none).run Try.prog w = .ok (.slice p k c) w := run_cutI p n c k (Nat.le_trans hkn h.room)
  have hm : ∀ w, (Builtin.min_ #[3, 3] 3 #[.int .i64 (n : Int), .int .i64 60]).run Try.prog w = .ok (.int .i64 (k : Int)) w := fun w => by
    have : (if (60 : Int) < (n : Int) then (60 : Int) else n) = (k : Int) := by rw [hk]; split <;> omega
    simp [Builtin.min_, Builtin.min2, this]
  clear hk hxk hlen hT h
  obtain ⟨ys, hys⟩ : ∃ ys, ys = xs.take 60 := ⟨_, rfl⟩
  rw [← hys] at HCL ⊢
  clear hys
  go_enter Try.func9, Try.ntmps9
  go_wp2_with fail
  refine HCL.mono ?_
  rintro e w1 ⟨⟨q, d, rfl, ho⟩, hb⟩
  have HO := Lib.hid ho
  clear ho HCL
  go_wp2
  go_ret
  exact ⟨⟨q, d, rfl, HO.out⟩, hb⟩

/-- Mend, opened. -/
theorem mend_yes (c k : Int) (p : Option Addr) (n d : Nat) (xs : List Int) (W : World) (h : RI W p n d xs) (hl : n ≤ 1099511627776) (hk2 : k ≤ 9223372036854775807) (hr : ∀ x ∈ xs, -9223372036854775808 ≤ x ∧ x ≤ 9223372036854775807) (hm : mayI c = true) (hk : c ≤ k) :
    Calls Try.prog 23 #[.int .i64 c, .int .i64 k, .slice p n d] W fun e w' => (∃ q r, e = .returned (.tuple #[.slice q n r, .int .i64 0]) ∧ RI w' q n r (mendL c.toNat k [] xs)) ∧ Below W.heap.size W w' := by
  refine (mend_c c k _ xs W h.nums (by rw [← h.len]; exact hl) hk2 hr).mono fun e w' ⟨hp, hb⟩ => ⟨?_, hb⟩
  unfold MendPost at hp
  rw [if_neg (by simp [hm]), if_neg (by omega)] at hp
  obtain ⟨v', rfl, ho⟩ := hp
  obtain ⟨q, r, rfl⟩ := owns_slice ho
  rw [← h.len] at ho ⊢
  exact ⟨q, r, rfl, RI.of_owns ho⟩
theorem mend_few (c k : Int) (p : Option Addr) (n d : Nat) (xs : List Int) (W : World) (h : RI W p n d xs) (hl : n ≤ 1099511627776) (hk2 : k ≤ 9223372036854775807) (hr : ∀ x ∈ xs, -9223372036854775808 ≤ x ∧ x ≤ 9223372036854775807) (hm : mayI c = true) (hk : k < c) :
    Calls Try.prog 23 #[.int .i64 c, .int .i64 k, .slice p n d] W fun e w' => e = .returned (.tuple #[.slice none 0 0, .int .i64 2]) ∧ Below W.heap.size W w' := by
  refine (mend_c c k _ xs W h.nums (by rw [← h.len]; exact hl) hk2 hr).mono fun e w' ⟨hp, hb⟩ => ⟨?_, hb⟩
  unfold MendPost at hp
  rwa [if_neg (by simp [hm]), if_pos hk] at hp
theorem mend_no (c k : Int) (p : Option Addr) (n d : Nat) (xs : List Int) (W : World) (h : RI W p n d xs) (hl : n ≤ 1099511627776) (hk2 : k ≤ 9223372036854775807) (hr : ∀ x ∈ xs, -9223372036854775808 ≤ x ∧ x ≤ 9223372036854775807) (hm : mayI c = false) :
    Calls Try.prog 23 #[.int .i64 c, .int .i64 k, .slice p n d] W fun e w' => e = .returned (.tuple #[.slice none 0 0, .int .i64 140]) ∧ Below W.heap.size W w' := by
  refine (mend_c c k _ xs W h.nums (by rw [← h.len]; exact hl) hk2 hr).mono fun e w' ⟨hp, hb⟩ => ⟨?_, hb⟩
  unfold MendPost at hp
  rwa [if_pos hm] at hp

theorem wake_mend : mendL 3 3 [] [2, 2, 2] = [2, 0, 1] := by decide +kernel
theorem wake_least : leastL 2 [0, 0, 1, 0] = 3 := by decide +kernel
theorem wake_rounds : roundsL 2 [0, 0, 1, 1, 0] = 2 := by decide +kernel
theorem wake_waits : wv 3 [0, 1, 0] = [0, 1, 3] := by decide +kernel
theorem wake_ok : okB 2 [0, 0, 1, 0] = true ∧ okB 2 [0, 0, 1, 1, 0] = true ∧ okB 3 [0, 1, 0] = true := by decide +kernel

end Go.Proofs.Ytmmeiclclapmfaa
