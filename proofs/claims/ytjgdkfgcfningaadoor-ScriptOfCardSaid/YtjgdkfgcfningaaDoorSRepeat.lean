/-
  Mul64 and Mul, of package math/bits, at 1 and a small number; slices.Repeat at a row of one number: a row of new memory, of so many of it.
  Conditions: at most 2 to the power 20 times, at least once.
-/
import Derived.Test.YtjgdkfgcfningaaDoorSWake
import Derived.Laws.CopyOwn
import Derived.Deep.RegionLaw
namespace Go.Proofs.YtjgdkfgcfningaaDoor
open Go.RowKit Go.Shelf
attribute [local go_sem] Oper.semAt_some

theorem and_low (k : Nat) (h : k < 4294967296) : bits .and .u64 (k : Int) 4294967295 = (k : Int) := by
  have e : bits .and .u64 (k : Int) ((4294967295 : Nat) : Int) = ((k &&& 4294967295 : Nat) : Int) := u64_and_nat _ _ (by omega) (by decide)
  have e2 : k &&& 4294967295 = k := by
    have := Nat.and_two_pow_sub_one_eq_mod k 32
    rw [show 2 ^ 32 - 1 = 4294967295 from rfl] at this
    rw [this]; omega
  rw [e2] at e
  exact e
set_option maxRecDepth 100000 in
set_option maxHeartbeats 2000000 in
theorem mul64_c (k : Nat) (hk : k ≤ 1048576) (W : World) : Calls Tryd.prog 56 #[.int .u64 1, .int .u64 (k : Int)] W fun e w' => e = .returned (.tuple #[.int .u64 0, .int .u64 (k : Int)]) ∧ w' = W := by
  have ha := and_low k (by omega)
  have hw : IntKind.u64.wrap (k : Int) = (k : Int) := by simp [IntKind.wrap, IntKind.signed, IntKind.bits]; omega
  have hs : (k : Int) / 4294967296 = 0 := by omega
  have hb1 : bits .and .u64 1 4294967295 = 1 := by decide
  have hb0 : bits .and .u64 0 4294967295 = 0 := by decide
  go_enter Tryd.func56, Tryd.ntmps56
  go_wp2
  exact bodyPost_ret (v := .tuple #[.int .u64 0, .int .u64 (k : Int)]) (by simp [results, Tryd.results56, go_sem]) rfl ⟨rfl, rfl⟩
set_option maxRecDepth 100000 in
theorem mul_c (k : Nat) (hk : k ≤ 1048576) (W : World) : Calls Tryd.prog 40 #[.int .u64 1, .int .u64 (k : Int)] W fun e w' => e = .returned (.tuple #[.int .u64 0, .int .u64 (k : Int)]) ∧ w' = W := by
  have HM := Lib.hid (mul64_c k hk W)
  go_enter Tryd.func40, Tryd.ntmps40
  go_wp2_with fail
  refine HM.out.mono ?_
  rintro e w1 ⟨rfl, rfl⟩
  go_wp2
  exact bodyPost_ret (v := .tuple #[.int .u64 0, .int .u64 (k : Int)]) (by simp [results, Tryd.results40, go_sem]) rfl ⟨rfl, rfl⟩
theorem run_makeI2 (n : Nat) (hn : n ≤ 1099511627776) (w : World) : (Instr.makeSlice 23 (.int .i64 (n : Int)) (.int .i64 (n : Int))).run Tryd.prog w = .ok (.slice (some ⟨w.heap.size, 0, none⟩) n n) (w.alloc (.cells (List.replicate n (Value.int .i64 0)).toArray 3)) := by
  obtain ⟨i0, hi, hz0, hz1, hz2⟩ := info_parts int_info
  have := run_make (P := Tryd.prog) w 23 3 i0 (.int .i64 0) Tryd.underlying23 hi hz0 .i64 .i64 (n : Int) (n : Int) (by omega) (by omega) (by rw [hz2]; omega) (by omega)
  rw [this, hz1]
  have e : madeCells (Value.int .i64 0).cells ((n : Int).toNat * 1) = (List.replicate n (Value.int .i64 0)).toArray := by
    apply Array.toList_inj.1
    rw [List.toList_toArray, Nat.mul_one, Int.toNat_natCast]
    exact toList_madeCells_one _ n
  rw [e]
  simp
theorem splice_rep (r z : Value) (n m k : Nat) : splice (List.replicate n r ++ List.replicate (k - n) z) n (List.replicate m r) = List.replicate (n + m) r ++ List.replicate (k - (n + m)) z := by
  unfold splice
  rw [List.take_left' (by simp), List.length_replicate, List.drop_append, List.length_replicate, List.drop_eq_nil_of_le (by simp), List.nil_append, List.drop_replicate, ← List.append_assoc, List.replicate_append_replicate, show n + m - n = m by omega, Nat.sub_sub]
set_option maxRecDepth 100000 in
theorem run_tailI (g c k : Nat) (h : c < k) (w : World) : (Instr.slice 23 (.slice (some ⟨g, 0, none⟩) k k) (some (.int .i64 (c : Int))) none none).run Tryd.prog w = .ok (.slice (some ⟨g, c, none⟩) (k - c) (k - c)) w := by
  rw [run_slice_l w 23 (some ⟨g, 0, none⟩) k k Tryd.underlying23 .i64 (c : Int) (by omega) (by omega), ints_size]
  have e : (if k = c then some (⟨g, 0, none⟩ : Addr) else some (if c = 0 then ⟨g, 0, none⟩ else ⟨g, c, none⟩)) = some ⟨g, c, none⟩ := by
    rw [if_neg (by omega)]
    by_cases h2 : c = 0 <;> simp [h2]
  simp [sliced, Result.andThen, Addr.add, e]

set_option maxRecDepth 100000 in
set_option maxHeartbeats 4000000 in
theorem repeat_c (r : Int) (b k : Nat) (W : World) (hc : W.cell? ⟨b, 0, none⟩ = some (.int .i64 r)) (h1 : 1 ≤ k) (hk : k ≤ 1048576) :
    Calls Tryd.prog 23 #[.slice (some ⟨b, 0, none⟩) 1 1, .int .i64 (k : Int)] W fun e w' => (∃ v', e = .returned v' ∧ w'.ownsRow W.heap.size 3 1 v' k (List.replicate k (.int .i64 r))) ∧ Below W.heap.size W w' := by
  have HM := Lib.hid (mul_c k hk W)
  have hmk := run_makeI2 k (by omega)
  obtain ⟨w1, hw1⟩ : ∃ w : World, w = W.alloc (.cells (Array.replicate k (Value.int .i64 0)) 3) := ⟨_, rfl⟩
  obtain ⟨g, hg⟩ : ∃ g, g = W.heap.size := ⟨_, rfl⟩
  have hb1 : Below g W w1 := by rw [hw1, hg]; exact (Below.refl _ _).alloc (Nat.le_refl _) _
  have hg1 : w1.heap[g]? = some (.cells (List.replicate k (Value.int .i64 0)).toArray 3 (0, 0)) := by rw [hw1, hg, List.toArray_replicate]; exact World.alloc_heap_new _ _
  have hc1 : w1.cell? ⟨b, 0, none⟩ = some (.int .i64 r) := below_cell (by rw [← hg]; exact hb1) hc
  have HG1 := Lib.hid hg1
  have HB1 := Lib.hid hb1
  have HW1 := Lib.hid hw1
  have HG := Lib.hid hg
  have huk : IntKind.u64.wrap (k : Int) = (k : Int) := by simp [IntKind.wrap, IntKind.signed, IntKind.bits]; omega
  have hik : IntKind.i64.wrap (k : Int) = (k : Int) := by simp [IntKind.wrap, IntKind.signed, IntKind.bits]; omega
  have hwk : wrap64 (k : Int) = (k : Int) := by unfold wrap64; omega
  clear hb1 hg1 hw1 hg hc
  go_enter Tryd.func23, Tryd.ntmps23
  go_wp2_with fail
  refine HM.out.mono ?_
  rintro e w0 ⟨rfl, rfl⟩
  clear HM
  go_upto_region 7 with (fail)
  rw [← HW1.out, ← HG.out]
  have HSR := Lib.hid (show ∀ j v, ([Value.int .i64 r])[j]? = some v → w1.cell? ((⟨b, 0, none⟩ : Addr).add j) = some v from fun j v hj => by
    rcases j with _ | j
    · simp only [List.getElem?_cons_zero, Option.some.injEq] at hj
      subst hj
      rw [addr_add_off]; exact hc1
    · simp at hj)
  have HN1 := Lib.hid (show ([Value.int .i64 r]).length = Nat.min 1 k from (Nat.min_eq_left h1).symm)
  have HFT := Lib.hid (show 0 + ([Value.int .i64 r]).length ≤ (List.replicate k (Value.int .i64 0)).length by rw [List.length_replicate]; exact h1)
  have HOC := Lib.hid (show ∀ v ∈ [Value.int .i64 r], v.oneCell' = true from fun v hv => by rw [List.mem_singleton.1 hv]; rfl)
  go_wp2_with (with_reducible refine wpList_copy_splice (o := ⟨some 33, _, _, _, _, _⟩) rfl (.tmp 31) (.tmp 32) 23 23 rfl 3 Tryd.underlying23 (by kernel_rfl) (some ⟨g, 0, none⟩) (some ⟨b, 0, none⟩) k k 1 1 rfl rfl g 0 (List.replicate k (Value.int .i64 0)) 3 HG1.out [.int .i64 r] HN1.out (fun _ => ⟨rfl, _, rfl, HSR.out⟩) HFT.out HOC.out g w0 HB1.out (Nat.le_refl _) ?_; intro w2 HG2 hB2)
  rw [show splice (List.replicate k (Value.int .i64 0)) 0 [.int .i64 r] = List.replicate 1 (Value.int .i64 r) ++ List.replicate (k - 1) (Value.int .i64 0) from splice_rep (.int .i64 r) (.int .i64 0) 0 1 k] at HG2
  have HB2 := Lib.hid hB2
  clear hB2 HG1 HB1 hmk hc1
  go_loopw [8] (fun iv wr => ∃ c : Nat, 1 ≤ c ∧ c ≤ k ∧ iv = .int .i64 c ∧ Hid (wr.heap[g]? = some (.cells (List.replicate c (Value.int .i64 r) ++ List.replicate (k - c) (Value.int .i64 0)).toArray 3 (0, 0)) ∧ Below g w0 wr)) (fun iv _ => k - (intOf iv).toNat)
  case atStart => exact ⟨1, Nat.le_refl _, h1, rfl, HG2.out, HB2.out⟩
  case round =>
    obtain ⟨c, hc1, hck, rfl, HI⟩ := hrel
    by_cases hlt : c < k
    · have hs1 := run_tailI g c k hlt
      have hs2 := run_cutI (some ⟨g, 0, none⟩) k k c hck
      obtain ⟨m, hm⟩ : ∃ m, m = min c (k - c) := ⟨_, rfl⟩
      have hm1 : 1 ≤ m := by omega
      have hmk : c + m ≤ k := by omega
      have hsrc : ∀ j v, (List.replicate m (Value.int .i64 r))[j]? = some v → wr.cell? ((⟨g, 0, none⟩ : Addr).add j) = some v := fun j v hj => by
        obtain ⟨h6, rfl⟩ := List.getElem?_eq_some_iff.1 hj
        rw [List.length_replicate] at h6
        rw [addr_add_off, Nat.zero_add]
        have h9 := HI.out.1
        have h8 : wr.cell? ⟨g, j, none⟩ = (List.replicate c (Value.int .i64 r) ++ List.replicate (k - c) (Value.int .i64 0)).toArray[j]? := by simp [World.cell?, h9]
        rw [h8, List.getElem?_toArray, List.getElem?_append_left (by rw [List.length_replicate]; omega), List.getElem_replicate, List.getElem?_replicate, if_pos (by omega)]
      have HS := Lib.hid hsrc
      have HN2 := Lib.hid (show (List.replicate m (Value.int .i64 r)).length = Nat.min c (k - c) by rw [List.length_replicate]; exact hm)
      have HF2 := Lib.hid (show c + (List.replicate m (Value.int .i64 r)).length ≤ (List.replicate c (Value.int .i64 r) ++ List.replicate (k - c) (Value.int .i64 0)).length by rw [List.length_append, List.length_replicate, List.length_replicate, List.length_replicate]; omega)
      have HO2 := Lib.hid (show ∀ v ∈ List.replicate m (Value.int .i64 r), v.oneCell' = true from fun v hv => by rw [List.eq_of_mem_replicate hv]; rfl)
      clear hsrc
      clear hm
      go_upto_region 9 with (fail)
      go_region_law (refine step_copy_splice rfl (.tmp 41) (.tmp 44) 23 23 rfl 3 Tryd.underlying23 (by kernel_rfl) (some ⟨g, c, none⟩) (some ⟨g, 0, none⟩) (k - c) (k - c) c k (by simp [Act.eval, Act.put]) (by simp [Act.eval, Act.put]) g c (List.replicate c (Value.int .i64 r) ++ List.replicate (k - c) (Value.int .i64 0)) 3 HI.out.1 (List.replicate m (Value.int .i64 r)) HN2.out (fun _ => ⟨rfl, _, rfl, HS.out⟩) HF2.out HO2.out g w0 HI.out.2.drew (Nat.le_refl _) ?_; intro w4 HG4 hB4; simp [Act.put, goInt])
      rw [splice_rep] at HG4
      have hadd : wrap64 ((c : Int) + (m : Int)) = ((c + m : Nat) : Int) := by unfold wrap64; omega
      have hadd2 : IntKind.i64.wrap ((c : Int) + (m : Int)) = ((c + m : Nat) : Int) := by simp [IntKind.wrap, IntKind.signed, IntKind.bits]; omega
      have HB4 := Lib.hid hB4
      clear hB4 HI HS HN2 HF2 HO2 hs1 hs2
      simp [Act.put, hadd2]
      go_wp2
      go_roundw
      case rel => exact ⟨c + m, by omega, hmk, by go_num, HG4.out, HB4.out⟩
      case measure => simp [intOf]; omega
    · obtain rfl : c = k := by omega
      have hh := HI.out.1
      rw [Nat.sub_self, List.replicate_zero, List.append_nil] at hh
      have HE := Lib.hid (show wr.ownsRow g 3 1 (.slice (some ⟨g, 0, none⟩) c c) c (List.replicate c (.int .i64 r)) from ⟨by simp, .inr ⟨g, c, _, rfl, Nat.le_refl _, hh, Nat.le_refl _, by unfold maxLen; omega, by simp, by simp⟩⟩)
      have HB := Lib.hid HI.out.2
      clear hh HI
      go_wp2
      go_ret
      exact ⟨⟨_, rfl, by rw [← HG.out]; exact HE.out⟩, by rw [← HG.out]; exact HB.out⟩

end Go.Proofs.YtjgdkfgcfningaaDoor
