/-
  Pack of package bits, called with any slices of fields and of words; what was in memory stays.
  Conditions: at most 2 to the power 40 fields.
-/
import Derived.Test.YtejendpkkdmjhaaSplit
import Derived.Test.YtejendpkkdmjhaaEqual
import Derived.Deep.QuietTactic
import Derived.BigQuiet
namespace Go.Proofs.Ytejendpkkdmjhaa
open Go.RowKit Go.Shelf

/-- The word that Pack has put together of these fields, and numbers. -/
def packL (l : List ((Int × Int) × Int)) : Nat := l.foldl (fun w x => w ||| x.2.toNat * 2 ^ x.1.1.toNat) 0
/-- Does each number fit? -/
def allFit (l : List ((Int × Int) × Int)) : Bool := l.all fun x => fitsB x.2.toNat x.1.2.toNat
theorem packL_snoc (l : List ((Int × Int) × Int)) (x : (Int × Int) × Int) : packL (l ++ [x]) = packL l ||| x.2.toNat * 2 ^ x.1.1.toNat := by simp [packL]
theorem allFit_snoc (l : List ((Int × Int) × Int)) (x : (Int × Int) × Int) : allFit (l ++ [x]) = (allFit l && fitsB x.2.toNat x.1.2.toNat) := by simp [allFit]
theorem allFit_take (l : List ((Int × Int) × Int)) (n : Nat) (h : allFit (l.take n) = false) : allFit l = false := by
  unfold allFit at h ⊢
  rw [List.all_eq_false] at h ⊢
  obtain ⟨x, hx, hf⟩ := h
  exact ⟨x, List.mem_of_mem_take hx, hf⟩
def packV (l : List ((Int × Int) × Int)) : Nat := if allFit l then packL l else 0
def packE (l : List ((Int × Int) × Int)) : Int := if allFit l then 0 else 111

set_option maxHeartbeats 1000000 in
theorem pack_no (v0 v1 : Value) (fs : List (Int × Int)) (W : World) (hv : FieldsAt W v0 fs) (hlen : fs.length ≤ 1099511627776) (hc : chkTo fs = none) :
    Calls Try.prog 15 #[v0, v1] W fun e w' => e = .returned (.tuple #[.int .u64 0, .int .i64 110]) ∧ Below W.heap.size W w' := by
  have he : chkE fs = 110 := by simp [chkE, hc]
  go_enter Try.func15, Try.ntmps15
  go_wp2_with fail
  refine (check_c v0 fs _ hv (by omega)).mono ?_
  rintro e w1 ⟨rfl, hb1⟩
  rw [he]
  go_wp2
  go_ret2
  exact ⟨rfl, hb1⟩

set_option maxHeartbeats 1000000 in
theorem pack_len (v0 v1 : Value) (fs : List (Int × Int)) (vs : List Int) (W : World) (hv : FieldsAt W v0 fs) (hv1 : NumsAt W .u64 v1 vs) (hlen : fs.length ≤ 1099511627776) (T : Nat) (hc : chkTo fs = some T) (hne : fs.length ≠ vs.length) :
    Calls Try.prog 15 #[v0, v1] W fun e w' => e = .returned (.tuple #[.int .u64 0, .int .i64 2]) ∧ Below W.heap.size W w' := by
  have he : chkE fs = 0 := by simp [chkE, hc]
  have hvv := hv
  obtain ⟨p, cap, rfl, hrange, hcells⟩ := hv
  obtain ⟨p1, cap1, rfl, hc1⟩ := hv1
  have hne' : ((fs.length : Int) != (vs.length : Int)) = true := by rw [bne_iff_ne]; omega
  go_enter Try.func15, Try.ntmps15
  go_wp2_with fail
  refine (check_c _ fs _ hvv (by omega)).mono ?_
  rintro e w1 ⟨rfl, hb1⟩
  rw [he]
  go_wp2
  go_ret2
  exact ⟨rfl, hb1⟩

theorem pack_or (w v a k : Nat) (hw : w < 18446744073709551616) (hv : v < 2 ^ k) (h : a + k ≤ 64) : bits .or .u64 (w : Int) (IntKind.u64.wrap ((v : Int) * 2 ^ a)) = (w ||| v * 2 ^ a : Nat) ∧ w ||| v * 2 ^ a < 18446744073709551616 := by
  have hlt : v * 2 ^ a < 18446744073709551616 := by
    have h1 : v * 2 ^ a < 2 ^ k * 2 ^ a := Nat.mul_lt_mul_of_pos_right hv (Nat.two_pow_pos a)
    rw [← Nat.pow_add, Nat.add_comm k a] at h1
    exact Nat.lt_of_lt_of_le h1 (pow_le_64 h)
  refine ⟨?_, Nat.or_lt_two_pow (n := 64) hw hlt⟩
  rw [show (2 : Int) ^ a = ((2 ^ a : Nat) : Int) by simp, ← Int.natCast_mul, wrap_u64, ← u64_or_nat _ _ hw hlt]
  congr 1
  omega

set_option maxHeartbeats 4000000 in
theorem pack_yes (v0 v1 : Value) (fs : List (Int × Int)) (vs : List Int) (W : World) (hv : FieldsAt W v0 fs) (hv1 : NumsAt W .u64 v1 vs) (hvs : ∀ x ∈ vs, 0 ≤ x ∧ x ≤ 18446744073709551615) (hlen : fs.length ≤ 1099511627776) (T : Nat) (hc : chkTo fs = some T) (heq : fs.length = vs.length) :
    Calls Try.prog 15 #[v0, v1] W fun e w' => e = .returned (.tuple #[.int .u64 (packV (fs.zip vs)), .int .i64 (packE (fs.zip vs))]) ∧ Below W.heap.size W w' := by
  have he : chkE fs = 0 := by simp [chkE, hc]
  have hfs := chk_field hc
  have hvv := hv
  obtain ⟨p, cap, rfl, hrange, hcells⟩ := hv
  obtain ⟨p1, cap1, rfl, hc1⟩ := hv1
  have hne' : ((fs.length : Int) != (vs.length : Int)) = false := by rw [bne_eq_false_iff_eq]; omega
  have HE := Lib.hid heq
  clear heq
  go_enter Try.func15, Try.ntmps15
  go_wp2_with fail
  refine (check_c _ fs _ hvv (by omega)).mono ?_
  rintro e w1 ⟨rfl, hb1⟩
  rw [he]
  go_wp2_with fail
  go_loopw [7, 22] (fun wv iv wr => ∃ i x : Nat, i ≤ fs.length ∧ iv = .int .i64 i ∧ wv = .int .u64 x ∧ x = packL ((fs.zip vs).take i) ∧ x < 18446744073709551616 ∧ allFit ((fs.zip vs).take i) = true ∧ Below W.heap.size W wr) (fun _ iv _ => fs.length - (intOf iv).toNat)
  case atStart => exact ⟨0, 0, Nat.zero_le _, rfl, rfl, rfl, by decide, rfl, hb1⟩
  case round =>
    obtain ⟨i, x, hi2, rfl, rfl, hx0, hx64, hfit, hB⟩ := hrel
    by_cases hlt : i < fs.length
    · obtain ⟨b, off, rfl, hcs⟩ := hcells (by intro e; rw [e] at hlt; cases hlt)
      have hlt1 : i < vs.length := by have := HE.out; omega
      obtain ⟨b1, off1, rfl, hcs1⟩ := hc1 (by intro e; rw [e] at hlt1; cases hlt1)
      obtain ⟨hx, hy⟩ := hcs i hlt
      have hz := hcs1 i hlt1
      have hzr := hvs _ (List.getElem_mem hlt1)
      have hf := hfs _ (List.getElem_mem hlt)
      have htk : (fs.zip vs).take (i + 1) = (fs.zip vs).take i ++ [(fs[i], vs[i])] := by
        rw [List.take_succ_eq_append_getElem (by simp; omega), List.getElem_zip]
      obtain ⟨⟨a, k⟩, hak⟩ : ∃ f, f = fs[i] := ⟨_, rfl⟩
      obtain ⟨v, hve⟩ : ∃ v, v = vs[i] := ⟨_, rfl⟩
      rw [← hak] at hx hy hf htk
      rw [← hve] at hz hzr htk
      simp only at hx hy hf
      obtain ⟨f1, f2, f3⟩ := isF_iff.1 hf
      obtain ⟨a, rfl⟩ := Int.eq_ofNat_of_zero_le f2
      obtain ⟨k, rfl⟩ := Int.eq_ofNat_of_zero_le (show 0 ≤ k by omega)
      obtain ⟨v, rfl⟩ := Int.eq_ofNat_of_zero_le hzr.1
      have hv64 : v < 18446744073709551616 := by omega
      have hfn : allFit ((fs.zip vs).take (i + 1)) = fitsB v k := by rw [htk, allFit_snoc, hfit]; rfl
      have hpn : packL ((fs.zip vs).take (i + 1)) = x ||| v * 2 ^ a := by rw [htk, packL_snoc, ← hx0]; rfl
      have hx' := (hB.cell (World.block_lt_of_cell? W _ hx)).trans hx
      have hy' := (hB.cell (World.block_lt_of_cell? W _ hy)).trans hy
      have hz' := (hB.cell (World.block_lt_of_cell? W _ hz)).trans hz
      have HF := Lib.hid hfn
      have HP := Lib.hid hpn
      have hakn : a + k ≤ 64 := by omega
      have hz2 : (wr.alloc (.cells #[.int .i64 a, .int .i64 k] 28)).cell? ⟨b1, off1 + i, none⟩ = some (.int .u64 v) := by
        rw [World.cell?_alloc_lt _ _ _ (World.block_lt_of_cell? wr _ hz')]; exact hz'
      clear hx hy hz hcs hcs1 hak hve hf hfn hpn htk hx0 hfit
      go_wp2_with fail
      rcases Bool.eq_false_or_eq_true (fitsB v k) with hfb | hfb
      · have hv2 := of_decide_eq_true (show decide (v < 2 ^ k) = true from hfb)
        obtain ⟨ho1, ho2⟩ := pack_or x v a k hx64 hv2 hakn
        have HO := Lib.hid (And.intro ho1 ho2)
        clear ho1 ho2 hv2
        go_region_held3 (fun w' => w'.cell? ⟨b1, off1 + i, none⟩ = some (.int .u64 v) ∧ w'.cell? ⟨wr.heap.size, 0, none⟩ = some (.int .i64 a) ∧ w'.cell? ⟨wr.heap.size, 1, none⟩ = some (.int .i64 k) ∧ Below W.heap.size W w')
          (first
            | exact ⟨hz2, by simp, by simp, (hB.alloc hB.size _).drew⟩
            | go_keep
            | (go_split_ands; exact ⟨below_cell hb3 (by assumption), below_cell hb3 (by assumption), below_cell hb3 (by assumption), below_then (by assumption) (Below.size (by assumption)) hb3⟩))
          (first | (go_at_call 44; refine (fits_c v k hv64 (by omega) _).mono ?_; rintro e w3 ⟨rfl, hb3⟩; rw [hfb]))
        all_goals go_split_ands
        all_goals rename_i hc1' hc2' hc3' hB3
        all_goals go_wp2
        all_goals go_quiet (fail)
        all_goals go_wp2
        all_goals
          go_roundw
          case rel => exact ⟨i + 1, x ||| v * 2 ^ a, by omega, by go_num, by rw [HO.out.1], HP.out.symm, HO.out.2, by rw [HF.out]; exact hfb, below_drewN hB3 _⟩
          case measure => simp [intOf]; omega
      · go_region_held3 (fun w' => w'.cell? ⟨b1, off1 + i, none⟩ = some (.int .u64 v) ∧ w'.cell? ⟨wr.heap.size, 0, none⟩ = some (.int .i64 a) ∧ w'.cell? ⟨wr.heap.size, 1, none⟩ = some (.int .i64 k) ∧ Below W.heap.size W w')
          (first
            | exact ⟨hz2, by simp, by simp, (hB.alloc hB.size _).drew⟩
            | go_keep
            | (go_split_ands; exact ⟨below_cell hb3 (by assumption), below_cell hb3 (by assumption), below_cell hb3 (by assumption), below_then (by assumption) (Below.size (by assumption)) hb3⟩))
          (first | (go_at_call 44; refine (fits_c v k hv64 (by omega) _).mono ?_; rintro e w3 ⟨rfl, hb3⟩; rw [hfb]))
        all_goals go_split_ands
        all_goals rename_i hc1' hc2' hc3' hB3
        all_goals have hno := allFit_take (fs.zip vs) (i + 1) (HF.out.trans hfb)
        all_goals have HNO := Lib.hid hno
        all_goals clear hno
        all_goals go_wp2
        all_goals go_ret2
        all_goals exact ⟨ret_two (val_int (by simp [packV, HNO.out])) (val_int (by simp [packE, HNO.out])), hB3⟩
    · obtain rfl : i = fs.length := by omega
      have hz : (fs.zip vs).take fs.length = fs.zip vs := List.take_of_length_le (by simp; omega)
      rw [hz] at hx0 hfit
      have HX := Lib.hid hx0
      have HF := Lib.hid hfit
      clear hx0 hfit hz
      go_wp2
      go_ret2
      exact ⟨ret_two (val_int (by simp only [packV, HF.out, if_true]; rw [HX.out])) (val_int (by simp only [packE, HF.out, if_true])), hB⟩

end Go.Proofs.Ytejendpkkdmjhaa
