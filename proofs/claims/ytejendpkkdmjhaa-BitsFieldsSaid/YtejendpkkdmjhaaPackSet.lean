/-
  A packed word grows by setting the next field.
  Conditions: fields that lie apart, numbers that fit.
-/
import Derived.Test.YtejendpkkdmjhaaApart
namespace Go.Proofs.Ytejendpkkdmjhaa

theorem packL_set {fs : List (Int × Int)} {vs : List Int} {T : Nat} (h : chkTo fs = some T) (i : Nat) (hi : i < fs.length) (hiv : i < vs.length) (hfit : allFit ((fs.zip vs).take (i + 1)) = true) :
    setN (packL ((fs.zip vs).take i)) (fA fs[i]) (fK fs[i]) vs[i].toNat = packL ((fs.zip vs).take (i + 1)) := by
  have htk : (fs.zip vs).take (i + 1) = (fs.zip vs).take i ++ [(fs[i], vs[i])] := by
    rw [List.take_succ_eq_append_getElem (by simp; omega), List.getElem_zip]
  have hfits : ∀ x ∈ (fs.zip vs).take (i + 1), x.2.toNat < 2 ^ x.1.2.toNat := fun x hx => of_decide_eq_true (show decide (x.2.toNat < 2 ^ x.1.2.toNat) = true from List.all_eq_true.1 hfit x hx)
  have hv : vs[i].toNat < 2 ^ fK fs[i] := hfits (fs[i], vs[i]) (by rw [htk]; simp)
  refine Nat.eq_of_testBit_eq fun y => ?_
  rw [setN_bit _ _ _ _ _ hv, htk, packL_snoc, Nat.testBit_or, Nat.testBit_mul_two_pow]
  by_cases hy : fA fs[i] ≤ y ∧ y < fA fs[i] + fK fs[i]
  · have hno : (packL ((fs.zip vs).take i)).testBit y = false := by
      rw [packL_bit, List.any_eq_false]
      intro x hx
      obtain ⟨j, hj, rfl⟩ := List.mem_take_iff_getElem.1 hx
      have hj1 : j < i := by omega
      have hjf : j < fs.length := by omega
      have hjv : j < vs.length := by omega
      have hlt := hfits ((fs.zip vs)[j]'(by simp; omega)) (by rw [htk]; exact List.mem_append_left _ hx)
      have hap := chk_apart h j i hjf hi (by omega)
      rw [List.getElem_zip] at hlt ⊢
      simp only at hlt ⊢
      intro hb
      rw [Bool.and_eq_true, decide_eq_true_eq] at hb
      rcases hap with e | e
      · rw [bit_far hlt (by simp only [fA, fK] at *; omega)] at hb
        exact absurd hb.2 (by simp)
      · simp only [fA, fK] at *; omega
    rw [if_pos hy, hno]
    simp only [fA] at hy
    simp [hy.1]
  · rw [if_neg hy]
    by_cases ha : fA fs[i] ≤ y
    · have := bit_far (i := y - fA fs[i]) hv (by omega)
      simp only [fA] at this
      simp [this]
    · simp only [fA] at ha
      simp [ha]

end Go.Proofs.Ytejendpkkdmjhaa
