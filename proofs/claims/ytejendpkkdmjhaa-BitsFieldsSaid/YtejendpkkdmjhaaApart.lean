/-
  Plain mathematics of fields that lie apart: what the run of Check says of them; Split of Pack; Split of Set.
  Conditions: as each lemma has them.
-/
import Derived.Test.YtejendpkkdmjhaaPack
namespace Go.Proofs.Ytejendpkkdmjhaa

abbrev fA (f : Int × Int) : Nat := f.1.toNat
abbrev fK (f : Int × Int) : Nat := f.2.toNat
def apartF (f g : Int × Int) : Prop := fA f + fK f ≤ fA g ∨ fA g + fK g ≤ fA f
theorem apartF_symm {f g : Int × Int} (h : apartF f g) : apartF g f := h.symm

theorem chk_inv (fs : List (Int × Int)) (n : Nat) : n ≤ fs.length → ∀ T, chkTo (fs.take n) = some T →
    (∀ x, T.testBit x = true ↔ ∃ i, ∃ h : i < fs.length, i < n ∧ fA fs[i] ≤ x ∧ x < fA fs[i] + fK fs[i]) ∧
    ∀ i j, ∀ hi : i < fs.length, ∀ hj : j < fs.length, i < j → j < n → apartF fs[i] fs[j] := by
  induction n with
  | zero =>
    intro _ T hT
    have : T = 0 := by cases hT; rfl
    subst this
    exact ⟨fun x => ⟨fun h => by simp at h, fun ⟨i, _, h, _⟩ => by omega⟩, fun i j _ _ h h2 => by omega⟩
  | succ n ih =>
    intro hn T hT
    have hlt : n < fs.length := hn
    rw [take_snoc fs n hlt, chkTo_snoc] at hT
    obtain ⟨T0, h0, h1⟩ := Option.bind_eq_some_iff.1 hT
    obtain ⟨hbits, hpairs⟩ := ih (by omega) T0 h0
    have hf : isF fs[n].1 fs[n].2 = true := by
      cases hc : isF fs[n].1 fs[n].2 with
      | true => rfl
      | false => simp [chk1, hc] at h1
    obtain ⟨f1, f2, f3⟩ := isF_iff.1 hf
    have hak : fA fs[n] + fK fs[n] ≤ 64 := by unfold fA fK; omega
    have hk1 : 1 ≤ fK fs[n] := by unfold fK; omega
    have hf' : (if isF fs[n].1 fs[n].2 = true then foldC T0 (upto fs[n].1.toNat fs[n].2.toNat) else none) = some T := h1
    rw [if_pos hf, foldC_upto _ _ _ hak] at hf'
    by_cases hand : T0 &&& maskN fs[n].1.toNat fs[n].2.toNat = 0
    · rw [if_pos hand] at hf'
      have hTe : T = T0 ||| maskN fs[n].1.toNat fs[n].2.toNat := by cases hf'; rfl
      subst hTe
      refine ⟨fun x => ?_, fun i j hi hj hij hjn => ?_⟩
      · rw [Nat.testBit_or, maskN_bit, Bool.or_eq_true, hbits, decide_eq_true_eq]
        constructor
        · rintro (⟨i, h, h2, h3⟩ | h)
          · exact ⟨i, h, by omega, h3⟩
          · exact ⟨n, hlt, by omega, h⟩
        · rintro ⟨i, h, h2, h3⟩
          by_cases e : i = n
          · subst e; exact .inr h3
          · exact .inl ⟨i, h, by omega, h3⟩
      · by_cases e : j = n
        · subst e
          have hbit : ∀ x, T0.testBit x = true → ¬ (fs[j].1.toNat ≤ x ∧ x < fs[j].1.toNat + fs[j].2.toNat) := fun x hx hin => by
            have := congrArg (fun m => m.testBit x) hand
            simp only [Nat.testBit_and, maskN_bit, Nat.zero_testBit, hx, decide_eq_true hin] at this
            cases this
          have hik1 : 1 ≤ fK fs[i] := by
            have hT0 := chk_field h0 fs[i] (by rw [List.mem_take_iff_getElem]; exact ⟨i, by omega, rfl⟩)
            obtain ⟨g1, _, _⟩ := isF_iff.1 hT0
            unfold fK; omega
          unfold apartF
          have hb1 := hbit (max (fA fs[i]) (fA fs[j]))
          have hb2 := hbits (max (fA fs[i]) (fA fs[j]))
          by_cases hc : fA fs[i] + fK fs[i] ≤ fA fs[j] ∨ fA fs[j] + fK fs[j] ≤ fA fs[i]
          · exact hc
          · exfalso
            refine hb1 (hb2.2 ⟨i, hi, hij, ?_⟩) ?_
            · omega
            · show fA fs[j] ≤ _ ∧ _ < fA fs[j] + fK fs[j]; omega
        · exact hpairs i j hi hj hij (by omega)
    · rw [if_neg hand] at hf'; cases hf'

theorem chk_apart {fs : List (Int × Int)} {T : Nat} (h : chkTo fs = some T) (i j : Nat) (hi : i < fs.length) (hj : j < fs.length) (hne : i ≠ j) : apartF fs[i] fs[j] := by
  have hinv := (chk_inv fs fs.length (Nat.le_refl _) T (by rw [List.take_of_length_le (Nat.le_refl _)]; exact h)).2
  rcases Nat.lt_or_gt_of_ne hne with e | e
  · exact hinv i j hi hj e hj
  · exact apartF_symm (hinv j i hj hi e hi)

/-- Split of a word in which one field was set: the same, but for that one. -/
theorem split_set {fs : List (Int × Int)} {T : Nat} (h : chkTo fs = some T) (w v i : Nat) (hi : i < fs.length) (hv : v < 2 ^ fK fs[i]) :
    splitV (setN w (fA fs[i]) (fK fs[i]) v) fs = (splitV w fs).set i (.int .u64 (v : Nat)) := by
  refine List.ext_getElem (by simp [splitV]) fun j h1 h2 => ?_
  have hj : j < fs.length := by simpa [splitV] using h1
  rw [List.getElem_set]
  simp only [splitV, List.getElem_map]
  by_cases e : i = j
  · subst e
    rw [if_pos rfl, getN_setN _ _ _ _ hv]
  · rw [if_neg e, getN_setN_apart _ _ _ _ _ _ hv (chk_apart h i j hi hj e)]

theorem packL_bit (l : List ((Int × Int) × Int)) (y : Nat) : (packL l).testBit y = l.any fun x => decide (x.1.1.toNat ≤ y) && x.2.toNat.testBit (y - x.1.1.toNat) := by
  suffices h : ∀ (l : List ((Int × Int) × Int)) (w : Nat), (l.foldl (fun w x => w ||| x.2.toNat * 2 ^ x.1.1.toNat) w).testBit y = (w.testBit y || l.any fun x => decide (x.1.1.toNat ≤ y) && x.2.toNat.testBit (y - x.1.1.toNat)) by
    have := h l 0
    rw [Nat.zero_testBit, Bool.false_or] at this
    exact this
  intro l
  induction l with
  | nil => intro w; simp
  | cons x l ih => intro w; rw [List.foldl_cons, ih, Nat.testBit_or, Nat.testBit_mul_two_pow, List.any_cons, Bool.or_assoc]

/-- Split of Pack are the numbers. -/
theorem split_pack {fs : List (Int × Int)} {vs : List Int} {T : Nat} (h : chkTo fs = some T) (hl : fs.length = vs.length) (hfit : allFit (fs.zip vs) = true) (hvs : ∀ x ∈ vs, 0 ≤ x) :
    splitV (packL (fs.zip vs)) fs = vs.map (Value.int .u64) := by
  refine List.ext_getElem (by simp [splitV, hl]) fun i h1 h2 => ?_
  have hi : i < fs.length := by simpa [splitV] using h1
  have hiv : i < vs.length := by omega
  simp only [splitV, List.getElem_map]
  have hfits : ∀ j (hj : j < fs.length) (hjv : j < vs.length), vs[j].toNat < 2 ^ fK fs[j] := fun j hj hjv => by
    unfold allFit at hfit
    have := List.all_eq_true.1 hfit (fs[j], vs[j]) (by rw [List.mem_iff_getElem]; exact ⟨j, by simp; omega, by rw [List.getElem_zip]⟩)
    exact of_decide_eq_true this
  have hget : getN (packL (fs.zip vs)) fs[i].1.toNat fs[i].2.toNat = vs[i].toNat := by
    refine Nat.eq_of_testBit_eq fun t => ?_
    rw [getN_bit, packL_bit]
    by_cases ht : t < fs[i].2.toNat
    · rw [decide_eq_true ht, Bool.true_and, Bool.eq_iff_iff, List.any_eq_true]
      constructor
      · rintro ⟨x, hx, hb⟩
        obtain ⟨j, hj, rfl⟩ := List.mem_iff_getElem.1 hx
        have hjf : j < fs.length := by simp at hj; omega
        have hjv : j < vs.length := by simp at hj; omega
        rw [List.getElem_zip] at hb
        simp only [Bool.and_eq_true, decide_eq_true_eq] at hb
        by_cases e : j = i
        · subst e
          rw [show t + fs[j].1.toNat - fs[j].1.toNat = t by omega] at hb
          exact hb.2
        · exfalso
          have hlt : t + fs[i].1.toNat - fs[j].1.toNat < fs[j].2.toNat := by
            rcases Nat.lt_or_ge (t + fs[i].1.toNat - fs[j].1.toNat) fs[j].2.toNat with h3 | h3
            · exact h3
            · rw [bit_far (hfits j hjf hjv) h3] at hb; exact absurd hb.2 (by simp)
          have hap := chk_apart h i j hi hjf (fun e2 => e e2.symm)
          unfold apartF fA fK at hap
          omega
      · intro hb
        exact ⟨(fs[i], vs[i]), by rw [List.mem_iff_getElem]; exact ⟨i, by simp; omega, by rw [List.getElem_zip]⟩, by simp [hb]⟩
    · rw [decide_eq_false ht, Bool.false_and, bit_far (hfits i hi hiv) (by show fs[i].2.toNat ≤ t; omega)]
  rw [hget]
  have := hvs _ (List.getElem_mem hiv)
  congr 1
  omega

end Go.Proofs.Ytejendpkkdmjhaa
