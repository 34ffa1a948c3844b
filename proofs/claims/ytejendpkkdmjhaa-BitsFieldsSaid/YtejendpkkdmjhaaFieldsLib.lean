/-
  What the walks of BitsFields have in common.
  Conditions: the arguments are in the ranges of Go's types.
-/
import Derived.Test.YtejendpkkdmjhaaStayWalk
import Derived.Test.YtejendpkkdmjhaaRefSet
import Derived.Test.YtejendpkkdmjhaaRefApart
import Derived.Test.YtejendpkkdmjhaaEqualF
import Derived.Test.YtejendpkkdmjhaaPackSet
namespace Go.Proofs.Ytejendpkkdmjhaa
open Go.RowKit Go.Shelf

theorem owns_cap {X : World} {B : Nat} {E : TypeId} {size : Nat} {v : Value} {n : Nat} {xs : List Value} (h : X.ownsRow B E size v n xs) : ∀ p m c, v = .slice p m c → m ≤ c := by
  intro p m c e
  rcases h.2 with ⟨rfl, _⟩ | ⟨g, cap, cur, rfl, _, _, hle, _⟩
  · injection e with _ e1 e2; omega
  · injection e with _ e1 e2; omega

theorem argF_take {W : World} {p : Option Addr} {n cap : Nat} {fs gs : List (Int × Int)} (hn : n = fs.length) (hc : (p = none ∧ n = 0 ∧ cap = 0) ∨ ∃ a : Addr, p = some a ∧ n ≤ cap ∧ ∀ j u, (flatF fs)[j]? = some u → W.cell? (a.add j) = some u) (hgs : gs = fs.take 8) (hr : FRange gs) :
    gs.length ≤ cap ∧ FieldsAt W (.slice p gs.length cap) gs := by
  have hle : gs.length ≤ n := by rw [hgs, hn, List.length_take]; omega
  rcases hc with ⟨rfl, rfl, rfl⟩ | ⟨a, rfl, hcap, hcells⟩
  · obtain rfl : gs = [] := List.eq_nil_of_length_eq_zero (by omega)
    exact ⟨Nat.le_refl _, ⟨_, _, rfl, hr, fun h => absurd rfl h⟩⟩
  · refine ⟨by omega, ⟨_, _, rfl, hr, fun hne => ?_⟩⟩
    have hg : ∀ i (h : i < gs.length), W.cell? (a.add (i * 2)) = some (.int .i64 gs[i].1) ∧ W.cell? (a.add (i * 2 + 1)) = some (.int .i64 gs[i].2) := fun i hi => by
      have hif : i < fs.length := by omega
      have h1 := flatF_get fs i hif
      have he : gs[i] = fs[i] := by subst hgs; exact List.getElem_take
      rw [he]
      exact ⟨hcells _ _ h1.1, hcells _ _ h1.2⟩
    obtain ⟨b, off, sp⟩ := a
    have hspot : sp = none := by
      have h0 := (hg 0 (by rcases gs with _ | _; exact absurd rfl hne; simp)).1
      simp only [Addr.add, Nat.zero_mul, if_true, World.cell?] at h0
      split at h0
      · cases sp with
        | none => rfl
        | some x => simp at h0
      · cases h0
    subst hspot
    refine ⟨b, off, rfl, fun i hi => ?_⟩
    have h1 := hg i hi
    rw [addr_add_off, addr_add_off] at h1
    exact h1

theorem parts_open {X : World} {v : Value} {w : Nat} {gs : List (Int × Int)} (h : NumsAt X .u64 v (splitI w gs)) : ∃ p cap, v = .slice p gs.length cap ∧
    (gs ≠ [] → ∃ b off, p = some ⟨b, off, none⟩ ∧ ∀ i (h : i < gs.length), X.cell? ⟨b, off + i, none⟩ = some (.int .u64 (getN w gs[i].1.toNat gs[i].2.toNat : Nat))) := by
  obtain ⟨p, cap, rfl, hc⟩ := h
  rw [splitI_length]
  refine ⟨p, cap, rfl, fun hne => ?_⟩
  obtain ⟨b, off, rfl, hcs⟩ := hc (by intro e; apply hne; have := splitI_length w gs; rw [e] at this; exact List.eq_nil_of_length_eq_zero this.symm)
  refine ⟨b, off, rfl, fun i hi => ?_⟩
  have := hcs i (by rw [splitI_length]; exact hi)
  rw [this]
  simp [splitI]
/-- What the document's loop has behind the first i fields: its packed word, if all numbers fit. -/
def PackTo (zs : List ((Int × Int) × Int)) (i pk : Nat) (bf : Bool) : Prop := pk < 18446744073709551616 ∧ bf = allFit (zs.take i) ∧ (bf = true → pk = packL (zs.take i))
theorem packTo_step {fs : List (Int × Int)} {vs : List Int} {T i pk : Nat} {bf : Bool} (hc : chkTo fs = some T) (h : PackTo (fs.zip vs) i pk bf) (hi : i < fs.length) (hiv : i < vs.length) :
    (bf = false → PackTo (fs.zip vs) (i + 1) pk false) ∧
    (bf = true → fitsB vs[i].toNat (fK fs[i]) = true → fA fs[i] + fK fs[i] ≤ 64 → PackTo (fs.zip vs) (i + 1) (setN pk (fA fs[i]) (fK fs[i]) vs[i].toNat) true) ∧
    (fitsB vs[i].toNat (fK fs[i]) = false → PackTo (fs.zip vs) (i + 1) pk false) := by
  have htk : (fs.zip vs).take (i + 1) = (fs.zip vs).take i ++ [(fs[i], vs[i])] := by
    rw [List.take_succ_eq_append_getElem (by simp; omega), List.getElem_zip]
  have hall : allFit ((fs.zip vs).take (i + 1)) = (allFit ((fs.zip vs).take i) && fitsB vs[i].toNat (fK fs[i])) := by rw [htk, allFit_snoc]
  obtain ⟨h1, h2, h3⟩ := h
  refine ⟨fun e => ⟨h1, ?_, fun h => by cases h⟩, fun e hf hak => ⟨?_, ?_, fun _ => ?_⟩, fun hf => ⟨h1, ?_, fun h => by cases h⟩⟩
  · rw [hall, ← h2, e]; rfl
  · exact setN_lt _ _ _ _ h1 hak (of_decide_eq_true (show decide (vs[i].toNat < 2 ^ fK fs[i]) = true from hf))
  · rw [hall, ← h2, e, hf]; rfl
  · rw [h3 e]; exact packL_set hc i hi hiv (by rw [hall, ← h2, e, hf, Bool.and_self])
  · rw [hall, hf, Bool.and_false]
theorem packTo_end {zs : List ((Int × Int) × Int)} {n pk pk0 : Nat} {pe0 : Int} {bf : Bool} (h : PackTo zs n pk bf) (hn : zs.length = n) (h0 : pk0 = packV zs ∧ pe0 = packE zs) :
    (bf = true → pk0 = pk ∧ pe0 = 0) ∧ (bf = false → pk0 = 0 ∧ pe0 = 111) := by
  obtain ⟨_, h2, h3⟩ := h
  rw [List.take_of_length_le (by omega)] at h2 h3
  obtain ⟨rfl, rfl⟩ := h0
  refine ⟨fun e => ?_, fun e => ?_⟩
  · rw [e] at h2; simp [packV, packE, ← h2, h3 e]
  · rw [e] at h2; simp [packV, packE, ← h2]

end Go.Proofs.Ytejendpkkdmjhaa
