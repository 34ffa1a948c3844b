/-
  slices.Contains, and the mathematics of pages that are free, and taken.
  Conditions: rows have less than 2 to the power 63 numbers.
-/
import Derived.Test.YthjkaabbbhfjhaaGInts
import Derived.Test.YthjkaabbbhfjhaaPGive
import Derived.Test.YthjkaabbbhfjhaaPOwn
namespace Go.Proofs.Ythjkaabbbhfjhaa
open Go.RowKit Go.Shelf
attribute [local go_sem] Oper.semAt_some

theorem contains_c (v : Value) (l : List Int) (x : Int) (W : World) (hv : NumsAt W .i64 v l) (hl : l.length ≤ 9223372036854775807) :
    Calls Try.prog 19 #[v, .int .i64 x] W fun e w' => e = .returned (.bool (decide (x ∈ l))) ∧ w' = W := by
  by_cases hn : x ∈ l
  · rw [decide_eq_true hn]
    have hm := List.idxOf_lt_length_of_mem hn
    have HI := Lib.hid (index_yes v l x (l.idxOf x) W hv hl hm (List.getElem_idxOf hm) (fun h => by
      obtain ⟨j, hj, e⟩ := List.mem_iff_getElem.1 h
      rw [List.getElem_take] at e
      rw [List.length_take] at hj
      have := List.not_of_lt_findIdx (p := fun y => y == x) (xs := l) (i := j) (by unfold List.idxOf at hj; omega)
      simp [e] at this))
    obtain ⟨m, hmm⟩ : ∃ m, m = l.idxOf x := ⟨_, rfl⟩
    rw [← hmm] at HI
    obtain ⟨p, cap, rfl, hc⟩ := hv
    clear hc hn hl hmm hm
    go_enter Try.func19, Try.ntmps19
    go_wp2_with fail
    refine HI.out.mono ?_
    rintro e w1 ⟨rfl, rfl⟩
    clear HI
    have h0 : (0 : Int) ≤ (m : Int) := by omega
    go_wp2
    go_ret
    exact ⟨by simp, rfl⟩
  · rw [decide_eq_false hn]
    have HI := Lib.hid (index_no v l x W hv hl hn)
    obtain ⟨p, cap, rfl, hc⟩ := hv
    clear hc hn hl
    go_enter Try.func19, Try.ntmps19
    go_wp2_with fail
    refine HI.out.mono ?_
    rintro e w1 ⟨rfl, rfl⟩
    clear HI
    go_wp2
    go_ret
    exact ⟨rfl, rfl⟩

theorem mem_takenT {n : Nat} {fs : List Int} {x : Int} : x ∈ takenT n fs ↔ (0 ≤ x ∧ x < n) ∧ x ∉ fs := by
  unfold takenT
  simp only [List.mem_map, List.mem_filter, List.mem_range, Bool.not_eq_true', decide_eq_false_iff_not]
  constructor
  · rintro ⟨i, ⟨h1, h2⟩, rfl⟩
    exact ⟨⟨by omega, by omega⟩, h2⟩
  · rintro ⟨⟨h1, h2⟩, h3⟩
    exact ⟨x.toNat, ⟨by omega, by rwa [Int.toNat_of_nonneg h1]⟩, Int.toNat_of_nonneg h1⟩
theorem takenT_nodup (n : Nat) (fs : List Int) : (takenT n fs).Nodup := by
  unfold takenT
  have h := (List.nodup_range (n := n)).filter (fun (i : Nat) => !(decide ((i : Int) ∈ fs)))
  exact List.Pairwise.map _ (fun a b hab e => hab (by omega)) h
def upto (n : Nat) : List Int := (List.range n).map fun (i : Nat) => (i : Int)
theorem upto_len (n : Nat) : (upto n).length = n := by simp [upto]
theorem upto_get {n i : Nat} (h : i < n) : (upto n)[i]? = some (i : Int) := by simp [upto, h]
theorem all_perm {n : Nat} {fs : List Int} (h : okP (n : Int) fs) : (fs ++ takenT n fs).Perm (upto n) := by
  refine (List.perm_ext_iff_of_nodup ?_ ?_).2 fun x => ?_
  · refine List.nodup_append.2 ⟨h.1, takenT_nodup _ _, fun a ha b hb e => ?_⟩
    subst e
    exact (mem_takenT.1 hb).2 ha
  · exact List.Pairwise.map _ (fun a b hab e => hab (by omega)) (List.nodup_range (n := n))
  · rw [List.mem_append, mem_takenT]
    unfold upto
    simp only [List.mem_map, List.mem_range]
    constructor
    · rintro (hx | ⟨⟨h1, h2⟩, _⟩)
      · have := h.2 x hx
        unfold hasB at this
        simp at this
        exact ⟨x.toNat, by omega, by omega⟩
      · exact ⟨x.toNat, by omega, by omega⟩
    · rintro ⟨i, hi, rfl⟩
      by_cases hm : (i : Int) ∈ fs
      · exact .inl hm
      · exact .inr ⟨⟨by omega, by omega⟩, hm⟩
theorem all_len {n : Nat} {fs : List Int} (h : okP (n : Int) fs) : fs.length + (takenT n fs).length = n := by
  have := (all_perm h).length_eq
  rwa [List.length_append, upto_len] at this
theorem takenT_nil_len (n : Nat) : (takenT n []).length = n := by
  have := all_len (n := n) (fs := []) ⟨by simp, by simp⟩
  simpa using this
end Go.Proofs.Ythjkaabbbhfjhaa
