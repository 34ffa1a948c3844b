/-
  The runs of picks: plain mathematics. Runs are kept newest first.
  Conditions: as each has them.
-/
import Derived.WalkKit
namespace Go.Proofs.YtjgdkfgcfningaaDoor

def putR : List (Int × Nat) → Int → List (Int × Nat)
  | [], n => [(n, 1)]
  | (m, k) :: r, n => if m = n ∧ k < 256 then (m, k + 1) :: r else (n, 1) :: (m, k) :: r
def runsR (ps : List Int) : List (Int × Nat) := ps.foldl putR []
/-- The picks that runs are of. -/
def flatR : List (Int × Nat) → List Int
  | [] => []
  | x :: r => flatR r ++ List.replicate x.2 x.1
theorem flat_put (rs : List (Int × Nat)) (n : Int) : flatR (putR rs n) = flatR rs ++ [n] := by
  cases rs with
  | nil => rfl
  | cons x r =>
    obtain ⟨m, k⟩ := x
    simp only [putR]
    split
    · next h => obtain ⟨rfl, _⟩ := h; simp [flatR, List.replicate_succ']
    · simp [flatR]
theorem runs_snoc (ps : List Int) (n : Int) : runsR (ps ++ [n]) = putR (runsR ps) n := by simp [runsR]
theorem runs_app (ps qs : List Int) : runsR (ps ++ qs) = qs.foldl putR (runsR ps) := by simp [runsR]
theorem fold_flat (ps : List Int) : ∀ rs, flatR (ps.foldl putR rs) = flatR rs ++ ps := by
  induction ps with
  | nil => intro rs; simp
  | cons n r ih => intro rs; simp only [List.foldl_cons]; rw [ih, flat_put]; simp
/-- The runs, one behind the other, are the picks. -/
theorem runs_flat (ps : List Int) : flatR (runsR ps) = ps := by have := fold_flat ps []; simpa [runsR, flatR] using this
/-- No run is too long, and none could be longer. -/
def OkR : List (Int × Nat) → Prop
  | [] => True
  | [x] => 1 ≤ x.2 ∧ x.2 ≤ 256
  | x :: y :: r => (1 ≤ x.2 ∧ x.2 ≤ 256) ∧ (y.1 = x.1 → y.2 = 256) ∧ OkR (y :: r)
theorem OkR.head {x : Int × Nat} {r : List (Int × Nat)} (h : OkR (x :: r)) : 1 ≤ x.2 ∧ x.2 ≤ 256 := by
  cases r with
  | nil => exact h
  | cons y r => exact h.1
theorem OkR.tail {x : Int × Nat} {r : List (Int × Nat)} (h : OkR (x :: r)) : OkR r := by
  cases r with
  | nil => trivial
  | cons y r => exact h.2.2
theorem ok_put {rs : List (Int × Nat)} (h : OkR rs) (n : Int) : OkR (putR rs n) := by
  cases rs with
  | nil => exact ⟨Nat.le_refl _, (by decide : 1 ≤ 256)⟩
  | cons x r =>
    obtain ⟨m, k⟩ := x
    have h1 := h.head
    simp only at h1
    simp only [putR]
    split
    · next hc =>
      cases r with
      | nil => exact ⟨by simp, by simp; omega⟩
      | cons y r => exact ⟨⟨by simp, by simp; omega⟩, h.2.1, h.2.2⟩
    · next hc =>
      refine ⟨⟨Nat.le_refl _, (by decide : 1 ≤ 256)⟩, fun e => ?_, h⟩
      simp only at e ⊢
      rcases Nat.lt_or_ge k 256 with hk | hk
      · exact absurd ⟨e, hk⟩ hc
      · omega
theorem runs_ok (ps : List Int) : OkR (runsR ps) := by
  suffices ∀ (ps : List Int) rs, OkR rs → OkR (ps.foldl putR rs) from this ps [] trivial
  intro ps
  induction ps with
  | nil => intro rs h; exact h
  | cons n r ih => intro rs h; exact ih _ (ok_put h n)
/-- So many of the same, behind runs that do not end in one that could be longer by it. -/
def Shut (rs : List (Int × Nat)) (x : Int) : Prop := ∀ y r, rs = y :: r → ¬ (y.1 = x ∧ y.2 < 256)
theorem fold_more (x : Int) (rs : List (Int × Nat)) : ∀ (m k : Nat), k + m ≤ 256 → (List.replicate m x).foldl putR ((x, k) :: rs) = (x, k + m) :: rs
  | 0, k, _ => rfl
  | m + 1, k, h => by
    simp only [List.replicate_succ, List.foldl_cons]
    rw [show putR ((x, k) :: rs) x = (x, k + 1) :: rs by exact if_pos ⟨rfl, by omega⟩]
    rw [fold_more x rs m (k + 1) (by omega), show k + 1 + m = k + (m + 1) by omega]
theorem fold_block {x : Int} {rs : List (Int × Nat)} (hs : Shut rs x) {m : Nat} (h1 : 1 ≤ m) (h2 : m ≤ 256) : (List.replicate m x).foldl putR rs = (x, m) :: rs := by
  obtain ⟨k, rfl⟩ : ∃ k, m = k + 1 := ⟨m - 1, by omega⟩
  simp only [List.replicate_succ, List.foldl_cons]
  have hp : putR rs x = (x, 1) :: rs := by
    cases rs with
    | nil => rfl
    | cons y r =>
      obtain ⟨a, b⟩ := y
      simp only [putR]
      rw [if_neg (hs (a, b) r rfl)]
  rw [hp, fold_more x rs k 1 (by omega), Nat.add_comm 1 k]
/-- One step of the scan: behind the runs of what came before, a whole run. -/
theorem runs_scan (ps : List Int) (i m : Nat) (x : Int) (h1 : 1 ≤ m) (h2 : m ≤ 256) (him : i + m ≤ ps.length) (hall : ∀ j, (h : j < ps.length) → i ≤ j → j < i + m → ps[j] = x) (hs : Shut (runsR (ps.take i)) x) :
    runsR (ps.take (i + m)) = (x, m) :: runsR (ps.take i) := by
  have he : ps.take (i + m) = ps.take i ++ List.replicate m x := by
    rw [List.take_add]
    congr 1
    refine List.ext_getElem (by simp; omega) fun j hj1 hj2 => ?_
    rw [List.length_replicate] at hj2
    rw [List.getElem_take, List.getElem_drop, List.getElem_replicate]
    exact hall (i + j) (by omega) (by omega) (by omega)
  rw [he, runs_app, fold_block hs h1 h2]

end Go.Proofs.YtjgdkfgcfningaaDoor
