/-
  part.places, called with a field of which At and Wide are at most 64 together, and with whatever yield: yield is told At, At + 1, .. up to Wide of them, till it says no.
  Conditions: At and Wide are at least 0.
-/
import Derived.Test.YtjgdkfgcfningaaDoorRange
import Derived.Test.YtjgdkfgcfningaaDoorProg
import Derived.Shelf.Abstract
import Derived.Shelf.RegionOpen
import Derived.WalkKit
import Derived.OwnWalkIn
import Derived.TacticsInMore
import Derived.LoopNIn
import Derived.LoopIn
import Derived.Deep.RegionHeld
namespace Go.Proofs.YtjgdkfgcfningaaDoor
open Go.RowKit Go.Shelf
attribute [local go_sem] Oper.semAt_some

/-- What lies in cells from block B on stays as it is. -/
def KeepsNew (B : Nat) (W W' : World) : Prop := ∀ b o v, B ≤ b → W.cell? ⟨b, o, none⟩ = some v → W'.cell? ⟨b, o, none⟩ = some v

theorem KeepsNew.refl (B : Nat) (W : World) : KeepsNew B W W := fun _ _ _ _ h => h
theorem KeepsNew.trans {B : Nat} {X Y Z : World} (h : KeepsNew B X Y) (k : KeepsNew B Y Z) : KeepsNew B X Z := fun b o v hb hx => k b o v hb (h b o v hb hx)
theorem KeepsNew.alloc (B : Nat) (W : World) (x : Obj) : KeepsNew B W (W.alloc x) := fun b o v _ h => by
  rw [World.cell?_alloc_some]
  · exact h
  · rw [h]; rfl
theorem KeepsNew.setCell (B : Nat) (W : World) (p : Addr) (v : Value) (hp : p.block < B) : KeepsNew B W (W.setCell p v) := fun b o u hb h => by
  rw [World.cell?_setCell_far]
  · exact h
  · intro e; simp at e; omega
theorem KeepsNew.drew (B : Nat) (W : World) : KeepsNew B W W.drew := fun _ _ _ _ h => h
theorem KeepsNew.turn (B : Nat) (W : World) (l : Nat) (o o' : Obj) (_ : B ≤ l) (hl : W.heap[l]? = some o) (ho : o.isCells = false) (_ : o.isWalk = false) : KeepsNew B W (W.putObj l o') := fun b i v _ h => by
  by_cases e : b = l
  · subst e
    simp only [World.cell?, hl] at h
    cases o <;> simp_all [Obj.isCells]
  · have hp : (W.putObj l o').heap[b]? = W.heap[b]? := World.putObj_heap_other e
    simp only [World.cell?] at h ⊢
    rw [hp]
    exact h

/-- The k places from a on. -/
def upto (a k : Nat) : List Nat := (List.range k).map (a + ·)
theorem upto_succ (a k : Nat) : upto a (k + 1) = upto a k ++ [a + k] := by simp [upto, List.range_succ]
theorem upto_zero (a : Nat) : upto a 0 = [] := rfl
theorem upto_length (a k : Nat) : (upto a k).length = k := by simp [upto]
theorem upto_prefix (a : Nat) {k n : Nat} (h : k ≤ n) : upto a k <+: upto a n := by
  obtain ⟨d, rfl⟩ := Nat.exists_eq_add_of_le h
  induction d with
  | zero => exact List.prefix_refl _
  | succ d ih => exact (ih (by omega)).trans ⟨[a + (k + d)], (upto_succ a (k + d)).symm⟩

/-- A value of the type part. -/
abbrev partV (a k : Int) : Value := .agg #[.int .i64 a, .int .i64 k]

set_option maxHeartbeats 1000000 in
theorem places_stops (F : Fence) (n : Nat) (hf : F.fn 61) (hro : F.round = none) (hn : 1 ≤ n) (B : Nat) (a k : Nat) (hak : a + k ≤ 64) (w : World) (hB : B ≤ w.heap.size) :
    SeqBound F n Tryd.prog 61 #[partV a k] #[] (fun x : Nat => #[.int .i64 (x : Int)]) (KeepsNew B) (fun xs => xs = upto a k) (fun pre => pre <+: upto a k) k w := fun l J Jx W hW hJ hJx hY h0 => by
  refine callsIn_of_wp Tryd.func61 rfl hf ?_ hro
  simp only [Tryd.ntmps61, List.size_toArray, List.length_cons, List.length_nil, Nat.reduceAdd, Nat.reduceSub, Array.replicate_succ, Array.replicate_zero, List.push_toArray, List.append_toArray, List.nil_append, List.cons_append]
  gi_wp2
  have hBW : B ≤ W.heap.size := Nat.le_trans hB hW.size
  have hJ1 : J [] (W.alloc (.cells #[.int .i64 a, .int .i64 k] 112)) := hJ _ _ _ none h0 (World.grownBy_alloc W _ none) (fun r e => by cases e)
  have hx0 : (W.alloc (.cells #[.int .i64 a, .int .i64 k] 112)).cell? ⟨W.heap.size, 0, none⟩ = some (.int .i64 a) := by simp
  generalize hb : W.heap.size = b at *
  generalize hV : W.alloc (.cells #[.int .i64 a, .int .i64 k] 112) = V at *
  clear hV hb
  gi_loopw [8] (fun i wr => ∃ j : Nat, j ≤ k ∧ i = .int .i64 (j : Int) ∧ wr.cell? ⟨b, 0, none⟩ = some (.int .i64 a) ∧ J (upto a j) wr) (fun i _ => k - (intOf i).toNat)
  case atStart => exact ⟨0, Nat.zero_le _, rfl, hx0, hJ1⟩
  case round =>
    obtain ⟨j, hj, rfl, hc, hJj⟩ := hrel
    by_cases hlt : j < k
    · obtain ⟨fn, tmps, assign, body, hy, hR⟩ := hY (upto a j) (a + j) wr hJj (by rw [upto_length]; exact hlt)
      rw [Int.natCast_add] at hy
      gi_wp2
      refine hR.mono ?_
      rintro e W3 (⟨rfl, hJ3, hk3⟩ | ⟨rfl, hJx3⟩)
      · have hc3 := hk3 _ _ _ hBW hc
        gi_wp2
        go_roundw
        case rel => exact ⟨j + 1, by omega, by go_num, hc3, by rw [upto_succ]; exact hJ3⟩
        case measure => simp [intOf]; omega
      · gi_wp2
        refine bodyPost_ret (results_none rfl _ _ _) rfl ?_
        exact ⟨⟨_, rfl⟩, .inr ⟨upto a (j + 1), upto_prefix a (by omega), by rw [upto_succ]; exact hJx3⟩⟩
    · gi_wp2
      go_end0
      exact ⟨⟨_, rfl⟩, .inl ⟨upto a k, rfl, by rwa [show j = k by omega] at hJj⟩⟩

end Go.Proofs.YtjgdkfgcfningaaDoor
