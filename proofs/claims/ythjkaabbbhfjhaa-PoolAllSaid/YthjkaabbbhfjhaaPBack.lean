/-
  Package pool: next tells the free pages, the last one first; through slices.Backward.
  Conditions: who ranges over them leaves the pool, and its row, as they are.
-/
import Derived.Test.YthjkaabbbhfjhaaDeep
import Derived.Test.YthjkaabbbhfjhaaPFits
import Derived.Shelf.RegionOpen
import Derived.WalkKit
import Derived.OwnWalkIn
import Derived.TacticsInMore
import Derived.LoopNIn
import Derived.LoopIn
import Derived.Deep.RegionHeld
import Derived.Lib.Hide
namespace Go.Proofs.Ythjkaabbbhfjhaa
open Go.RowKit Go.Shelf
attribute [local go_sem] Oper.semAt_some

/-- The cells outside of some blocks stay as they are. -/
def KeepsCells (S : Nat → Prop) (W W' : World) : Prop := ∀ b o v, ¬ S b → W.cell? ⟨b, o, none⟩ = some v → W'.cell? ⟨b, o, none⟩ = some v
theorem KeepsCells.refl (S : Nat → Prop) (W : World) : KeepsCells S W W := fun _ _ _ _ h => h
theorem KeepsCells.trans {S : Nat → Prop} {X Y Z : World} (h : KeepsCells S X Y) (k : KeepsCells S Y Z) : KeepsCells S X Z := fun b o v hb hx => k b o v hb (h b o v hb hx)
theorem KeepsCells.keeps {S : Nat → Prop} {X Y : World} (h : Keeps S X Y) : KeepsCells S X Y := fun b _ _ hb hx => h.cell hx (by simpa using hb)
theorem KeepsCells.turn (S : Nat → Prop) (W : World) (l : Nat) (o o' : Obj) (hl : W.heap[l]? = some o) (ho : o.isCells = false) (_ : o.isWalk = false) : KeepsCells S W (W.putObj l o') := fun b i v _ h => by
  by_cases e : b = l
  · subst e
    simp only [World.cell?, hl] at h
    cases o <;> simp_all [Obj.isCells]
  · have hp : (W.putObj l o').heap[b]? = W.heap[b]? := World.putObj_heap_other e
    simp only [World.cell?] at h ⊢
    rw [hp]
    exact h

/-- A row of ints lies there, outside of S. -/
def RowOut (S : Nat → Prop) (W : World) (p : Option Addr) (fs : List Int) : Prop := fs ≠ [] → ∃ b off, p = some ⟨b, off, none⟩ ∧ ¬ S b ∧ ∀ i (h : i < fs.length), W.cell? ⟨b, off + i, none⟩ = some (.int .i64 fs[i])
theorem RowOut.keeps {S : Nat → Prop} {W W' : World} {p : Option Addr} {fs : List Int} (h : RowOut S W p fs) (hk : KeepsCells S W W') : RowOut S W' p fs := fun hne => by
  obtain ⟨b, off, e, hS, hc⟩ := h hne
  exact ⟨b, off, e, hS, fun i hi => hk _ _ _ hS (hc i hi)⟩
theorem RowOut.below {S : Nat → Prop} {W W' : World} {p : Option Addr} {fs : List Int} (h : RowOut S W p fs) (hb : Below W.heap.size W W') : RowOut S W' p fs := fun hne => by
  obtain ⟨b, off, e, hS, hc⟩ := h hne
  exact ⟨b, off, e, hS, fun i hi => below_cell hb (hc i hi)⟩

set_option maxRecDepth 100000 in
set_option maxHeartbeats 4000000 in
theorem backward_stops (n : Nat) (hn : 1 ≤ n) (S : Nat → Prop) (lb cap : Nat) (p : Option Addr) (fs : List Int) (w : World) (hSl : ¬ S lb) (hmax : fs.length ≤ 4611686018427387904)
    (hc : w.cell? ⟨lb, 0, none⟩ = some (.slice p fs.length cap)) (hl : RowOut S w p fs) :
    SeqDeep Fence.wide n Try.prog 54 #[.pointer (some ⟨lb, 0, none⟩)] (fun x : Int × Int => #[.int .i64 x.1, .int .i64 x.2]) (KeepsCells S) (fun xs => xs.map (·.2) = fs.reverse) (fun xs => ∃ j, xs.map (·.2) = (fs.drop j).reverse) fs.length w := fun l J Jx W hW hJ hJx hY h0 => by
  refine callsIn_of_wp Try.func54 rfl trivial ?_ rfl
  simp only [Try.ntmps54, List.size_toArray, List.length_cons, List.length_nil, Nat.reduceAdd, Nat.reduceSub, Array.replicate_succ, Array.replicate_zero, List.push_toArray, List.append_toArray, List.nil_append, List.cons_append]
  have hcW := (hW.cell (World.block_lt_of_cell? w _ hc)).trans hc
  have HLW := Lib.hid (hl.below hW)
  have HSL := Lib.hid hSl
  clear hc hl hSl
  gi_wp2
  gi_loopw [3] (fun iv wr => ∃ (q : Nat) (pre : List (Int × Int)), q ≤ fs.length ∧ iv = .int .i64 ((q : Int) - 1) ∧ (wr.cell? ⟨lb, 0, none⟩ = some (.slice p fs.length cap) ∧ Hid (RowOut S wr p fs)) ∧ J pre wr ∧ Hid (pre.length + q = fs.length ∧ pre.map (·.2) = (fs.drop q).reverse)) (fun iv _ => (intOf iv + 1).toNat)
  case atStart => exact ⟨fs.length, [], Nat.le_refl _, rfl, ⟨hcW, HLW⟩, h0, by simp, by simp⟩
  case round =>
    obtain ⟨q, pre, hq, rfl, ⟨hc, HL⟩, hJp, HE⟩ := hrel
    cases q with
    | zero =>
      have h0 : ((0 : Nat) : Int) - 1 = -1 := rfl
      rw [h0]
      gi_wp2
      go_end0
      exact ⟨⟨_, rfl⟩, .inl ⟨pre, by have := HE.out.2; simpa using this, hJp⟩⟩
    | succ j =>
      rw [show ((j + 1 : Nat) : Int) - 1 = (j : Int) by omega]
      have hne : fs ≠ [] := by intro e; rw [e] at hq; simp at hq
      obtain ⟨b, off, hp, hSb, hcs⟩ := HL.out hne
      have hjl : j < fs.length := by omega
      have hx := hcs j hjl
      obtain ⟨x, hxe⟩ : ∃ x, x = fs[j] := ⟨_, rfl⟩
      rw [← hxe] at hx
      have HE2 := Lib.hid (show (pre ++ [((j : Int), x)]).length + j = fs.length ∧ (pre ++ [((j : Int), x)]).map (·.2) = (fs.drop j).reverse by
        obtain ⟨h1, h2⟩ := HE.out
        refine ⟨by simp; omega, ?_⟩
        rw [List.map_append, h2, List.drop_eq_getElem_cons hjl, List.reverse_cons, ← hxe]
        rfl)
      have hlen : pre.length < fs.length := by have := HE.out.1; omega
      have HSB := Lib.hid hSb
      clear HE hcs hne hxe hSb
      obtain ⟨fn, tmps, assign, body, hy, hR⟩ := hY pre ((j : Int), x) _ hJp hlen ⟨j, HE2.out.2⟩
      dsimp only at hy
      subst hp
      have hj0 : (0 : Int) ≤ (j : Int) := by omega
      have hjl' : (j : Int) < (fs.length : Int) := by omega
      gi_wp2
      refine hR.mono ?_
      rintro e W3 (⟨rfl, hJ3, hk3, -⟩ | ⟨rfl, hJx3, -⟩)
      · have hc3 := hk3 _ _ _ HSL.out hc
        have HL3 := Lib.hid (HL.out.keeps hk3)
        gi_wp2
        go_roundw
        case rel => exact ⟨j, _, by omega, rfl, ⟨hc3, HL3⟩, hJ3, HE2⟩
        case measure => simp [intOf]
      · gi_wp2
        refine bodyPost_ret (results_none rfl _ _ _) rfl ?_
        exact ⟨⟨_, rfl⟩, .inr ⟨_, ⟨j, HE2.out.2⟩, hJx3⟩⟩

end Go.Proofs.Ythjkaabbbhfjhaa
