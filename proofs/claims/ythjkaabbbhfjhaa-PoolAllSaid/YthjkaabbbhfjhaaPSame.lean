/-
  Package pool: Same; and the reference's.
  Conditions: rows have at most 2 to the power 62 numbers.
-/
import Derived.Test.YthjkaabbbhfjhaaPGive
namespace Go.Proofs.Ythjkaabbbhfjhaa
open Go.RowKit Go.Shelf
attribute [local go_sem] Oper.semAt_some

def sameB (b b' pg pg' : Int) (fs gs : List Int) : Bool := decide (b = b') && (decide (pg = pg') && decide (fs = gs))
set_option maxRecDepth 100000 in
set_option maxHeartbeats 4000000 in
theorem psame_c (b b' pg pg' : Int) (v v' : Value) (fs gs : List Int) (W : World) (hl : NumsAt W .i64 v fs) (hl' : NumsAt W .i64 v' gs) (hm : fs.length ≤ 4611686018427387904) (hm' : gs.length ≤ 4611686018427387904) :
    Calls Try.prog 20 #[.agg #[.int .i64 b, .int .i64 pg, v], .agg #[.int .i64 b', .int .i64 pg', v']] W fun e w' => e = .returned (.bool (sameB b b' pg pg' fs gs)) ∧ Below W.heap.size W w' := by
  have HE := Lib.hid (fun (Z : World) (hb : Below W.heap.size W Z) => equalI_c v v' fs gs Z (nums_below hl hb) (nums_below hl' hb) (by omega) (by omega))
  obtain ⟨p, c, rfl, -⟩ := hl
  obtain ⟨p', c', rfl, -⟩ := hl'
  unfold sameB
  by_cases h1 : b = b'
  · subst h1
    have q1 : (b == b) = true := beq_self_eq_true b
    by_cases h2 : pg = pg'
    · subst h2
      have q2 : (pg == pg) = true := beq_self_eq_true pg
      rw [decide_eq_true (rfl : b = b), decide_eq_true (rfl : pg = pg), Bool.true_and, Bool.true_and]
      go_enter Try.func20, Try.ntmps20
      go_wp2_with fail
      refine (HE.out _ (below2 W _ _)).mono ?_
      rintro e w1 ⟨rfl, hb1⟩
      have HB := Lib.hid (below_then (below2 W _ _) (below2 W _ _).size hb1)
      clear hb1 HE
      go_wp2
      go_ret
      exact ⟨rfl, HB.out⟩
    · have q2 : (pg == pg') = false := by rw [beq_eq_false_iff_ne]; exact h2
      rw [decide_eq_true (rfl : b = b), decide_eq_false h2, Bool.true_and, Bool.false_and]
      clear h2
      go_enter Try.func20, Try.ntmps20
      go_wp2
      go_ret
      exact ⟨rfl, below2 W _ _⟩
  · have q1 : (b == b') = false := by rw [beq_eq_false_iff_ne]; exact h1
    rw [decide_eq_false h1, Bool.false_and]
    clear h1
    go_enter Try.func20, Try.ntmps20
    go_wp2
    go_ret
    exact ⟨rfl, below2 W _ _⟩

end Go.Proofs.Ythjkaabbbhfjhaa
