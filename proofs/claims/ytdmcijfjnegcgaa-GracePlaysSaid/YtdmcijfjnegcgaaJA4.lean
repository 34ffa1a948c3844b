/-
  Package reader: Passed.
  Conditions: the ranges of Go's types.
-/
import Derived.Test.YtdmcijfjnegcgaaJA3
import Derived.Deep.QuietTactic
import Derived.BigQuiet
import Derived.Laws.CopyOwn
import Derived.Defers
import Derived.Recover
import Derived.Laws.Pointers
import Derived.Test.YtdmcijfjnegcgaaJA2
/-
  Package grace: begin, report, picked.
  Conditions: the ranges of Go's types.
-/
namespace Go.Proofs.Ytdmcijfjnegcgaa
set_option maxRecDepth 100000
open Go.RowKit Go.Shelf
attribute [local go_sem] Oper.semAt_some

def beginE (g : GrS) : Int := if g.on = true then 5 else if g.asked = g.done then 4 else 0
def beginG (g : GrS) : GrS := ⟨g.done, g.asked, true, List.replicate g.nd.length true⟩

theorem rep_set (l : List Bool) (i : Nat) (h : i < l.length) : (List.replicate i true ++ l.drop i).set i true = List.replicate (i + 1) true ++ l.drop (i + 1) := by
  rw [List.set_append_right _ _ (by simp), List.length_replicate, Nat.sub_self, List.drop_eq_getElem_cons h, List.set_cons_zero, List.replicate_succ', List.append_assoc]
  rfl

set_option maxHeartbeats 4000000 in
theorem gbegin_no (z B : Nat) (now : Int) (u v : Value) (g : GrS) (n nb : Nat) (lv : Value) (ls : List Int) (W : World) (k : TuAt W z B now u v g n nb lv ls) (h : beginE g ≠ 0) :
    Calls Try.prog 45 #[.pointer (some ⟨z, 0, none⟩)] W fun e w' => e = woe (beginE g) ∧ Below W.heap.size W w' := by
  obtain ⟨d, a, on, nd⟩ := g
  obtain ⟨d0, d1, d2, d3, d4, d5, d6, d7⟩ := k.box.cells
  unfold beginE at h ⊢
  simp only at h d3 d4 d5 ⊢
  clear k
  cases on with
  | true =>
    simp only [if_true]
    clear h
    go_enter Try.func45, Try.ntmps45
    go_wp2
    exact ⟨rfl, rfl, Below.refl _ _⟩
  | false =>
    simp only [Bool.false_eq_true, if_false] at h ⊢
    by_cases e : a = d
    · have hq : (a == d) = true := by rw [beq_iff_eq]; exact e
      rw [if_pos e]
      clear h e
      go_enter Try.func45, Try.ntmps45
      go_wp2
      go_quiet (fail)
      go_wp2
      exact ⟨rfl, rfl, below_drewN (Below.refl _ _) _⟩
    · rw [if_neg e] at h
      exact absurd rfl h

set_option maxHeartbeats 8000000 in
theorem gbegin_ok (z B : Nat) (now : Int) (u v : Value) (g : GrS) (n nb : Nat) (lv : Value) (ls : List Int) (W : World) (k : TuAt W z B now u v g n nb lv ls) (h : beginE g = 0) (hn : n ≤ 8) :
    Calls Try.prog 45 #[.pointer (some ⟨z, 0, none⟩)] W fun e w' => e = .returned (.tuple #[]) ∧ TuAt w' z B now u v (beginG g) n nb lv ls ∧ Keeps (fun k => k = z ∨ k = nb) W w' := by
  obtain ⟨d, a, on, nd⟩ := g
  obtain ⟨d0, d1, d2, d3, d4, d5, d6, d7⟩ := k.box.cells
  have m5 := k.box.marks 5
  unfold beginE at h
  simp only at h d3 d4 d5
  cases on with
  | true => simp at h
  | false =>
    simp only [Bool.false_eq_true, if_false] at h
    have e : ¬ a = d := fun e => by rw [if_pos e] at h; cases h
    have hq : (a == d) = false := by rw [beq_eq_false_iff_ne]; exact e
    have hlen := k.len
    simp only at hlen
    have HLEN := Lib.hid hlen
    have HK := Lib.hid k
    clear h e k hlen
    go_enter Try.func45, Try.ntmps45
    go_wp2
    go_quiet (fail)
    have HI0 := Lib.hid (show TuAt ((W.setCell ⟨z, 5, none⟩ (.bool true)).drewN nq) z B now u v ⟨d, a, true, List.replicate 0 true ++ nd.drop 0⟩ n nb lv ls ∧ Keeps (fun k => k = z ∨ k = nb) W ((W.setCell ⟨z, 5, none⟩ (.bool true)).drewN nq) from
      ⟨(HK.out.set5 true).keeps (S := fun _ => False) ((Keeps.refl _ _).drewN nq) id id (fun _ _ => id), ((setK W z 5 (.bool true)).sub (fun _ _ h => .inl h)).drewN nq⟩)
    clear HK d0 d1 d2 d3 d4 d7 hq
    go_wp2
    go_loopw [33] (fun iv wr => ∃ i : Nat, i ≤ n ∧ iv = .int .i64 (i : Int) ∧ Hid (TuAt wr z B now u v ⟨d, a, true, List.replicate i true ++ nd.drop i⟩ n nb lv ls ∧ Keeps (fun k => k = z ∨ k = nb) W wr)) (fun iv _ => n - (intOf iv).toNat)
    case atStart => exact ⟨0, Nat.zero_le _, rfl, HI0⟩
    case round =>
      clear HI0 d5 d6 m5
      obtain ⟨i, hi, rfl, HI⟩ := hrel
      by_cases hlt : i < n
      · have k := HI.out.1
        have e6 := k.box.cells.2.2.2.2.2.2.1
        have hil : i < (List.replicate i true ++ nd.drop i).length := by rw [k.len]; exact hlt
        have fi := k.needs.free i
        obtain ⟨x, ci⟩ : ∃ x : Bool, wr.cell? ⟨nb, i, none⟩ = some (.bool x) := ⟨_, k.needs.cell i hil⟩
        have HN := Lib.hid (show TuAt (wr.setCell ⟨nb, i, none⟩ (.bool true)) z B now u v ⟨d, a, true, List.replicate (i + 1) true ++ nd.drop (i + 1)⟩ n nb lv ls ∧ Keeps (fun k => k = z ∨ k = nb) W (wr.setCell ⟨nb, i, none⟩ (.bool true)) by
          have h1 := k.setNeed i true
          simp only at h1
          rw [rep_set nd i (by rw [HLEN.out]; exact hlt)] at h1
          exact ⟨h1, HI.out.2.trans ((setK wr nb i (.bool true)).sub (fun _ _ h => .inr h))⟩)
        have hi0 : (0 : Int) ≤ (i : Int) := by omega
        have hin : (i : Int) < (n : Int) := by omega
        clear k HI hil
        go_wp2
        go_roundw
        case rel => exact ⟨i + 1, by omega, by go_num, HN⟩
        case measure => simp [intOf]; omega
      · obtain rfl : i = n := by omega
        clear hlt hi
        go_wp2
        go_end0
        refine ⟨rfl, ?_, HI.out.2⟩
        have h1 := HI.out.1
        unfold beginG
        simp only
        rw [List.drop_eq_nil_of_le (by rw [HLEN.out]; exact Nat.le_refl _), List.append_nil] at h1
        rw [HLEN.out]
        exact h1

end Go.Proofs.Ytdmcijfjnegcgaa
/-
  Package grace: report, picked.
  Conditions: the ranges of Go's types.
-/
namespace Go.Proofs.Ytdmcijfjnegcgaa
set_option maxRecDepth 100000
open Go.RowKit Go.Shelf
attribute [local go_sem] Oper.semAt_some

/-- Is nobody needed but this one? -/
def lastB (nd : List Bool) (i : Nat) : Bool := (trN nd nd.length).all (· == (i : Int))
def reportE (g : GrS) (c : Int) : Int := if hasB g.nd.length c = false then 2 else if g.on = true then 0 else 4
def reportG (g : GrS) (i : Nat) : GrS := if lastB g.nd i = true then ⟨g.done + 1, g.asked, false, g.nd.set i false⟩ else ⟨g.done, g.asked, g.on, g.nd.set i false⟩
def pickE (g : GrS) (c : Int) : Int := if hasB g.nd.length c = false then 2 else 0
def pickG (g : GrS) (i : Nat) (q : Bool) : GrS := if g.on = true then (if q = true then reportG g i else g) else if g.done < g.asked then beginG g else g

set_option maxHeartbeats 4000000 in
theorem greport_no (z B : Nat) (now : Int) (u v : Value) (g : GrS) (n nb : Nat) (lv : Value) (ls : List Int) (c : Int) (W : World) (k : TuAt W z B now u v g n nb lv ls) (h : reportE g c ≠ 0) :
    Calls Try.prog 47 #[.pointer (some ⟨z, 0, none⟩), .int .i64 c] W fun e w' => e = woe (reportE g c) ∧ Below W.heap.size W w' := by
  obtain ⟨w1, hw1⟩ : ∃ X : World, X = W.alloc (.cells #[.int .i64 c] 3) := ⟨_, rfl⟩
  have hb1 : Below W.heap.size W w1 := by rw [hw1]; exact below1 _ _
  have HB := Lib.hid hb1
  have k1 := k.below hb1
  have hbx : Boxed w1 W.heap.size 3 (.int .i64 c) := by rw [hw1]; exact Boxed.new _ _ _
  have e0 := hbx.cell
  rw [hw1] at e0
  unfold reportE at h ⊢
  rw [k.len] at h ⊢
  cases hh : hasB n c with
  | false =>
    rw [if_pos rfl]
    have HC := Lib.hid (gat_no z now u v g.done g.asked g.on _ n n lv c w1 k1.box hh)
    clear h k k1 hb1 hh hbx
    go_enter Try.func47, Try.ntmps47
    go_wp2_with fail
    rw [← hw1]
    (with_reducible refine HC.out.mono ?_)
    rintro e w2 ⟨rfl, hb2⟩
    exact ⟨rfl, rfl, below_then HB.out HB.out.size hb2⟩
  | true =>
    rw [hh] at h
    rw [if_neg (by simp)] at h ⊢
    cases ho : g.on with
    | true => rw [ho] at h; exact absurd rfl h
    | false =>
      rw [if_neg (by simp)]
      have HC := Lib.hid (gat_ok z now u v g.done g.asked g.on _ n n lv c w1 k1.box hh)
      have HK1 := Lib.hid k1
      clear h k k1 hb1 hh hbx
      go_enter Try.func47, Try.ntmps47
      go_wp2_with fail
      rw [← hw1]
      (with_reducible refine HC.out.mono ?_)
      rintro e w2 ⟨rfl, hb2⟩
      have e5 := (HK1.out.below hb2).box.cells.2.2.2.2.2.1
      simp only [ho] at e5
      have HB2 := Lib.hid (below_then HB.out HB.out.size hb2)
      clear hb2 ho
      go_wp2
      exact ⟨rfl, rfl, HB2.out⟩

set_option maxHeartbeats 16000000 in
theorem greport_ok (z B : Nat) (now : Int) (u v : Value) (g : GrS) (n nb : Nat) (lv : Value) (ls : List Int) (i : Nat) (W : World) (k : TuAt W z B now u v g n nb lv ls) (ho : g.on = true) (hi : i < n) (hn : n ≤ 8) (h0 : 0 ≤ g.done) (h1 : g.done ≤ 2147483645) :
    Calls Try.prog 47 #[.pointer (some ⟨z, 0, none⟩), .int .i64 (i : Int)] W fun e w' => e = .returned (.tuple #[]) ∧ TuAt w' z B now u v (reportG g i) n nb lv ls ∧ Keeps (fun k => k = z ∨ k = nb) W w' := by
  obtain ⟨d, a, on, nd⟩ := g
  simp only at ho h0 h1
  subst ho
  obtain ⟨w1, hw1⟩ : ∃ X : World, X = W.alloc (.cells #[.int .i64 (i : Int)] 3) := ⟨_, rfl⟩
  have hb1 : Below W.heap.size W w1 := by rw [hw1]; exact below1 _ _
  have k1 := k.below hb1
  have hlen := k.len
  simp only at hlen
  have HLEN := Lib.hid hlen
  have hz : z < W.heap.size := k.box.lt
  have hnb : nb < W.heap.size := k.needs.lt
  have HZ := Lib.hid (And.intro hz hnb)
  have hbx : Boxed w1 W.heap.size 3 (.int .i64 (i : Int)) := by rw [hw1]; exact Boxed.new _ _ _
  have e0 := hbx.cell
  rw [hw1] at e0
  have HC := Lib.hid (gat_ok z now u v d a true _ n n lv (i : Int) w1 k1.box (by unfold hasB; simp; omega))
  have HK1 := Lib.hid (show TuAt w1 z B now u v ⟨d, a, true, nd⟩ n nb lv ls ∧ Boxed w1 W.heap.size 3 (.int .i64 (i : Int)) ∧ Below W.heap.size W w1 from ⟨k1, hbx, hb1⟩)
  clear k k1 hb1 hbx hlen hz hnb
  go_enter Try.func47, Try.ntmps47
  go_wp2_with fail
  rw [← hw1]
  (with_reducible refine HC.out.mono ?_)
  rintro e w2 ⟨rfl, hb2⟩
  have HK2 := Lib.hid (show TuAt w2 z B now u v ⟨d, a, true, nd⟩ n nb lv ls ∧ Boxed w2 W.heap.size 3 (.int .i64 (i : Int)) ∧ Below W.heap.size W w2 from ⟨HK1.out.1.below hb2, boxed_under HK1.out.2.1 hb2, below_then HK1.out.2.2 HK1.out.2.2.size hb2⟩)
  obtain ⟨d0, d1, d2, d3, d4, d5, d6, d7⟩ := HK2.out.1.box.cells
  simp only at d3 d4 d5
  clear hb2 HK1 HC e0 hw1
  go_wp2_with fail
  (with_reducible refine (needed_c d a true (.slice (some ⟨nb, 0, none⟩) n n) w2).mono ?_)
  rintro e w3 ⟨rfl, hw3⟩
  have hb3 : Below w2.heap.size w2 w3 := by rw [hw3]; exact below1 _ _
  have HK3 := Lib.hid (show TuAt w3 z B now u v ⟨d, a, true, nd⟩ n nb lv ls ∧ Boxed w3 W.heap.size 3 (.int .i64 (i : Int)) ∧ Below W.heap.size W w3 from ⟨HK2.out.1.below hb3, boxed_under HK2.out.2.1 hb3, below_then HK2.out.2.2 HK2.out.2.2.size hb3⟩)
  have HA := Lib.hid (all_c w2.heap.size W.heap.size d a true (some ⟨nb, 0, none⟩) n nd (i : Int) w3 (by rw [HLEN.out]; omega) (by rw [HLEN.out, hw3]; exact GBox.new _ _ _ _ _) (fun _ => ⟨nb, 0, rfl, fun h => h, fun j hj => by rw [Nat.zero_add]; exact HK3.out.1.needs.cell j hj⟩) HK3.out.2.1)
  clear hw3 hb3 HK2 d0 d1 d2 d3 d4 d5 d6 d7
  go_wp2_with fail
  (with_reducible refine HA.out.mono ?_)
  rintro e w4 ⟨rfl, hb4⟩
  have HK4 := Lib.hid (show TuAt w4 z B now u v ⟨d, a, true, nd⟩ n nb lv ls ∧ Boxed w4 W.heap.size 3 (.int .i64 (i : Int)) ∧ Below W.heap.size W w4 from ⟨HK3.out.1.below hb4, boxed_under HK3.out.2.1 hb4, below_then HK3.out.2.2 HK3.out.2.2.size hb4⟩)
  obtain ⟨lb, hlb⟩ : ∃ x, x = (trN nd nd.length).all (· == (i : Int)) := ⟨_, rfl⟩
  have HLB := Lib.hid (show lastB nd i = lb by rw [hlb]; rfl)
  rw [← hlb]
  have d6 := HK4.out.1.box.cells.2.2.2.2.2.2.1
  have e1 := HK4.out.2.1.cell
  obtain ⟨x, ci⟩ : ∃ x : Bool, w4.cell? ⟨nb, i, none⟩ = some (.bool x) := ⟨_, HK4.out.1.needs.cell i (by simp only; rw [HLEN.out]; exact hi)⟩
  have fi := HK4.out.1.needs.free i
  have hi0 : (0 : Int) ≤ (i : Int) := by omega
  have hin : (i : Int) < (n : Int) := by omega
  clear hb4 hlb HK3 HA
  go_wp2_with fail
  go_region
  have HK5 := Lib.hid (show TuAt (w4.setCell ⟨nb, i, none⟩ (.bool false)).drew z B now u v ⟨d, a, true, nd.set i false⟩ n nb lv ls ∧ Keeps (fun k => k = z ∨ k = nb) W (w4.setCell ⟨nb, i, none⟩ (.bool false)).drew from
    ⟨(HK4.out.1.setNeed i false).keeps (S := fun _ => False) ((Keeps.refl _ _).drewN 1) id id (fun _ _ => id), (((Keeps.of_below HK4.out.2.2).trans ((setK w4 nb i (.bool false)).sub (fun _ _ h => .inr h))).drewN 1)⟩)
  obtain ⟨w5, hw5⟩ : ∃ X : World, X = (w4.setCell ⟨nb, i, none⟩ (.bool false)).drew := ⟨_, rfl⟩
  rw [← hw5] at HK5
  rw [← hw5]
  clear hw5 HK4 d6 e1 ci fi
  cases lb with
  | false =>
    go_wp2
    go_end0
    refine ⟨rfl, ?_, HK5.out.2⟩
    unfold reportG
    simp only
    rw [HLB.out, if_neg Bool.false_ne_true]
    exact HK5.out.1
  | true =>
    obtain ⟨d0, d1, d2, d3, d4, d5, d6, d7⟩ := HK5.out.1.box.cells
    simp only at d3 d4 d5
    have m3 := HK5.out.1.box.marks 3
    have m5 := HK5.out.1.box.marks 5
    have HK6 := Lib.hid (show TuAt ((w5.setCell ⟨z, 3, none⟩ (.int .i64 (d + 1))).setCell ⟨z, 5, none⟩ (.bool false)) z B now u v ⟨d + 1, a, false, nd.set i false⟩ n nb lv ls ∧ Keeps (fun k => k = z ∨ k = nb) W ((w5.setCell ⟨z, 3, none⟩ (.int .i64 (d + 1))).setCell ⟨z, 5, none⟩ (.bool false)) from
      ⟨(HK5.out.1.set3 (d + 1)).set5 false, (HK5.out.2.trans ((setK w5 z 3 (.int .i64 (d + 1))).sub (fun _ _ h => .inl h))).trans ((setK _ z 5 (.bool false)).sub (fun _ _ h => .inl h))⟩)
    clear HK5
    go_wp2
    go_end0
    refine ⟨rfl, ?_, HK6.out.2⟩
    unfold reportG
    simp only
    rw [HLB.out, if_pos rfl]
    exact HK6.out.1


set_option maxHeartbeats 4000000 in
theorem gpicked_no (z B : Nat) (now : Int) (u v : Value) (g : GrS) (n nb : Nat) (lv : Value) (ls : List Int) (c : Int) (q : Bool) (W : World) (k : TuAt W z B now u v g n nb lv ls) (h : hasB n c = false) :
    Calls Try.prog 49 #[.pointer (some ⟨z, 0, none⟩), .int .i64 c, .bool q] W fun e w' => e = woe 2 ∧ Below W.heap.size W w' := by
  have HC := Lib.hid (gat_no z now u v g.done g.asked g.on _ n n lv c W k.box h)
  clear h k
  go_enter Try.func49, Try.ntmps49
  go_wp2_with fail
  (with_reducible refine HC.out.mono ?_)
  rintro e w2 ⟨rfl, hb2⟩
  exact ⟨rfl, rfl, hb2⟩

set_option maxHeartbeats 16000000 in
theorem gpicked_ok (z B : Nat) (now : Int) (u v : Value) (g : GrS) (n nb : Nat) (lv : Value) (ls : List Int) (i : Nat) (q : Bool) (W : World) (k : TuAt W z B now u v g n nb lv ls) (hi : i < n) (hn : n ≤ 8) (h0 : 0 ≤ g.done) (h1 : g.done ≤ 2147483645) (h2 : g.done ≤ g.asked) :
    Calls Try.prog 49 #[.pointer (some ⟨z, 0, none⟩), .int .i64 (i : Int), .bool q] W fun e w' => e = .returned (.tuple #[]) ∧ TuAt w' z B now u v (pickG g i q) n nb lv ls ∧ Keeps (fun k => k = z ∨ k = nb) W w' := by
  have HC := Lib.hid (gat_ok z now u v g.done g.asked g.on _ n n lv (i : Int) W k.box (by unfold hasB; simp; omega))
  have HK := Lib.hid k
  obtain ⟨d, a, on, nd⟩ := g
  simp only at h0 h1 h2 HC
  clear k
  cases on with
  | true =>
    cases q with
    | true =>
      have HR := Lib.hid (fun (Z : World) (k : TuAt Z z B now u v ⟨d, a, true, nd⟩ n nb lv ls) => greport_ok z B now u v ⟨d, a, true, nd⟩ n nb lv ls i Z k rfl hi hn h0 h1)
      go_enter Try.func49, Try.ntmps49
      go_wp2_with fail
      (with_reducible refine HC.out.mono ?_)
      rintro e w2 ⟨rfl, hb2⟩
      have HK2 := Lib.hid (HK.out.below hb2)
      have d5 := HK2.out.box.cells.2.2.2.2.2.1
      simp only at d5
      have HB2 := Lib.hid hb2
      clear hb2 HK
      go_wp2_with fail
      (with_reducible refine (HR.out w2 HK2.out).mono ?_)
      rintro e w3 ⟨rfl, hk3, hkk⟩
      have HF := Lib.hid (And.intro hk3 ((Keeps.of_below HB2.out).trans hkk))
      clear hk3 hkk HK2 HB2 d5
      go_wp2
      go_end0
      exact ⟨rfl, HF.out⟩
    | false =>
      go_enter Try.func49, Try.ntmps49
      go_wp2_with fail
      (with_reducible refine HC.out.mono ?_)
      rintro e w2 ⟨rfl, hb2⟩
      have HK2 := Lib.hid (HK.out.below hb2)
      have d5 := HK2.out.box.cells.2.2.2.2.2.1
      simp only at d5
      have HB2 := Lib.hid hb2
      clear hb2 HK
      go_wp2
      go_quiet (fail)
      go_wp2
      go_end0
      exact ⟨rfl, HK2.out.keeps (S := fun _ => False) ((Keeps.refl _ _).drewN _) id id (fun _ _ => id), (Keeps.of_below HB2.out).drewN _⟩
  | false =>
    by_cases hlt : d < a
    · have hdec : decide (d < a) = true := decide_eq_true hlt
      have HR := Lib.hid (fun (Z : World) (k : TuAt Z z B now u v ⟨d, a, false, nd⟩ n nb lv ls) => gbegin_ok z B now u v ⟨d, a, false, nd⟩ n nb lv ls Z k (by unfold beginE; simp; omega) hn)
      go_enter Try.func49, Try.ntmps49
      go_wp2_with fail
      (with_reducible refine HC.out.mono ?_)
      rintro e w2 ⟨rfl, hb2⟩
      have HK2 := Lib.hid (HK.out.below hb2)
      obtain ⟨d0, d1, d2, d3, d4, d5, d6, d7⟩ := HK2.out.box.cells
      simp only at d3 d4 d5
      have HB2 := Lib.hid hb2
      clear hb2 HK
      go_wp2
      go_quiet (fail)
      go_wp2_with fail
      (with_reducible refine (HR.out _ (HK2.out.keeps (S := fun _ => False) ((Keeps.refl _ _).drewN _) id id (fun _ _ => id))).mono ?_)
      rintro e w3 ⟨rfl, hk3, hkk⟩
      have HF := Lib.hid (show TuAt w3 z B now u v (beginG ⟨d, a, false, nd⟩) n nb lv ls ∧ Keeps (fun k => k = z ∨ k = nb) W w3 from ⟨hk3, ((Keeps.of_below HB2.out).drewN _).trans hkk⟩)
      have HP := Lib.hid (show pickG ⟨d, a, false, nd⟩ i q = beginG ⟨d, a, false, nd⟩ by unfold pickG; rw [if_neg (by simp), if_pos hlt])
      clear hk3 hkk HK2 HB2 hlt hdec d0 d1 d2 d3 d4 d5 d6 d7
      go_wp2
      go_end0
      exact ⟨rfl, by rw [HP.out]; exact HF.out.1, HF.out.2⟩
    · have hdec : decide (d < a) = false := decide_eq_false hlt
      go_enter Try.func49, Try.ntmps49
      go_wp2_with fail
      (with_reducible refine HC.out.mono ?_)
      rintro e w2 ⟨rfl, hb2⟩
      have HK2 := Lib.hid (HK.out.below hb2)
      obtain ⟨d0, d1, d2, d3, d4, d5, d6, d7⟩ := HK2.out.box.cells
      simp only at d3 d4 d5
      have HB2 := Lib.hid hb2
      have HP := Lib.hid (show pickG ⟨d, a, false, nd⟩ i q = ⟨d, a, false, nd⟩ by unfold pickG; rw [if_neg (by simp), if_neg (by simp only; omega)])
      clear hb2 HK
      go_wp2
      go_quiet (fail)
      go_wp2
      go_end0
      exact ⟨rfl, by rw [HP.out]; exact HK2.out.keeps (S := fun _ => False) ((Keeps.refl _ _).drewN _) id id (fun _ _ => id), (Keeps.of_below HB2.out).drewN _⟩

end Go.Proofs.Ytdmcijfjnegcgaa
/-
  Package grace: hold.
  Conditions: the ranges of Go's types.
-/
namespace Go.Proofs.Ytdmcijfjnegcgaa
set_option maxRecDepth 100000
open Go.RowKit Go.Shelf
attribute [local go_sem] Oper.semAt_some

set_option maxHeartbeats 4000000 in
theorem ghold_no (z : Nat) (g : GrS) (v : Value) (W : World) (hn : BoolsAt W v g.nd) (h1 : g.nd.length ≤ 9223372036854775807) (hm : mayG g = false) :
    Calls Try.prog 42 #[.pointer (some ⟨z, 0, none⟩), .agg #[.int .i64 g.done, .int .i64 g.asked, .bool g.on, v]] W fun e w' => e = woe 220 ∧ Below W.heap.size W w' := by
  obtain ⟨w0, hw0⟩ : ∃ X : World, X = W.alloc (.cells #[.int .i64 g.done, .int .i64 g.asked, .bool g.on, v] 24) := ⟨_, rfl⟩
  have hb0 : Below W.heap.size W w0 := by rw [hw0]; exact below1 _ _
  have HB := Lib.hid hb0
  have HC := Lib.hid (gcheck_c g v w0 (bools_below hn hb0) h1)
  rw [hm, if_neg Bool.false_ne_true] at HC
  have hbx : GBox w0 W.heap.size g.done g.asked g.on v := by rw [hw0]; exact GBox.new _ _ _ _ _
  obtain ⟨d0, d1, d2, d3⟩ := hbx.cells
  obtain ⟨p, c, rfl, -⟩ := hn
  clear hb0 h1 hbx hm
  go_enter Try.func42, Try.ntmps42
  go_wp2_with fail
  rw [← hw0]
  clear hw0
  (with_reducible refine HC.out.mono ?_)
  rintro e w1 ⟨rfl, hb1⟩
  have HB1 := Lib.hid (below_then HB.out HB.out.size hb1)
  clear hb1
  go_wp2_with fail
  (with_reducible refine (must_no 220 (by decide) w1).mono ?_)
  rintro e w2 ⟨rfl, rfl⟩
  exact ⟨rfl, rfl, HB1.out⟩

set_option maxHeartbeats 8000000 in
theorem ghold_ok (z B : Nat) (now : Int) (u0 v0 : Value) (dd0 a0 : Int) (on0 : Bool) (nv0 lv : Value) (ls : List Int) (g : GrS) (v : Value) (W : World) (hn : BoolsAt W v g.nd) (h1 : g.nd.length ≤ 8) (hm : mayG g = true)
    (kb : TBox W z now u0 v0 dd0 a0 on0 nv0 lv) (hr : W.ownsRow B 3 1 lv ls.length (ls.map (Value.int .i64))) :
    Calls Try.prog 42 #[.pointer (some ⟨z, 0, none⟩), .agg #[.int .i64 g.done, .int .i64 g.asked, .bool g.on, v]] W fun e w' => e = .returned (.tuple #[]) ∧ ∃ nb, TuAt w' z B now u0 v0 g g.nd.length nb lv ls ∧ Keeps (fun k => k = z) W w' ∧ W.heap.size ≤ nb := by
  obtain ⟨d, a, on, nd⟩ := g
  obtain ⟨n, hnl⟩ : ∃ n, n = nd.length := ⟨_, rfl⟩
  simp only at hn h1 ⊢
  rw [← hnl] at h1 ⊢
  obtain ⟨w0, hw0⟩ : ∃ X : World, X = W.alloc (.cells #[.int .i64 d, .int .i64 a, .bool on, v] 24) := ⟨_, rfl⟩
  have hb0 : Below W.heap.size W w0 := by rw [hw0]; exact below1 _ _
  have HB := Lib.hid hb0
  have HC := Lib.hid (gcheck_c ⟨d, a, on, nd⟩ v w0 (bools_below hn hb0) (by simp only; omega))
  rw [hm, if_pos rfl] at HC
  have HBX := Lib.hid (show GBox w0 W.heap.size d a on v by rw [hw0]; exact GBox.new _ _ _ _ _)
  have HS := Lib.hid (show W.heap.size < w0.heap.size ∧ z < W.heap.size from ⟨HBX.out.lt, kb.lt⟩)
  have HKB := Lib.hid (And.intro kb hr)
  obtain ⟨d0, d1, d2, d3⟩ := HBX.out.cells
  have HBO := Lib.hid hn
  obtain ⟨p, c, rfl, hpc⟩ := hn
  rw [← hnl] at HBX d3 hw0 HC ⊢
  have HN := Lib.hid hnl
  have hmk := run_makeB n (by omega)
  clear hb0 hm hnl kb hr
  go_enter Try.func42, Try.ntmps42
  go_wp2_with fail
  rw [← hw0]
  clear hw0
  (with_reducible refine HC.out.mono ?_)
  rintro e w1 ⟨rfl, hb1⟩
  have HB1 := Lib.hid (below_then HB.out HB.out.size hb1)
  have HBX1 := Lib.hid (HBX.out.below hb1)
  have HS1 := Lib.hid (show W.heap.size < w1.heap.size from Nat.lt_of_lt_of_le HS.out.1 hb1.size)
  clear hb1 d0 d1 d2 d3
  go_wp2_with fail
  (with_reducible refine (must_ok w1).mono ?_)
  rintro e w1 ⟨rfl, rfl⟩
  obtain ⟨d0, d1, d2, d3⟩ := HBX1.out.cells
  obtain ⟨w2, hw2⟩ : ∃ w : World, w = w1.alloc (.cells (Array.replicate n (Value.bool false)) 4) := ⟨_, rfl⟩
  obtain ⟨nb, hnb⟩ : ∃ nb, nb = w1.heap.size := ⟨_, rfl⟩
  have hb2 : Below nb w1 w2 := by rw [hw2, hnb]; exact (Below.refl _ _).alloc (Nat.le_refl _) _
  have hg2 : w2.heap[nb]? = some (.cells (List.replicate n (Value.bool false)).toArray 4 (0, 0)) := by rw [hw2, hnb, List.toArray_replicate]; exact World.alloc_heap_new _ _
  have hb2' : Below w1.heap.size w1 w2 := by rw [← hnb]; exact hb2
  have HBX2 := Lib.hid (HBX1.out.below hb2')
  have HSR := Lib.hid (show 0 < (nd.map Value.bool).length → ∃ ad, p = some ad ∧ ∀ j u, (nd.map Value.bool)[j]? = some u → w2.cell? (ad.add j) = some u from fun hpos => by
    obtain ⟨b, off, rfl, hcs⟩ := hpc (by rintro rfl; simp at hpos)
    refine ⟨_, rfl, fun j u hj => ?_⟩
    obtain ⟨hj1, rfl⟩ := List.getElem?_eq_some_iff.1 hj
    rw [List.length_map] at hj1
    rw [addr_add_off, List.getElem_map]
    exact below_cell hb2' (below_cell (HB1.out.mono (Nat.le_refl _)) (hcs j hj1)))
  have HLN := Lib.hid (show (nd.map Value.bool).length = Nat.min n n by rw [List.length_map, ← HN.out]; exact (Nat.min_self n).symm)
  have HFT := Lib.hid (show 0 + (nd.map Value.bool).length ≤ (List.replicate n (Value.bool false)).length by rw [List.length_map, List.length_replicate, ← HN.out]; omega)
  have HOC := Lib.hid (show ∀ u ∈ nd.map Value.bool, u.oneCell' = true from fun u hu => by obtain ⟨x, _, rfl⟩ := List.mem_map.1 hu; rfl)
  have HG2 := Lib.hid hg2
  have HB2 := Lib.hid (And.intro hb2 (below_then HB1.out HB1.out.size hb2'))
  have HW2 := Lib.hid (And.intro hw2 hnb)
  have HZ2 := Lib.hid (show W.heap.size < nb by rw [hnb]; exact HS1.out)
  clear hb2 hb2' hg2 hw2 hnb hpc
  go_upto_region 3 with fail
  rw [← HW2.out.1, ← HW2.out.2]
  clear hmk d0 d1 d2 d3
  obtain ⟨d0, d1, d2, d3⟩ := HBX2.out.cells
  go_upto_region 4 with (with_reducible refine wpList_copy_splice (o := ⟨some 15, _, _, _, _, _⟩) rfl (.tmp 12) (.tmp 14) 22 22 rfl 4 Try.underlying22 (by kernel_rfl) (some ⟨nb, 0, none⟩) p n n n c rfl rfl nb 0 (List.replicate n (Value.bool false)) 4 HG2.out (nd.map Value.bool) HLN.out (fun hpos => ⟨rfl, HSR.out hpos⟩) HFT.out HOC.out nb w1 HB2.out.1 (Nat.le_refl _) ?_; intro w3 HG3 hB3)
  have hsp : splice (List.replicate n (Value.bool false)) 0 (nd.map Value.bool) = nd.map Value.bool := by
    unfold splice
    rw [List.take_zero, List.nil_append, List.drop_eq_nil_of_le (by rw [List.length_replicate, List.length_map, ← HN.out]; omega), List.append_nil]
  rw [hsp] at HG3
  have hK3 : Below W.heap.size W w3 := HB1.out.trans (hB3.mono (Nat.le_of_lt HZ2.out))
  have hbx3 : GBox w3 W.heap.size d a on (.slice p n c) := (hB3.block W.heap.size HZ2.out).trans HBX1.out
  have hnb3 : BBlock w3 nb nd := HG3.out
  have htb3 := HKB.out.1.below hK3
  have hrw3 := owns_below HKB.out.2 hK3
  have hzS := HS.out.2
  clear HBX2 d0 d1 d2 d3 HSR HLN HFT HOC HG2 HG3 hB3 hsp HC HBX
  obtain ⟨d0, d1, d2, d3⟩ := hbx3.cells
  have m3 := hbx3.marks 3
  have hk4 := setK w3 W.heap.size 3 (.slice (some ⟨nb, 0, none⟩) n n)
  have hbx4 : GBox (w3.setCell ⟨W.heap.size, 3, none⟩ (.slice (some ⟨nb, 0, none⟩) n n)) W.heap.size d a on (.slice (some ⟨nb, 0, none⟩) n n) := by
    unfold GBox; rw [heap_setCell_same w3 W.heap.size 3 _ _ _ hbx3]; rfl
  have htb4 := htb3.keeps hk4 (by omega)
  have hnb4 := hnb3.keeps hk4 (by have := HZ2.out; omega)
  have hrw4 := hk4.row hrw3 (fun q hq e => by
    have h1 := (HKB.out.2.lt q hq).2
    omega)
  obtain ⟨w4, hw4⟩ : ∃ X : World, X = w3.setCell ⟨W.heap.size, 3, none⟩ (.slice (some ⟨nb, 0, none⟩) n n) := ⟨_, rfl⟩
  rw [← hw4] at hbx4 htb4 hnb4 hrw4 hk4
  have HF := Lib.hid (show GBox w4 W.heap.size d a on (.slice (some ⟨nb, 0, none⟩) n n) ∧ TBox w4 z now u0 v0 dd0 a0 on0 nv0 lv ∧ BBlock w4 nb nd ∧ w4.ownsRow B 3 1 lv ls.length (ls.map (Value.int .i64)) ∧ Below W.heap.size W w4 from ⟨hbx4, htb4, hnb4, hrw4, hK3.trans (hk4.below hK3.size (fun k e => by omega))⟩)
  have HW4 := Lib.hid hw4
  clear hbx3 hnb3 htb3 hrw3 hk4 hbx4 htb4 hnb4 hrw4 hw4 hK3 hzS
  simp only [Act.put, goInt]
  go_upto_region 5 with fail
  rw [← HW4.out]
  clear d0 d1 d2 d3 m3
  obtain ⟨d0, d1, d2, d3⟩ := HF.out.1.cells
  obtain ⟨c0, c1, c2, c3, c4, c5, c6, c7⟩ := HF.out.2.1.cells
  have m3 := HF.out.2.1.marks 3
  have m4 := HF.out.2.1.marks 4
  have m5 := HF.out.2.1.marks 5
  have m6 := HF.out.2.1.marks 6
  have HT := Lib.hid (HF.out.2.1.putG d a on (.slice (some ⟨nb, 0, none⟩) n n))
  have HK := Lib.hid (show Keeps (fun k => k = z) w4 ((((w4.setCell ⟨z, 3, none⟩ (.int .i64 d)).setCell ⟨z, 4, none⟩ (.int .i64 a)).setCell ⟨z, 5, none⟩ (.bool on)).setCell ⟨z, 6, none⟩ (.slice (some ⟨nb, 0, none⟩) n n)) from (((setK _ z 3 _).trans (setK _ z 4 _)).trans (setK _ z 5 _)).trans (setK _ z 6 _))
  go_wp2
  go_end0
  refine ⟨rfl, nb, ⟨HT.out, HN.out.symm, HF.out.2.2.1.keeps HK.out (fun e => HF.out.2.1.ne_bools HF.out.2.2.1 e.symm), HK.out.row HF.out.2.2.2.1 (fun q hq e => HF.out.2.1.ne_row HF.out.2.2.2.1 q hq e)⟩, (Keeps.of_below HF.out.2.2.2.2).trans HK.out, Nat.le_of_lt HZ2.out⟩

end Go.Proofs.Ytdmcijfjnegcgaa
/-
  Package grace: tried: a turn behind what it does, or the error with which it was left.
  Conditions: as each has them.
-/
namespace Go.Proofs.Ytdmcijfjnegcgaa
set_option maxRecDepth 100000
open Go.RowKit Go.Shelf
attribute [local go_sem] Oper.semAt_some

set_option maxHeartbeats 4000000 in
theorem tried1_pan (z : Nat) (x y : Int) (older : List PanicEntry) (now : Int) (u v : Value) (d a : Int) (on : Bool) (nv lv : Value) (w : World) (kb : TBox w z now u v d a on nv lv) (he : Boxed w (z + 1) 29 (.int .i64 y)) :
    CallsD Try.prog 61 #[.pointer (some ⟨z, 0, none⟩), .pointer (some ⟨z + 1, 0, none⟩)] (.panicking ({ v := .iface 29 (.int .i64 x), recovered := false } :: older)) w fun e u' w' =>
      e = .returned (.tuple #[]) ∧ u' = .panicking ({ v := .iface 29 (.int .i64 x), recovered := true } :: older) ∧ TBox w' z 0 (.slice none 0 0) (.slice none 0 0) 0 0 false (.slice none 0 0) (.slice none 0 0) ∧ Boxed w' (z + 1) 29 (.int .i64 x) ∧ Keeps (fun k => k = z ∨ k = z + 1) w w' := by
  refine callsD_of_wpS Try.func61 rfl fun c₀ cs hu => ?_
  apply wpS_seq
  apply wpS_region
  simp [wpOpsS, go_sem, recoverD, hu, Try.ntmps61, Exit.thenS]
  refine wpS_of_wp ?_
  have hne : ∀ w, (binOp .neq 20 (.iface 29 (.int .i64 x)) .nilIface).run Try.prog w = .ok (.bool true) w := fun w => by kernel_rfl
  have hta : ∀ w, (Instr.typeAssert (.iface 29 (.int .i64 x)) 20 29 false).run Try.prog w = .ok (.int .i64 x) w := fun w => by kernel_rfl
  have hbl : ∀ w, (Instr.build 71 #[]).run Try.prog w = .ok (.agg #[.int .i64 0, .slice none 0 0, .slice none 0 0, .int .i64 0, .int .i64 0, .bool false, .slice none 0 0, .slice none 0 0]) w := fun w => by kernel_rfl
  obtain ⟨d0, d1, d2, d3, d4, d5, d6, d7⟩ := kb.cells
  have e0 := he.cell
  have m0 := kb.marks 0
  have m1 := kb.marks 1
  have m2 := kb.marks 2
  have m3 := kb.marks 3
  have m4 := kb.marks 4
  have m5 := kb.marks 5
  have m6 := kb.marks 6
  have m7 := kb.marks 7
  have f0 := he.frozen
  change Code.wp _ _ _ { tmps := #[.pointer (some ⟨z, 0, none⟩), .pointer (some ⟨z + 1, 0, none⟩), .iface 29 (.int .i64 x), .iface 29 (.int .i64 x), undef, undef, undef, undef, undef], defers := [] } w
  have hT := ((kb.putR 0 (.slice none 0 0) (.slice none 0 0)).putG 0 0 false (.slice none 0 0)).set7 (.slice none 0 0)
  have hK : Keeps (fun k => k = z) w ((((((((w.setCell ⟨z, 0, none⟩ (.int .i64 0)).setCell ⟨z, 1, none⟩ (.slice none 0 0)).setCell ⟨z, 2, none⟩ (.slice none 0 0)).setCell ⟨z, 3, none⟩ (.int .i64 0)).setCell ⟨z, 4, none⟩ (.int .i64 0)).setCell ⟨z, 5, none⟩ (.bool false)).setCell ⟨z, 6, none⟩ (.slice none 0 0)).setCell ⟨z, 7, none⟩ (.slice none 0 0)) :=
    (((((((setK w z 0 _).trans (setK _ z 1 _)).trans (setK _ z 2 _)).trans (setK _ z 3 _)).trans (setK _ z 4 _)).trans (setK _ z 5 _)).trans (setK _ z 6 _)).trans (setK _ z 7 _)
  obtain ⟨w1, hw1⟩ : ∃ X : World, X = ((((((((w.setCell ⟨z, 0, none⟩ (.int .i64 0)).setCell ⟨z, 1, none⟩ (.slice none 0 0)).setCell ⟨z, 2, none⟩ (.slice none 0 0)).setCell ⟨z, 3, none⟩ (.int .i64 0)).setCell ⟨z, 4, none⟩ (.int .i64 0)).setCell ⟨z, 5, none⟩ (.bool false)).setCell ⟨z, 6, none⟩ (.slice none 0 0)).setCell ⟨z, 7, none⟩ (.slice none 0 0)) := ⟨_, rfl⟩
  rw [← hw1] at hT hK
  have hE : Boxed w1 (z + 1) 29 (.int .i64 y) := (hK.block (z + 1) he.lt (by omega)).trans he
  have HF := Lib.hid (show TBox (w1.setCell ⟨z + 1, 0, none⟩ (.int .i64 x)) z 0 (.slice none 0 0) (.slice none 0 0) 0 0 false (.slice none 0 0) (.slice none 0 0) ∧ Boxed (w1.setCell ⟨z + 1, 0, none⟩ (.int .i64 x)) (z + 1) 29 (.int .i64 x) ∧ Keeps (fun k => k = z ∨ k = z + 1) w (w1.setCell ⟨z + 1, 0, none⟩ (.int .i64 x)) from
    ⟨hT.keeps (setK w1 (z + 1) 0 (.int .i64 x)) (by omega), hE.set _, (hK.sub (fun _ _ h => .inl h)).trans ((setK w1 (z + 1) 0 (.int .i64 x)).sub (fun _ _ h => .inr h))⟩)
  have HW1 := Lib.hid hw1
  clear hT hK hE hw1 kb he
  go_wp2
  go_region
  rw [← HW1.out]
  refine ⟨rfl, _, rfl, .tuple #[], results_none rfl _ _ _, rfl, rfl, ?_⟩
  exact ⟨HF.out.1.keeps (S := fun _ => False) ((Keeps.refl _ _).drewN 1) id, HF.out.2.1, HF.out.2.2.drewN 1⟩

set_option maxHeartbeats 4000000 in
theorem tried1_ret (z : Nat) (w : World) :
    CallsD Try.prog 61 #[.pointer (some ⟨z, 0, none⟩), .pointer (some ⟨z + 1, 0, none⟩)] .returning w fun e u' w' => e = .returned (.tuple #[]) ∧ u' = .returning ∧ w' = w := by
  refine callsD_of_wpS Try.func61 rfl fun c₀ cs hu => ?_
  apply wpS_seq
  apply wpS_region
  simp [wpOpsS, go_sem, recoverD, hu, Try.ntmps61, Exit.thenS]
  refine wpS_of_wp ?_
  have hne : ∀ w, (binOp .neq 20 .nilIface .nilIface).run Try.prog w = .ok (.bool false) w := fun w => by kernel_rfl
  change Code.wp _ _ _ { tmps := #[.pointer (some ⟨z, 0, none⟩), .pointer (some ⟨z + 1, 0, none⟩), .nilIface, .nilIface, undef, undef, undef, undef, undef], defers := [] } w
  go_wp2
  refine ⟨rfl, _, ?_, .tuple #[], results_none rfl _ _ _, rfl, rfl, rfl⟩
  rw [← hu]

/-- The worlds with which tried begins. -/
def wT (W : World) : World := (W.alloc (.cells #[.int .i64 0, .slice none 0 0, .slice none 0 0, .int .i64 0, .int .i64 0, .bool false, .slice none 0 0, .slice none 0 0] 71)).alloc (.cells #[.int .i64 0] 29)
theorem wT_facts (W : World) : TBox (wT W) W.heap.size 0 (.slice none 0 0) (.slice none 0 0) 0 0 false (.slice none 0 0) (.slice none 0 0) ∧ Boxed (wT W) (W.heap.size + 1) 29 (.int .i64 0) ∧ Below W.heap.size W (wT W) ∧ (wT W).heap.size = W.heap.size + 2 := by
  refine ⟨(TBox.new W _ _ _ _ _ _ _ _).below (below1 _ _), ?_, below2 _ _ _, by unfold wT; simp⟩
  have := Boxed.new (W.alloc (.cells #[.int .i64 0, .slice none 0 0, .slice none 0 0, .int .i64 0, .int .i64 0, .bool false, .slice none 0 0, .slice none 0 0] 71)) 29 (.int .i64 0)
  rwa [World.size_alloc] at this
theorem turn_info : (Try.prog.info? 71).map (·.size) = some 8 := by kernel_rfl
theorem turn_load {W : World} {z : Nat} {now : Int} {u v : Value} {d a : Int} {on : Bool} {nv lv : Value} (h : TBox W z now u v d a on nv lv) : (loadVar 71 ⟨z, 0, none⟩).run Try.prog W = .ok (.agg #[.int .i64 now, u, v, .int .i64 d, .int .i64 a, .bool on, nv, lv]) W := by
  obtain ⟨h0, h1, h2, h3, h4, h5, h6, h7⟩ := h.cells
  refine run_loadVar_mid W z 0 71 [.int .i64 now, u, v, .int .i64 d, .int .i64 a, .bool on, nv, lv] _ (fun j u hj => ?_) Try.underlying71 rfl turn_info
  rw [Nat.zero_add]
  match j, hj with
  | 0, hj => cases hj; exact h0
  | 1, hj => cases hj; exact h1
  | 2, hj => cases hj; exact h2
  | 3, hj => cases hj; exact h3
  | 4, hj => cases hj; exact h4
  | 5, hj => cases hj; exact h5
  | 6, hj => cases hj; exact h6
  | 7, hj => cases hj; exact h7
  | (k + 8), hj => simp at hj
theorem errno_load {W : World} {z : Nat} {x : Int} (h : Boxed W z 29 (.int .i64 x)) : (loadVar 29 ⟨z, 0, none⟩).run Try.prog W = .ok (.int .i64 x) W := by
  have := h.cell
  simp [go_sem, this]
/-- Two results out of cells. -/
theorem results_cell2 {fn : Func} {a b : Tmp} {t u : TypeId} (h : fn.results = #[.cell a t, .cell b u]) (tmps : Array Value) (P : Program) (w : World) {p q : Addr} {x y : Value} (ha : tmps.getD a undef = .pointer (some p)) (hb : tmps.getD b undef = .pointer (some q))
    (hx : (loadVar t p).run P w = .ok x w) (hy : (loadVar u q).run P w = .ok y w) : (results fn tmps).run P w = .ok (.tuple #[x, y]) w := by
  unfold results
  rw [h]
  simp only [Array.mapM_eq_foldlM, List.foldlM_toArray, List.foldlM_cons, List.foldlM_nil, ha, hb, asAddr, run_fmap, Sem.run_bind, Sem.run_pure, Result.andThen_ok, hx, hy]
  rfl
/-- Is it a slice? -/
def IsSl (v : Value) : Prop := ∃ p n c, v = .slice p n c
/-- An empty turn. -/
def zeroT : Value := .agg #[.int .i64 0, .slice none 0 0, .slice none 0 0, .int .i64 0, .int .i64 0, .bool false, .slice none 0 0, .slice none 0 0]

set_option maxHeartbeats 8000000 in
theorem tried_K (K : Nat) (caps : Array Value) (W : World) (hcf : ∀ (args : Array Value) (w : World), (callFunc K args).run Try.prog w = .ok (.enter K args) w) (R : Value → Int → World → Prop)
    (hdo : Calls Try.prog K (#[.pointer (some ⟨W.heap.size, 0, none⟩)] ++ caps) (wT W) fun e w' => Below W.heap.size W w' ∧ ∃ now u v d a on nv lv, TBox w' W.heap.size now u v d a on nv lv ∧ (IsSl u ∧ IsSl v ∧ IsSl nv ∧ IsSl lv) ∧ Boxed w' (W.heap.size + 1) 29 (.int .i64 0) ∧
      ((∃ x, e = woe x ∧ ∀ X, Keeps (fun k => k = W.heap.size ∨ k = W.heap.size + 1) w' X → R zeroT x X) ∨
       (e = .returned (.tuple #[]) ∧ ∀ X, Keeps (fun k => k = W.heap.size ∨ k = W.heap.size + 1) w' X → R (.agg #[.int .i64 now, u, v, .int .i64 d, .int .i64 a, .bool on, nv, lv]) 0 X))) :
    Calls Try.prog 40 #[.func (.func K) #[] caps] W fun e w' => (∃ t x, e = .returned (.tuple #[t, .int .i64 x]) ∧ R t x w') ∧ Below W.heap.size W w' := by
  have hmf : ∀ (fn : Fn) (first cap : Array Value) (w : World), (Instr.makeFunc fn first cap).run Try.prog w = .ok (.func fn first cap) w := fun _ _ _ _ => rfl
  have HF := Lib.hid (wT_facts W)
  obtain ⟨w0, hw0⟩ : ∃ X, X = wT W := ⟨_, rfl⟩
  rw [← hw0] at HF hdo
  have HD := Lib.hid hdo
  clear hdo
  unfold wT at hw0
  go_enter_defers Try.func40, Try.ntmps40
  go_wp2_with fail
  rw [← hw0]
  clear hw0
  (with_reducible refine HD.out.mono ?_)
  rintro e w1 ⟨hb, now, u, v, d, a, on, nv, lv, kb, hsl, he, ⟨x, rfl, hR⟩ | ⟨rfl, hR⟩⟩
  · unfold woe
    refine leaves_cons (f := 61) (args := #[.pointer (some ⟨W.heap.size, 0, none⟩), .pointer (some ⟨W.heap.size + 1, 0, none⟩)]) (by simp) (by simp [go_sem]) ?_
    refine (tried1_pan W.heap.size x 0 [] now u v d a on nv lv w1 kb he).mono ?_
    rintro e u' w2 ⟨rfl, rfl, ht, he2, hk⟩
    have hr := results_cell2 (fn := Try.f40) rfl #[Value.func (Fn.func K) #[] caps, undef, Value.pointer (some { block := W.heap.size, off := 0 }), Value.pointer (some { block := W.heap.size + 1, off := 0 }), Value.func (Fn.func 61) #[] #[Value.pointer (some { block := W.heap.size, off := 0 }), Value.pointer (some { block := W.heap.size + 1, off := 0 })], Value.func (Fn.func K) #[] caps, undef, undef] Try.prog w2 rfl rfl (turn_load ht) (errno_load he2)
    simp [Leaves, settle, hr]
    exact ⟨⟨_, _, ⟨rfl, rfl⟩, hR w2 hk⟩, hb.trans (hk.below hb.size (fun k e => by omega))⟩
  · have HR := Lib.hid hR
    have HB := Lib.hid hb
    obtain ⟨d0, d1, d2, d3, d4, d5, d6, d7⟩ := kb.cells
    have m0 := kb.marks 0
    have m1 := kb.marks 1
    have m2 := kb.marks 2
    have m3 := kb.marks 3
    have m4 := kb.marks 4
    have m5 := kb.marks 5
    have m6 := kb.marks 6
    have m7 := kb.marks 7
    have e0 := he.cell
    have f0 := he.frozen
    have HKB := Lib.hid (And.intro kb he)
    have HS := Lib.hid (show TBox ((((((((w1.setCell ⟨W.heap.size, 0, none⟩ (.int .i64 now)).setCell ⟨W.heap.size, 1, none⟩ u).setCell ⟨W.heap.size, 2, none⟩ v).setCell ⟨W.heap.size, 3, none⟩ (.int .i64 d)).setCell ⟨W.heap.size, 4, none⟩ (.int .i64 a)).setCell ⟨W.heap.size, 5, none⟩ (.bool on)).setCell ⟨W.heap.size, 6, none⟩ nv).setCell ⟨W.heap.size, 7, none⟩ lv) W.heap.size now u v d a on nv lv ∧ Keeps (fun k => k = W.heap.size) w1 ((((((((w1.setCell ⟨W.heap.size, 0, none⟩ (.int .i64 now)).setCell ⟨W.heap.size, 1, none⟩ u).setCell ⟨W.heap.size, 2, none⟩ v).setCell ⟨W.heap.size, 3, none⟩ (.int .i64 d)).setCell ⟨W.heap.size, 4, none⟩ (.int .i64 a)).setCell ⟨W.heap.size, 5, none⟩ (.bool on)).setCell ⟨W.heap.size, 6, none⟩ nv).setCell ⟨W.heap.size, 7, none⟩ lv) from
      ⟨((kb.putR now u v).putG d a on nv).set7 lv, (((((((setK w1 W.heap.size 0 _).trans (setK _ W.heap.size 1 _)).trans (setK _ W.heap.size 2 _)).trans (setK _ W.heap.size 3 _)).trans (setK _ W.heap.size 4 _)).trans (setK _ W.heap.size 5 _)).trans (setK _ W.heap.size 6 _)).trans (setK _ W.heap.size 7 _)⟩)
    clear hR hb kb he
    obtain ⟨⟨pu, nu, cu, rfl⟩, ⟨pv, nv', cv, rfl⟩, ⟨pn, nn, cn, rfl⟩, ⟨pl, nl, cl, rfl⟩⟩ := hsl
    obtain ⟨w2, hw2⟩ : ∃ X : World, X = ((((((((w1.setCell ⟨W.heap.size, 0, none⟩ (.int .i64 now)).setCell ⟨W.heap.size, 1, none⟩ (.slice pu nu cu)).setCell ⟨W.heap.size, 2, none⟩ (.slice pv nv' cv)).setCell ⟨W.heap.size, 3, none⟩ (.int .i64 d)).setCell ⟨W.heap.size, 4, none⟩ (.int .i64 a)).setCell ⟨W.heap.size, 5, none⟩ (.bool on)).setCell ⟨W.heap.size, 6, none⟩ (.slice pn nn cn)).setCell ⟨W.heap.size, 7, none⟩ (.slice pl nl cl)) := ⟨_, rfl⟩
    rw [← hw2] at HS
    have hE : Boxed w2 (W.heap.size + 1) 29 (.int .i64 0) := (HS.out.2.block _ HKB.out.2.lt (by omega)).trans HKB.out.2
    have HT := Lib.hid (show TBox (w2.setCell ⟨W.heap.size + 1, 0, none⟩ (.int .i64 0)) W.heap.size now (.slice pu nu cu) (.slice pv nv' cv) d a on (.slice pn nn cn) (.slice pl nl cl) ∧ Boxed (w2.setCell ⟨W.heap.size + 1, 0, none⟩ (.int .i64 0)) (W.heap.size + 1) 29 (.int .i64 0) ∧ Keeps (fun k => k = W.heap.size ∨ k = W.heap.size + 1) w1 (w2.setCell ⟨W.heap.size + 1, 0, none⟩ (.int .i64 0)) from
      ⟨HS.out.1.keeps (setK w2 (W.heap.size + 1) 0 (.int .i64 0)) (by omega), hE.set _, (HS.out.2.sub (fun _ _ h => .inl h)).trans ((setK w2 (W.heap.size + 1) 0 (.int .i64 0)).sub (fun _ _ h => .inr h))⟩)
    rw [hw2] at HT
    have HW2 := Lib.hid hw2
    clear hE hw2
    go_wp2
    rw [← HW2.out]
    rw [← HW2.out] at HT
    refine leaves_cons (f := 61) (args := #[.pointer (some ⟨W.heap.size, 0, none⟩), .pointer (some ⟨W.heap.size + 1, 0, none⟩)]) (by simp) (by simp [go_sem]) ?_
    refine (tried1_ret W.heap.size _).mono ?_
    rintro e u' w3 ⟨rfl, rfl, rfl⟩
    have hr := results_cell2 (fn := Try.f40) rfl #[Value.func (Fn.func K) #[] caps, undef, Value.pointer (some { block := W.heap.size, off := 0 }), Value.pointer (some { block := W.heap.size + 1, off := 0 }), Value.func (Fn.func 61) #[] #[Value.pointer (some { block := W.heap.size, off := 0 }), Value.pointer (some { block := W.heap.size + 1, off := 0 })], Value.func (Fn.func K) #[] caps, Value.tuple #[], .agg #[.int .i64 now, .slice pu nu cu, .slice pv nv' cv, .int .i64 d, .int .i64 a, .bool on, .slice pn nn cn, .slice pl nl cl]] Try.prog _ rfl rfl (turn_load HT.out.1) (errno_load HT.out.2.1)
    simp [Leaves, settle, hr]
    exact ⟨⟨_, _, ⟨rfl, rfl⟩, HR.out _ HT.out.2.2⟩, HB.out.trans (HT.out.2.2.below HB.out.size (fun k e => by omega))⟩

end Go.Proofs.Ytdmcijfjnegcgaa
/-
  Package grace: what Ask, Begin, Report and Pick have a turn do.
  Conditions: the ranges of Go's types.
-/
namespace Go.Proofs.Ytdmcijfjnegcgaa
set_option maxRecDepth 100000
open Go.RowKit Go.Shelf
attribute [local go_sem] Oper.semAt_some

theorem mayG_facts {g : GrS} (h : mayG g = true) : 1 ≤ g.nd.length ∧ g.nd.length ≤ 8 ∧ 0 ≤ g.done ∧ g.done ≤ g.asked ∧ g.asked ≤ 2147483645 := by
  unfold mayG numsG mayCpus at h
  simp only [Bool.and_eq_true, decide_eq_true_eq] at h
  omega
/-- The error, where a grace that may not be comes first. -/
def errG (g : GrS) (e : Int) : Int := if mayG g = true then e else 220
def askE (g : GrS) : Int := if 2147483645 < nextG g then 6 else 0
def askG (g : GrS) : GrS := { g with asked := nextG g }
/-- A turn lies there. -/
def TAny (w : World) (z : Nat) : Prop := ∃ now u v d a on nv lv, TBox w z now u v d a on nv lv ∧ IsSl u ∧ IsSl v ∧ IsSl nv ∧ IsSl lv
theorem TAny.keeps {S : Nat → Prop} {w w' : World} {z : Nat} (h : TAny w z) (hk : Keeps S w w') (hz : ¬ S z) : TAny w' z := by
  obtain ⟨now, u, v, d, a, on, nv, lv, h1, h2⟩ := h
  exact ⟨now, u, v, d, a, on, nv, lv, h1.keeps hk hz, h2⟩
def nilV : Value := .slice none 0 0
theorem nil_sl : IsSl nilV := ⟨_, _, _, rfl⟩
theorem owns_sl {B : Nat} {E : TypeId} {W : World} {v : Value} {s n : Nat} {xs : List Value} (h : W.ownsRow B E s v n xs) : IsSl v := by
  obtain ⟨p, c, rfl⟩ := owns_slice h
  exact ⟨_, _, _, rfl⟩
theorem TuAt.any {W : World} {z B : Nat} {now : Int} {u v : Value} {g : GrS} {n nb : Nat} {lv : Value} {ls : List Int} (k : TuAt W z B now u v g n nb lv ls) (hu : IsSl u) (hv : IsSl v) : TAny W z := ⟨_, _, _, _, _, _, _, _, k.box, hu, hv, ⟨_, _, _, rfl⟩, owns_sl k.nums⟩
/-- What a turn leaves, or with which error it was left. -/
def DoQ (z B : Nat) (E : Int) (g' : GrS) (ls : List Int) (e : Ending) (W w' : World) : Prop :=
  Keeps (fun k => k = z) W w' ∧ ((E ≠ 0 ∧ e = woe E ∧ TAny w' z) ∨ (E = 0 ∧ e = .returned (.tuple #[]) ∧ ∃ nb lv, TuAt w' z z 0 nilV nilV g' g'.nd.length nb lv ls ∧ B ≤ nb))
theorem keepsB {z : Nat} {W w' : World} (h : Below W.heap.size W w') : Keeps (fun k => k = z) W w' := Keeps.of_below h
theorem askG_len (g : GrS) : (askG g).nd.length = g.nd.length := rfl
theorem beginG_len (g : GrS) : (beginG g).nd.length = g.nd.length := by unfold beginG; simp
theorem reportG_len (g : GrS) (i : Nat) : (reportG g i).nd.length = g.nd.length := by unfold reportG; split <;> simp
theorem pickG_len (g : GrS) (i : Nat) (q : Bool) : (pickG g i q).nd.length = g.nd.length := by
  unfold pickG
  split
  · split
    · exact reportG_len g i
    · rfl
  · split
    · exact beginG_len g
    · rfl
/-- Keeps at z alone, out of what order keeps. -/
theorem keeps_z {z nb : Nat} {W w1 w' : World} (h : Keeps (fun k => k = z) W w1) (hn : W.heap.size ≤ nb) (k : Keeps (fun k => k = z ∨ k = nb) w1 w') : Keeps (fun k => k = z) W w' :=
  ⟨k.os.trans h.os, k.tape.trans h.tape, k.output.trans h.output, Nat.le_trans h.size k.size, fun i hi hz => (k.block i (Nat.lt_of_lt_of_le hi h.size) (by intro e; rcases e with e | e; exact hz e; omega)).trans (h.block i hi hz)⟩

set_option maxHeartbeats 8000000 in
theorem ask1_c (z gb : Nat) (g : GrS) (v : Value)  (W : World) (kb : TBox W z 0 nilV nilV 0 0 false nilV nilV) (hg : GBox W gb g.done g.asked g.on v) (hv : BoolsAt W v g.nd) (hl : g.nd.length ≤ 9223372036854775807)  :
    Calls Try.prog 41 #[.pointer (some ⟨z, 0, none⟩), .pointer (some ⟨gb, 0, none⟩)] W fun e w' => DoQ z W.heap.size (errG g (askE g)) (askG g) [nextG g] e W w' := by
  have HKB := Lib.hid kb
  have HV := Lib.hid hv
  obtain ⟨d0, d1, d2, d3⟩ := hg.cells
  cases hm : mayG g with
  | false =>
    have HC := Lib.hid (ghold_no z g v W hv hl hm)
    have HE := Lib.hid (show ∀ e, errG g e = 220 from fun e => by unfold errG; rw [hm]; rfl)
    obtain ⟨p, pc, rfl, -⟩ := hv
    clear kb hg hl hm
    go_enter Try.func41, Try.ntmps41
    go_wp2_with fail
    (with_reducible refine HC.out.mono ?_)
    rintro e w1 ⟨rfl, hb1⟩
    refine ⟨rfl, keepsB hb1, .inl ⟨by rw [HE.out]; decide, by rw [HE.out]; rfl, ?_⟩⟩
    exact TAny.keeps ⟨_, _, _, _, _, _, _, _, HKB.out, nil_sl, nil_sl, nil_sl, nil_sl⟩ (keepsB (z := z + 1) hb1) (by omega)
  | true =>
    have hf := mayG_facts hm
    have HC := Lib.hid (ghold_ok z z 0 nilV nilV 0 0 false nilV nilV [] g v W hv hf.2.1 hm kb (World.ownsRow_nil _ _ _ _))
    have HE := Lib.hid (show ∀ e, errG g e = e from fun e => by unfold errG; rw [if_pos hm])
    have HF := Lib.hid hf
    have HZ := Lib.hid (show z < W.heap.size from kb.lt)
    obtain ⟨p, pc, rfl, -⟩ := hv
    clear kb hg hl hm
    go_enter Try.func41, Try.ntmps41
    go_wp2_with fail
    (with_reducible refine HC.out.mono ?_)
    rintro e w1 ⟨rfl, nb, k1, hk1, hnb⟩
    have HK1 := Lib.hid (And.intro k1 (And.intro hk1 hnb))
    clear k1 hnb d0 d1 d2 d3 HC hf
    clear hk1
    by_cases hx : 2147483645 < nextG g
    · have HX := Lib.hid (show askE g = 6 by unfold askE; rw [if_pos hx])
      have HC2 := Lib.hid (gorder_no z z 0 nilV nilV g g.nd.length nb nilV [] w1 HK1.out.1 HF.out.2.2.1 (by have := HF.out; omega) hx)
      clear hx
      go_wp2_with fail
      (with_reducible refine HC2.out.mono ?_)
      rintro e w2 ⟨rfl, hw2⟩
      rw [hw2]
      exact ⟨rfl, HK1.out.2.1, .inl ⟨by rw [HE.out, HX.out]; decide, by rw [HE.out, HX.out]; rfl, HK1.out.1.any nil_sl nil_sl⟩⟩
    · have HX := Lib.hid (show askE g = 0 by unfold askE; rw [if_neg hx])
      have HC2 := Lib.hid (gorder_ok z z 0 nilV nilV g g.nd.length nb nilV [] w1 HK1.out.1 HF.out.2.2.1 (by omega) (by have := HK1.out.2.1.size; have := HZ.out; omega) (by simp))
      clear hx
      go_wp2_with fail
      (with_reducible refine HC2.out.mono ?_)
      rintro e w2 ⟨rfl, lv2, k2, hk2, -, -⟩
      have HR := Lib.hid (show DoQ z W.heap.size (errG g (askE g)) (askG g) [nextG g] (.returned (.tuple #[])) W w2 from ⟨keeps_z HK1.out.2.1 HK1.out.2.2 (hk2.sub (fun k _ h => h.elim .inl (fun h => by cases h))), .inr ⟨by rw [HE.out, HX.out], rfl, nb, lv2, k2, HK1.out.2.2⟩⟩)
      clear k2 hk2
      go_wp2
      go_end0
      exact HR.out

set_option maxHeartbeats 8000000 in
theorem begin1_c (z gb : Nat) (g : GrS) (v : Value)  (W : World) (kb : TBox W z 0 nilV nilV 0 0 false nilV nilV) (hg : GBox W gb g.done g.asked g.on v) (hv : BoolsAt W v g.nd) (hl : g.nd.length ≤ 9223372036854775807)  :
    Calls Try.prog 44 #[.pointer (some ⟨z, 0, none⟩), .pointer (some ⟨gb, 0, none⟩)] W fun e w' => DoQ z W.heap.size (errG g (beginE g)) (beginG g) [] e W w' := by
  have HKB := Lib.hid kb
  have HV := Lib.hid hv
  obtain ⟨d0, d1, d2, d3⟩ := hg.cells
  cases hm : mayG g with
  | false =>
    have HC := Lib.hid (ghold_no z g v W hv hl hm)
    have HE := Lib.hid (show ∀ e, errG g e = 220 from fun e => by unfold errG; rw [hm]; rfl)
    obtain ⟨p, pc, rfl, -⟩ := hv
    clear kb hg hl hm
    go_enter Try.func44, Try.ntmps44
    go_wp2_with fail
    (with_reducible refine HC.out.mono ?_)
    rintro e w1 ⟨rfl, hb1⟩
    refine ⟨rfl, keepsB hb1, .inl ⟨by rw [HE.out]; decide, by rw [HE.out]; rfl, ?_⟩⟩
    exact TAny.keeps ⟨_, _, _, _, _, _, _, _, HKB.out, nil_sl, nil_sl, nil_sl, nil_sl⟩ (keepsB (z := z + 1) hb1) (by omega)
  | true =>
    have hf := mayG_facts hm
    have HC := Lib.hid (ghold_ok z z 0 nilV nilV 0 0 false nilV nilV [] g v W hv hf.2.1 hm kb (World.ownsRow_nil _ _ _ _))
    have HE := Lib.hid (show ∀ e, errG g e = e from fun e => by unfold errG; rw [if_pos hm])
    have HF := Lib.hid hf
    have HZ := Lib.hid (show z < W.heap.size from kb.lt)
    obtain ⟨p, pc, rfl, -⟩ := hv
    clear kb hg hl hm
    go_enter Try.func44, Try.ntmps44
    go_wp2_with fail
    (with_reducible refine HC.out.mono ?_)
    rintro e w1 ⟨rfl, nb, k1, hk1, hnb⟩
    have HK1 := Lib.hid (And.intro k1 (And.intro hk1 hnb))
    clear k1 hnb d0 d1 d2 d3 HC hf
    clear hk1
    by_cases hx : beginE g = 0
    · have HC2 := Lib.hid (gbegin_ok z z 0 nilV nilV g g.nd.length nb nilV [] w1 HK1.out.1 hx HF.out.2.1)
      have HX := Lib.hid hx
      clear hx
      go_wp2_with fail
      (with_reducible refine HC2.out.mono ?_)
      rintro e w2 ⟨rfl, k2, hk2⟩
      have HR := Lib.hid (show DoQ z W.heap.size (errG g (beginE g)) (beginG g) [] (.returned (.tuple #[])) W w2 from ⟨keeps_z HK1.out.2.1 HK1.out.2.2 hk2, .inr ⟨by rw [HE.out, HX.out], rfl, nb, nilV, by rw [beginG_len]; exact k2, HK1.out.2.2⟩⟩)
      clear k2 hk2
      go_wp2
      go_end0
      exact HR.out
    · have HC2 := Lib.hid (gbegin_no z z 0 nilV nilV g g.nd.length nb nilV [] w1 HK1.out.1 hx)
      have HX := Lib.hid hx
      clear hx
      go_wp2_with fail
      (with_reducible refine HC2.out.mono ?_)
      rintro e w2 ⟨rfl, hb2⟩
      exact ⟨rfl, HK1.out.2.1.trans (keepsB hb2), .inl ⟨by rw [HE.out]; exact HX.out, by rw [HE.out]; rfl, (HK1.out.1.below hb2).any nil_sl nil_sl⟩⟩

set_option maxHeartbeats 8000000 in
theorem reportc_c (z gb : Nat) (g : GrS) (v : Value) (cb : Nat) (c : Int) (W : World) (kb : TBox W z 0 nilV nilV 0 0 false nilV nilV) (hg : GBox W gb g.done g.asked g.on v) (hv : BoolsAt W v g.nd) (hl : g.nd.length ≤ 9223372036854775807) (hcb : Boxed W cb 3 (.int .i64 c)) (hcz : ¬ cb = z) :
    Calls Try.prog 46 #[.pointer (some ⟨z, 0, none⟩), .pointer (some ⟨gb, 0, none⟩), .pointer (some ⟨cb, 0, none⟩)] W fun e w' => DoQ z W.heap.size (errG g (reportE g c)) (reportG g c.toNat) [] e W w' := by
  have HKB := Lib.hid kb
  have HV := Lib.hid hv
  obtain ⟨d0, d1, d2, d3⟩ := hg.cells
  cases hm : mayG g with
  | false =>
    have HC := Lib.hid (ghold_no z g v W hv hl hm)
    have HE := Lib.hid (show ∀ e, errG g e = 220 from fun e => by unfold errG; rw [hm]; rfl)
    obtain ⟨p, pc, rfl, -⟩ := hv
    clear kb hg hl hm
    go_enter Try.func46, Try.ntmps46
    go_wp2_with fail
    (with_reducible refine HC.out.mono ?_)
    rintro e w1 ⟨rfl, hb1⟩
    refine ⟨rfl, keepsB hb1, .inl ⟨by rw [HE.out]; decide, by rw [HE.out]; rfl, ?_⟩⟩
    exact TAny.keeps ⟨_, _, _, _, _, _, _, _, HKB.out, nil_sl, nil_sl, nil_sl, nil_sl⟩ (keepsB (z := z + 1) hb1) (by omega)
  | true =>
    have hf := mayG_facts hm
    have HC := Lib.hid (ghold_ok z z 0 nilV nilV 0 0 false nilV nilV [] g v W hv hf.2.1 hm kb (World.ownsRow_nil _ _ _ _))
    have HE := Lib.hid (show ∀ e, errG g e = e from fun e => by unfold errG; rw [if_pos hm])
    have HF := Lib.hid hf
    have HZ := Lib.hid (show z < W.heap.size from kb.lt)
    obtain ⟨p, pc, rfl, -⟩ := hv
    clear kb hg hl hm
    go_enter Try.func46, Try.ntmps46
    go_wp2_with fail
    (with_reducible refine HC.out.mono ?_)
    rintro e w1 ⟨rfl, nb, k1, hk1, hnb⟩
    have HK1 := Lib.hid (And.intro k1 (And.intro hk1 hnb))
    clear k1 hnb d0 d1 d2 d3 HC hf
    have hc1 : Boxed w1 cb 3 (.int .i64 c) := (hk1.block cb hcb.lt hcz).trans hcb
    have e0 := hc1.cell
    clear hk1 hc1 hcb
    by_cases hx : reportE g c = 0
    · obtain ⟨i, hic, hi, hon⟩ : ∃ i : Nat, c = (i : Int) ∧ i < g.nd.length ∧ g.on = true := by
        unfold reportE at hx
        cases hh : hasB g.nd.length c with
        | false => rw [hh] at hx; simp at hx
        | true =>
          obtain ⟨i, h1, h2⟩ := (has_iff _ _).1 hh
          refine ⟨i, h1, h2, ?_⟩
          rw [hh, if_neg (by simp)] at hx
          cases ho : g.on with
          | true => rfl
          | false => rw [ho] at hx; simp at hx
      subst hic
      have HC2 := Lib.hid (greport_ok z z 0 nilV nilV g g.nd.length nb nilV [] i w1 HK1.out.1 hon hi HF.out.2.1 HF.out.2.2.1 (by have := HF.out; omega))
      have HX := Lib.hid hx
      clear hx hi hon
      go_wp2_with fail
      (with_reducible refine HC2.out.mono ?_)
      rintro e w2 ⟨rfl, k2, hk2⟩
      have HR := Lib.hid (show DoQ z W.heap.size (errG g (reportE g (i : Int))) (reportG g ((i : Int)).toNat) [] (.returned (.tuple #[])) W w2 from ⟨keeps_z HK1.out.2.1 HK1.out.2.2 hk2, .inr ⟨by rw [HE.out, HX.out], rfl, nb, nilV, by rw [Int.toNat_natCast, reportG_len]; exact k2, HK1.out.2.2⟩⟩)
      clear k2 hk2
      go_wp2
      go_end0
      exact HR.out
    · have HC2 := Lib.hid (greport_no z z 0 nilV nilV g g.nd.length nb nilV [] c w1 HK1.out.1 hx)
      have HX := Lib.hid hx
      clear hx
      go_wp2_with fail
      (with_reducible refine HC2.out.mono ?_)
      rintro e w2 ⟨rfl, hb2⟩
      exact ⟨rfl, HK1.out.2.1.trans (keepsB hb2), .inl ⟨by rw [HE.out]; exact HX.out, by rw [HE.out]; rfl, (HK1.out.1.below hb2).any nil_sl nil_sl⟩⟩

set_option maxHeartbeats 8000000 in
theorem pickc_c (z gb : Nat) (g : GrS) (v : Value) (cb qb : Nat) (c : Int) (q : Bool) (W : World) (kb : TBox W z 0 nilV nilV 0 0 false nilV nilV) (hg : GBox W gb g.done g.asked g.on v) (hv : BoolsAt W v g.nd) (hl : g.nd.length ≤ 9223372036854775807) (hcb : Boxed W cb 3 (.int .i64 c)) (hcz : ¬ cb = z) (hqb : Boxed W qb 4 (.bool q)) (hqz : ¬ qb = z) :
    Calls Try.prog 48 #[.pointer (some ⟨z, 0, none⟩), .pointer (some ⟨gb, 0, none⟩), .pointer (some ⟨cb, 0, none⟩), .pointer (some ⟨qb, 0, none⟩)] W fun e w' => DoQ z W.heap.size (errG g (pickE g c)) (pickG g c.toNat q) [] e W w' := by
  have HKB := Lib.hid kb
  have HV := Lib.hid hv
  obtain ⟨d0, d1, d2, d3⟩ := hg.cells
  cases hm : mayG g with
  | false =>
    have HC := Lib.hid (ghold_no z g v W hv hl hm)
    have HE := Lib.hid (show ∀ e, errG g e = 220 from fun e => by unfold errG; rw [hm]; rfl)
    obtain ⟨p, pc, rfl, -⟩ := hv
    clear kb hg hl hm
    go_enter Try.func48, Try.ntmps48
    go_wp2_with fail
    (with_reducible refine HC.out.mono ?_)
    rintro e w1 ⟨rfl, hb1⟩
    refine ⟨rfl, keepsB hb1, .inl ⟨by rw [HE.out]; decide, by rw [HE.out]; rfl, ?_⟩⟩
    exact TAny.keeps ⟨_, _, _, _, _, _, _, _, HKB.out, nil_sl, nil_sl, nil_sl, nil_sl⟩ (keepsB (z := z + 1) hb1) (by omega)
  | true =>
    have hf := mayG_facts hm
    have HC := Lib.hid (ghold_ok z z 0 nilV nilV 0 0 false nilV nilV [] g v W hv hf.2.1 hm kb (World.ownsRow_nil _ _ _ _))
    have HE := Lib.hid (show ∀ e, errG g e = e from fun e => by unfold errG; rw [if_pos hm])
    have HF := Lib.hid hf
    have HZ := Lib.hid (show z < W.heap.size from kb.lt)
    obtain ⟨p, pc, rfl, -⟩ := hv
    clear kb hg hl hm
    go_enter Try.func48, Try.ntmps48
    go_wp2_with fail
    (with_reducible refine HC.out.mono ?_)
    rintro e w1 ⟨rfl, nb, k1, hk1, hnb⟩
    have HK1 := Lib.hid (And.intro k1 (And.intro hk1 hnb))
    clear k1 hnb d0 d1 d2 d3 HC hf
    have hc1 : Boxed w1 cb 3 (.int .i64 c) := (hk1.block cb hcb.lt hcz).trans hcb
    have hq1 : Boxed w1 qb 4 (.bool q) := (hk1.block qb hqb.lt hqz).trans hqb
    have e0 := hc1.cell
    have e1 := hq1.cell
    clear hk1 hc1 hcb hq1 hqb
    cases hh : hasB g.nd.length c with
    | true =>
      obtain ⟨i, hic, hi⟩ := (has_iff _ _).1 hh
      subst hic
      have HC2 := Lib.hid (gpicked_ok z z 0 nilV nilV g g.nd.length nb nilV [] i q w1 HK1.out.1 hi HF.out.2.1 HF.out.2.2.1 (by have := HF.out; omega) HF.out.2.2.2.1)
      have HX := Lib.hid (show pickE g (i : Int) = 0 by unfold pickE; rw [hh, if_neg (by simp)])
      clear hh hi
      go_wp2_with fail
      (with_reducible refine HC2.out.mono ?_)
      rintro e w2 ⟨rfl, k2, hk2⟩
      have HR := Lib.hid (show DoQ z W.heap.size (errG g (pickE g (i : Int))) (pickG g ((i : Int)).toNat q) [] (.returned (.tuple #[])) W w2 from ⟨keeps_z HK1.out.2.1 HK1.out.2.2 hk2, .inr ⟨by rw [HE.out, HX.out], rfl, nb, nilV, by rw [Int.toNat_natCast, pickG_len]; exact k2, HK1.out.2.2⟩⟩)
      clear k2 hk2
      go_wp2
      go_end0
      exact HR.out
    | false =>
      have HC2 := Lib.hid (gpicked_no z z 0 nilV nilV g g.nd.length nb nilV [] c q w1 HK1.out.1 hh)
      have HX := Lib.hid (show pickE g c = 2 by unfold pickE; rw [hh, if_pos rfl])
      clear hh
      go_wp2_with fail
      (with_reducible refine HC2.out.mono ?_)
      rintro e w2 ⟨rfl, hb2⟩
      exact ⟨rfl, HK1.out.2.1.trans (keepsB hb2), .inl ⟨by rw [HE.out, HX.out]; decide, by rw [HE.out, HX.out]; rfl, (HK1.out.1.below hb2).any nil_sl nil_sl⟩⟩

end Go.Proofs.Ytdmcijfjnegcgaa
/-
  Package grace: Begin, Report, Pick.
  Conditions: the ranges of Go's types.
-/
namespace Go.Proofs.Ytdmcijfjnegcgaa
set_option maxRecDepth 100000
open Go.RowKit Go.Shelf
attribute [local go_sem] Oper.semAt_some

/-- What an answered grace is. -/
def AnsG (B : Nat) (E : Int) (g' : GrS) (d a : Int) (on : Bool) (p : Option Addr) (n c : Nat) (x : Int) (w : World) : Prop :=
  (E ≠ 0 ∧ x = E ∧ d = 0 ∧ a = 0 ∧ on = false ∧ p = none ∧ n = 0 ∧ c = 0) ∨ (E = 0 ∧ x = 0 ∧ d = g'.done ∧ a = g'.asked ∧ on = g'.on ∧ ∃ nb, p = some ⟨nb, 0, none⟩ ∧ n = g'.nd.length ∧ c = g'.nd.length ∧ BBlock w nb g'.nd ∧ B ≤ nb)
theorem AnsG.keeps {S : Nat → Prop} {B : Nat} {E : Int} {g' : GrS} {d a : Int} {on : Bool} {p : Option Addr} {n c : Nat} {x : Int} {w w' : World} (h : AnsG B E g' d a on p n c x w) (hk : Keeps S w w') (hS : ∀ k, S k → k < B) : AnsG B E g' d a on p n c x w' := by
  rcases h with h | ⟨h1, h2, h3, h4, h5, nb, h6, h7, h8, h9, h10⟩
  · exact .inl h
  · exact .inr ⟨h1, h2, h3, h4, h5, nb, h6, h7, h8, h9.keeps hk (fun e => by have := hS _ e; omega), h10⟩
theorem AnsG.mono {B B' : Nat} {E : Int} {g' : GrS} {d a : Int} {on : Bool} {p : Option Addr} {n c : Nat} {x : Int} {w : World} (h : AnsG B E g' d a on p n c x w) (hB : B' ≤ B) : AnsG B' E g' d a on p n c x w := by
  rcases h with h | ⟨h1, h2, h3, h4, h5, nb, h6, h7, h8, h9, h10⟩
  · exact .inl h
  · exact .inr ⟨h1, h2, h3, h4, h5, nb, h6, h7, h8, h9, Nat.le_trans hB h10⟩
def TriR (B z : Nat) (E : Int) (g' : GrS) (ls : List Int) (t : Value) (x : Int) (X : World) : Prop := ∃ d a on pn nn cn pl nl cl,
  t = .agg #[.int .i64 0, .slice none 0 0, .slice none 0 0, .int .i64 d, .int .i64 a, .bool on, .slice pn nn cn, .slice pl nl cl] ∧ AnsG B E g' d a on pn nn cn x X ∧ (E = 0 → X.ownsRow z 3 1 (.slice pl nl cl) ls.length (ls.map (Value.int .i64)))
theorem tri_of (K : Nat) (caps : Array Value) (W : World) (E : Int) (g' : GrS) (ls : List Int) (hcf : ∀ (args : Array Value) (w : World), (callFunc K args).run Try.prog w = .ok (.enter K args) w)
    (C : ∀ W0, TBox W0 W.heap.size 0 nilV nilV 0 0 false nilV nilV → Boxed W0 (W.heap.size + 1) 29 (.int .i64 0) → Below W.heap.size W W0 → W0.heap.size = W.heap.size + 2 → Calls Try.prog K (#[.pointer (some ⟨W.heap.size, 0, none⟩)] ++ caps) W0 fun e w' => DoQ W.heap.size W0.heap.size E g' ls e W0 w') :
    Calls Try.prog 40 #[.func (.func K) #[] caps] W fun e w' => (∃ t x, e = .returned (.tuple #[t, .int .i64 x]) ∧ TriR (W.heap.size + 2) W.heap.size E g' ls t x w') ∧ Below W.heap.size W w' := by
  obtain ⟨f1, f2, f3, f4⟩ := wT_facts W
  refine tried_K K caps W hcf (TriR (W.heap.size + 2) W.heap.size E g' ls) ((C (wT W) f1 f2 f3 f4).mono ?_)
  rintro e w' ⟨hk, h⟩
  have hB : Below W.heap.size W w' := f3.trans (hk.below f3.size (fun k e => by omega))
  have he : Boxed w' (W.heap.size + 1) 29 (.int .i64 0) := (hk.block _ f2.lt (by omega)).trans f2
  refine ⟨hB, ?_⟩
  rcases h with ⟨h1, rfl, now, u, v, d, a, on, nv, lv, h2, h3⟩ | ⟨h1, rfl, nb, lv, k, hnb⟩
  · exact ⟨now, u, v, d, a, on, nv, lv, h2, h3, he, .inl ⟨E, rfl, fun X _ => ⟨0, 0, false, none, 0, 0, none, 0, 0, rfl, .inl ⟨h1, rfl, rfl, rfl, rfl, rfl, rfl, rfl⟩, fun h => absurd h h1⟩⟩⟩
  · refine ⟨_, _, _, _, _, _, _, _, k.box, ⟨nil_sl, nil_sl, ⟨_, _, _, rfl⟩, owns_sl k.nums⟩, he, .inr ⟨rfl, fun X hX => ?_⟩⟩
    obtain ⟨pl, cl, rfl⟩ := owns_slice k.nums
    refine ⟨_, _, _, _, _, _, _, _, _, rfl, .inr ⟨h1, rfl, rfl, rfl, rfl, nb, rfl, rfl, rfl, k.needs.keeps hX ?_, by omega⟩, fun _ => hX.row k.nums (fun q hq e => ?_)⟩
    · rintro (e | e) <;> omega
    · rcases e with e | e
      · exact k.box.ne_row k.nums q hq e
      · obtain ⟨c, f, h1⟩ := Lib.ownsRow_kind k.nums q hq
        have h2 : w'.heap[W.heap.size + 1]? = _ := he
        rw [e, h2] at h1; injection h1 with h1; injection h1 with _ h1 _; revert h1; decide

set_option maxHeartbeats 8000000 in
theorem gBegin_c (g : GrS) (v : Value)  (W : World) (hv : BoolsAt W v g.nd) (hl : g.nd.length ≤ 9223372036854775807) :
    Calls Try.prog 12 #[.agg #[.int .i64 g.done, .int .i64 g.asked, .bool g.on, v]] W fun e w' => (∃ d a on p n cc x, e = .returned (.tuple #[.agg #[.int .i64 d, .int .i64 a, .bool on, .slice p n cc], .int .i64 x]) ∧ AnsG W.heap.size (errG g (beginE g)) (beginG g) d a on p n cc x w') ∧ Below W.heap.size W w' := by
  have hmf : ∀ (fn : Fn) (first cap : Array Value) (w : World), (Instr.makeFunc fn first cap).run Try.prog w = .ok (.func fn first cap) w := fun _ _ _ _ => rfl
  obtain ⟨w0, hw0⟩ : ∃ X : World, X = ((W.alloc (.cells #[.int .i64 g.done, .int .i64 g.asked, .bool g.on, v] 24)).alloc (.cells #[.int .i64 0, .int .i64 0, .bool false, .slice none 0 0] 24)) := ⟨_, rfl⟩
  have HF := Lib.hid (show GBox w0 W.heap.size g.done g.asked g.on v ∧ GBox w0 (W.heap.size + 1) 0 0 false (.slice none 0 0) ∧ Below W.heap.size W w0 ∧ w0.heap.size = W.heap.size + 2 from ⟨by rw [hw0]; exact (GBox.new W _ _ _ _).below (below1 _ _), by
      rw [hw0]
      have := GBox.new (W.alloc (.cells #[.int .i64 g.done, .int .i64 g.asked, .bool g.on, v] 24)) 0 0 false (.slice none 0 0)
      simpa using this, by rw [hw0]; exact below2 _ _ _ , by rw [hw0]; simp⟩)
  have HV := Lib.hid (bools_below hv HF.out.2.2.1)
  have HT := Lib.hid (tri_of 44 #[.pointer (some ⟨W.heap.size, 0, none⟩)] w0 (errG g (beginE g)) (beginG g) [] (fun _ _ => rfl) (fun W0 kb _ hb hz => by
    have := begin1_c w0.heap.size W.heap.size g v W0 kb (HF.out.1.below hb) (bools_below HV.out hb) hl
    exact this))
  obtain ⟨p0, c0, rfl, -⟩ := hv
  clear hl
  go_enter Try.func12, Try.ntmps12
  go_wp2_with fail
  rw [← hw0]
  clear hw0
  (with_reducible refine HT.out.mono ?_)
  rintro e w1 ⟨⟨t, x, rfl, d, a, on, pn, nn, cn, pl, nl, cl, rfl, hA, -⟩, hb1⟩
  obtain ⟨w2, hw2⟩ : ∃ X : World, X = w1.alloc (.cells #[.int .i64 0, .slice none 0 0, .slice none 0 0, .int .i64 d, .int .i64 a, .bool on, .slice pn nn cn, .slice pl nl cl] 71) := ⟨_, rfl⟩
  have hb2 : Below w1.heap.size w1 w2 := by rw [hw2]; exact below1 _ _
  have hz1 : W.heap.size + 1 < w1.heap.size := by have := HF.out.2.2.2; have := hb1.size; omega
  have HX := Lib.hid (show GBox w2 (W.heap.size + 1) 0 0 false (.slice none 0 0) ∧ AnsG (w0.heap.size + 2) (errG g (beginE g)) (beginG g) d a on pn nn cn x w2 ∧ Below W.heap.size W w2 from ⟨(HF.out.2.1.below hb1).below hb2, hA.keeps (S := fun _ => False) (Keeps.of_below hb2) (fun _ h => h.elim), below_then (below_then HF.out.2.2.1 HF.out.2.2.1.size hb1) (below_then HF.out.2.2.1 HF.out.2.2.1.size hb1).size hb2⟩)
  obtain ⟨d0, d1, d2, d3⟩ := HX.out.1.cells
  have m0 := HX.out.1.marks 0
  have m1 := HX.out.1.marks 1
  have m2 := HX.out.1.marks 2
  have m3 := HX.out.1.marks 3
  have HP := Lib.hid (HX.out.1.put d a on (.slice pn nn cn))
  have HK := Lib.hid (GBox.putK w2 (W.heap.size + 1) d a on (.slice pn nn cn))
  have HZ := Lib.hid HF.out.2.2.2
  rw [hw2] at d0 d1 d2 d3 m0 m1 m2 m3 HP
  have HW2 := Lib.hid hw2
  clear hw2 hb2 hb1 hA HT HF HV hz1
  go_wp2
  refine bodyPost_ret (HP.out.result2 rfl _ rfl rfl) rfl ⟨⟨_, _, _, _, _, _, _, rfl, ?_⟩, ?_⟩
  · rw [← HW2.out]; exact (AnsG.keeps (B := w0.heap.size + 2) HX.out.2.1 HK.out (fun k e => by have := HZ.out; omega)).mono (by have := HZ.out; omega)
  · rw [← HW2.out]; exact HX.out.2.2.trans (HK.out.below HX.out.2.2.size (fun k e => by omega))

set_option maxHeartbeats 8000000 in
theorem gReport_c (g : GrS) (v : Value) (c : Int) (W : World) (hv : BoolsAt W v g.nd) (hl : g.nd.length ≤ 9223372036854775807) :
    Calls Try.prog 18 #[.agg #[.int .i64 g.done, .int .i64 g.asked, .bool g.on, v], .int .i64 c] W fun e w' => (∃ d a on p n cc x, e = .returned (.tuple #[.agg #[.int .i64 d, .int .i64 a, .bool on, .slice p n cc], .int .i64 x]) ∧ AnsG W.heap.size (errG g (reportE g c)) (reportG g c.toNat) d a on p n cc x w') ∧ Below W.heap.size W w' := by
  have hmf : ∀ (fn : Fn) (first cap : Array Value) (w : World), (Instr.makeFunc fn first cap).run Try.prog w = .ok (.func fn first cap) w := fun _ _ _ _ => rfl
  obtain ⟨w0, hw0⟩ : ∃ X : World, X = (((W.alloc (.cells #[.int .i64 g.done, .int .i64 g.asked, .bool g.on, v] 24)).alloc (.cells #[.int .i64 c] 3)).alloc (.cells #[.int .i64 0, .int .i64 0, .bool false, .slice none 0 0] 24)) := ⟨_, rfl⟩
  have HF := Lib.hid (show GBox w0 W.heap.size g.done g.asked g.on v ∧ Boxed w0 (W.heap.size + 1) 3 (.int .i64 c) ∧ GBox w0 (W.heap.size + 2) 0 0 false (.slice none 0 0) ∧ Below W.heap.size W w0 ∧ w0.heap.size = W.heap.size + 3 from ⟨by rw [hw0]; exact ((GBox.new W _ _ _ _).below (below1 _ _)).below (below1 _ _), by
      rw [hw0]
      have := ((Boxed.new (W.alloc (.cells #[.int .i64 g.done, .int .i64 g.asked, .bool g.on, v] 24)) 3 (.int .i64 c)).alloc (.cells #[.int .i64 0, .int .i64 0, .bool false, .slice none 0 0] 24))
      simpa using this, by
      rw [hw0]
      have := GBox.new ((W.alloc (.cells #[.int .i64 g.done, .int .i64 g.asked, .bool g.on, v] 24)).alloc (.cells #[.int .i64 c] 3)) 0 0 false (.slice none 0 0)
      simpa using this, by rw [hw0]; exact below3 _ _ _ _ , by rw [hw0]; simp⟩)
  have HV := Lib.hid (bools_below hv HF.out.2.2.2.1)
  have HT := Lib.hid (tri_of 46 #[.pointer (some ⟨W.heap.size, 0, none⟩), .pointer (some ⟨W.heap.size + 1, 0, none⟩)] w0 (errG g (reportE g c)) (reportG g c.toNat) [] (fun _ _ => rfl) (fun W0 kb _ hb hz => by
    have := reportc_c w0.heap.size W.heap.size g v (W.heap.size + 1) c W0 kb (HF.out.1.below hb) (bools_below HV.out hb) hl (boxed_under HF.out.2.1 hb) (by have := HF.out.2.2.2.2; omega)
    exact this))
  obtain ⟨p0, c0, rfl, -⟩ := hv
  clear hl
  go_enter Try.func18, Try.ntmps18
  go_wp2_with fail
  rw [← hw0]
  clear hw0
  (with_reducible refine HT.out.mono ?_)
  rintro e w1 ⟨⟨t, x, rfl, d, a, on, pn, nn, cn, pl, nl, cl, rfl, hA, -⟩, hb1⟩
  obtain ⟨w2, hw2⟩ : ∃ X : World, X = w1.alloc (.cells #[.int .i64 0, .slice none 0 0, .slice none 0 0, .int .i64 d, .int .i64 a, .bool on, .slice pn nn cn, .slice pl nl cl] 71) := ⟨_, rfl⟩
  have hb2 : Below w1.heap.size w1 w2 := by rw [hw2]; exact below1 _ _
  have hz1 : W.heap.size + 2 < w1.heap.size := by have := HF.out.2.2.2.2; have := hb1.size; omega
  have HX := Lib.hid (show GBox w2 (W.heap.size + 2) 0 0 false (.slice none 0 0) ∧ AnsG (w0.heap.size + 2) (errG g (reportE g c)) (reportG g c.toNat) d a on pn nn cn x w2 ∧ Below W.heap.size W w2 from ⟨(HF.out.2.2.1.below hb1).below hb2, hA.keeps (S := fun _ => False) (Keeps.of_below hb2) (fun _ h => h.elim), below_then (below_then HF.out.2.2.2.1 HF.out.2.2.2.1.size hb1) (below_then HF.out.2.2.2.1 HF.out.2.2.2.1.size hb1).size hb2⟩)
  obtain ⟨d0, d1, d2, d3⟩ := HX.out.1.cells
  have m0 := HX.out.1.marks 0
  have m1 := HX.out.1.marks 1
  have m2 := HX.out.1.marks 2
  have m3 := HX.out.1.marks 3
  have HP := Lib.hid (HX.out.1.put d a on (.slice pn nn cn))
  have HK := Lib.hid (GBox.putK w2 (W.heap.size + 2) d a on (.slice pn nn cn))
  have HZ := Lib.hid HF.out.2.2.2.2
  rw [hw2] at d0 d1 d2 d3 m0 m1 m2 m3 HP
  have HW2 := Lib.hid hw2
  clear hw2 hb2 hb1 hA HT HF HV hz1
  go_wp2
  refine bodyPost_ret (HP.out.result2 rfl _ rfl rfl) rfl ⟨⟨_, _, _, _, _, _, _, rfl, ?_⟩, ?_⟩
  · rw [← HW2.out]; exact (AnsG.keeps (B := w0.heap.size + 2) HX.out.2.1 HK.out (fun k e => by have := HZ.out; omega)).mono (by have := HZ.out; omega)
  · rw [← HW2.out]; exact HX.out.2.2.trans (HK.out.below HX.out.2.2.size (fun k e => by omega))

set_option maxHeartbeats 8000000 in
theorem gPick_c (g : GrS) (v : Value) (c : Int) (q : Bool) (W : World) (hv : BoolsAt W v g.nd) (hl : g.nd.length ≤ 9223372036854775807) :
    Calls Try.prog 19 #[.agg #[.int .i64 g.done, .int .i64 g.asked, .bool g.on, v], .int .i64 c, .bool q] W fun e w' => (∃ d a on p n cc x, e = .returned (.tuple #[.agg #[.int .i64 d, .int .i64 a, .bool on, .slice p n cc], .int .i64 x]) ∧ AnsG W.heap.size (errG g (pickE g c)) (pickG g c.toNat q) d a on p n cc x w') ∧ Below W.heap.size W w' := by
  have hmf : ∀ (fn : Fn) (first cap : Array Value) (w : World), (Instr.makeFunc fn first cap).run Try.prog w = .ok (.func fn first cap) w := fun _ _ _ _ => rfl
  obtain ⟨w0, hw0⟩ : ∃ X : World, X = ((((W.alloc (.cells #[.int .i64 g.done, .int .i64 g.asked, .bool g.on, v] 24)).alloc (.cells #[.int .i64 c] 3)).alloc (.cells #[.bool q] 4)).alloc (.cells #[.int .i64 0, .int .i64 0, .bool false, .slice none 0 0] 24)) := ⟨_, rfl⟩
  have HF := Lib.hid (show GBox w0 W.heap.size g.done g.asked g.on v ∧ Boxed w0 (W.heap.size + 1) 3 (.int .i64 c) ∧ Boxed w0 (W.heap.size + 2) 4 (.bool q) ∧ GBox w0 (W.heap.size + 3) 0 0 false (.slice none 0 0) ∧ Below W.heap.size W w0 ∧ w0.heap.size = W.heap.size + 4 from ⟨by rw [hw0]; exact (((GBox.new W _ _ _ _).below (below1 _ _)).below (below1 _ _)).below (below1 _ _), by
      rw [hw0]
      have := (((Boxed.new (W.alloc (.cells #[.int .i64 g.done, .int .i64 g.asked, .bool g.on, v] 24)) 3 (.int .i64 c)).alloc (.cells #[.bool q] 4)).alloc (.cells #[.int .i64 0, .int .i64 0, .bool false, .slice none 0 0] 24))
      simpa using this, by
      rw [hw0]
      have := ((Boxed.new ((W.alloc (.cells #[.int .i64 g.done, .int .i64 g.asked, .bool g.on, v] 24)).alloc (.cells #[.int .i64 c] 3)) 4 (.bool q)).alloc (.cells #[.int .i64 0, .int .i64 0, .bool false, .slice none 0 0] 24))
      simpa using this, by
      rw [hw0]
      have := GBox.new (((W.alloc (.cells #[.int .i64 g.done, .int .i64 g.asked, .bool g.on, v] 24)).alloc (.cells #[.int .i64 c] 3)).alloc (.cells #[.bool q] 4)) 0 0 false (.slice none 0 0)
      simpa using this, by rw [hw0]; exact below4 _ _ _ _ _ , by rw [hw0]; simp⟩)
  have HV := Lib.hid (bools_below hv HF.out.2.2.2.2.1)
  have HT := Lib.hid (tri_of 48 #[.pointer (some ⟨W.heap.size, 0, none⟩), .pointer (some ⟨W.heap.size + 1, 0, none⟩), .pointer (some ⟨W.heap.size + 2, 0, none⟩)] w0 (errG g (pickE g c)) (pickG g c.toNat q) [] (fun _ _ => rfl) (fun W0 kb _ hb hz => by
    have := pickc_c w0.heap.size W.heap.size g v (W.heap.size + 1) (W.heap.size + 2) c q W0 kb (HF.out.1.below hb) (bools_below HV.out hb) hl (boxed_under HF.out.2.1 hb) (by have := HF.out.2.2.2.2.2; omega) (boxed_under HF.out.2.2.1 hb) (by have := HF.out.2.2.2.2.2; omega)
    exact this))
  obtain ⟨p0, c0, rfl, -⟩ := hv
  clear hl
  go_enter Try.func19, Try.ntmps19
  go_wp2_with fail
  rw [← hw0]
  clear hw0
  (with_reducible refine HT.out.mono ?_)
  rintro e w1 ⟨⟨t, x, rfl, d, a, on, pn, nn, cn, pl, nl, cl, rfl, hA, -⟩, hb1⟩
  obtain ⟨w2, hw2⟩ : ∃ X : World, X = w1.alloc (.cells #[.int .i64 0, .slice none 0 0, .slice none 0 0, .int .i64 d, .int .i64 a, .bool on, .slice pn nn cn, .slice pl nl cl] 71) := ⟨_, rfl⟩
  have hb2 : Below w1.heap.size w1 w2 := by rw [hw2]; exact below1 _ _
  have hz1 : W.heap.size + 3 < w1.heap.size := by have := HF.out.2.2.2.2.2; have := hb1.size; omega
  have HX := Lib.hid (show GBox w2 (W.heap.size + 3) 0 0 false (.slice none 0 0) ∧ AnsG (w0.heap.size + 2) (errG g (pickE g c)) (pickG g c.toNat q) d a on pn nn cn x w2 ∧ Below W.heap.size W w2 from ⟨(HF.out.2.2.2.1.below hb1).below hb2, hA.keeps (S := fun _ => False) (Keeps.of_below hb2) (fun _ h => h.elim), below_then (below_then HF.out.2.2.2.2.1 HF.out.2.2.2.2.1.size hb1) (below_then HF.out.2.2.2.2.1 HF.out.2.2.2.2.1.size hb1).size hb2⟩)
  obtain ⟨d0, d1, d2, d3⟩ := HX.out.1.cells
  have m0 := HX.out.1.marks 0
  have m1 := HX.out.1.marks 1
  have m2 := HX.out.1.marks 2
  have m3 := HX.out.1.marks 3
  have HP := Lib.hid (HX.out.1.put d a on (.slice pn nn cn))
  have HK := Lib.hid (GBox.putK w2 (W.heap.size + 3) d a on (.slice pn nn cn))
  have HZ := Lib.hid HF.out.2.2.2.2.2
  rw [hw2] at d0 d1 d2 d3 m0 m1 m2 m3 HP
  have HW2 := Lib.hid hw2
  clear hw2 hb2 hb1 hA HT HF HV hz1
  go_wp2
  refine bodyPost_ret (HP.out.result2 rfl _ rfl rfl) rfl ⟨⟨_, _, _, _, _, _, _, rfl, ?_⟩, ?_⟩
  · rw [← HW2.out]; exact (AnsG.keeps (B := w0.heap.size + 2) HX.out.2.1 HK.out (fun k e => by have := HZ.out; omega)).mono (by have := HZ.out; omega)
  · rw [← HW2.out]; exact HX.out.2.2.trans (HK.out.below HX.out.2.2.size (fun k e => by omega))

end Go.Proofs.Ytdmcijfjnegcgaa
/-
  Package grace: Ask.
  Conditions: the ranges of Go's types.
-/
namespace Go.Proofs.Ytdmcijfjnegcgaa
set_option maxRecDepth 100000
open Go.RowKit Go.Shelf
attribute [local go_sem] Oper.semAt_some

theorem owns_first {B : Nat} {W : World} {p : Option Addr} {c : Nat} {x : Int} (h : W.ownsRow B 3 1 (.slice p 1 c) 1 [.int .i64 x]) : ∃ b, p = some ⟨b, 0, none⟩ ∧ W.cell? ⟨b, 0, none⟩ = some (.int .i64 x) := by
  rcases id h.2 with ⟨_, h0⟩ | ⟨g, cap, cur, e, _⟩
  · cases h0
  · injection e with e1 e2 e3
    subst e1
    refine ⟨g, rfl, ?_⟩
    have e' : Value.slice (some ⟨g, 0, none⟩) 1 c = .slice (some ⟨g, 0, none⟩) 1 c := rfl
    have := h.cellAt 0 (by omega)
    simpa using this

/-- What Ask answers. -/
def AskQ (B : Nat) (g : GrS) (e : Ending) (w' : World) : Prop := ∃ d a on p n cc k x, e = .returned (.tuple #[.agg #[.int .i64 d, .int .i64 a, .bool on, .slice p n cc], .int .i64 k, .int .i64 x]) ∧ AnsG B (errG g (askE g)) (askG g) d a on p n cc x w' ∧ k = (if errG g (askE g) = 0 then nextG g else 0)

set_option maxHeartbeats 8000000 in
theorem gAsk_c (g : GrS) (v : Value) (W : World) (hv : BoolsAt W v g.nd) (hl : g.nd.length ≤ 9223372036854775807) :
    Calls Try.prog 11 #[.agg #[.int .i64 g.done, .int .i64 g.asked, .bool g.on, v]] W fun e w' => AskQ W.heap.size g e w' ∧ Below W.heap.size W w' := by
  have hmf : ∀ (fn : Fn) (first cap : Array Value) (w : World), (Instr.makeFunc fn first cap).run Try.prog w = .ok (.func fn first cap) w := fun _ _ _ _ => rfl
  obtain ⟨w0, hw0⟩ : ∃ X : World, X = (W.alloc (.cells #[.int .i64 g.done, .int .i64 g.asked, .bool g.on, v] 24)).alloc (.cells #[.int .i64 0, .int .i64 0, .bool false, .slice none 0 0] 24) := ⟨_, rfl⟩
  have HF := Lib.hid (show GBox w0 W.heap.size g.done g.asked g.on v ∧ GBox w0 (W.heap.size + 1) 0 0 false (.slice none 0 0) ∧ Below W.heap.size W w0 ∧ w0.heap.size = W.heap.size + 2 from ⟨by rw [hw0]; exact (GBox.new W _ _ _ _).below (below1 _ _), by
      rw [hw0]
      have := GBox.new (W.alloc (.cells #[.int .i64 g.done, .int .i64 g.asked, .bool g.on, v] 24)) 0 0 false (.slice none 0 0)
      simpa using this, by rw [hw0]; exact below2 _ _ _, by rw [hw0]; simp⟩)
  have HV := Lib.hid (bools_below hv HF.out.2.2.1)
  have HT := Lib.hid (tri_of 41 #[.pointer (some ⟨W.heap.size, 0, none⟩)] w0 (errG g (askE g)) (askG g) [nextG g] (fun _ _ => rfl) (fun W0 kb _ hb hz => by
    have := ask1_c w0.heap.size W.heap.size g v W0 kb (HF.out.1.below hb) (bools_below HV.out hb) hl
    exact this))
  obtain ⟨p0, c0, rfl, -⟩ := hv
  clear hl
  go_enter Try.func11, Try.ntmps11
  go_wp2_with fail
  rw [← hw0]
  clear hw0
  (with_reducible refine HT.out.mono ?_)
  rintro e w1 ⟨⟨t, x, rfl, d, a, on, pn, nn, cn, pl, nl, cl, rfl, hA, hO⟩, hb1⟩
  obtain ⟨w2, hw2⟩ : ∃ X : World, X = w1.alloc (.cells #[.int .i64 0, .slice none 0 0, .slice none 0 0, .int .i64 d, .int .i64 a, .bool on, .slice pn nn cn, .slice pl nl cl] 71) := ⟨_, rfl⟩
  have hb2 : Below w1.heap.size w1 w2 := by rw [hw2]; exact below1 _ _
  have hz1 : W.heap.size + 1 < w1.heap.size := by have := HF.out.2.2.2; have := hb1.size; omega
  have HX := Lib.hid (show GBox w2 (W.heap.size + 1) 0 0 false (.slice none 0 0) ∧ AnsG (w0.heap.size + 2) (errG g (askE g)) (askG g) d a on pn nn cn x w2 ∧ Below W.heap.size W w2 from ⟨(HF.out.2.1.below hb1).below hb2, hA.keeps (S := fun _ => False) (Keeps.of_below hb2) (fun _ h => h.elim), below_then (below_then HF.out.2.2.1 HF.out.2.2.1.size hb1) (below_then HF.out.2.2.1 HF.out.2.2.1.size hb1).size hb2⟩)
  have HZ := Lib.hid HF.out.2.2.2
  obtain ⟨d0, d1, d2, d3⟩ := HX.out.1.cells
  have m0 := HX.out.1.marks 0
  have m1 := HX.out.1.marks 1
  have m2 := HX.out.1.marks 2
  have m3 := HX.out.1.marks 3
  by_cases hE : errG g (askE g) = 0
  · have hx : x = 0 := by rcases HX.out.2.1 with h | h; exact absurd hE h.1; exact h.2.1
    subst hx
    have hrow := owns_below (hO hE) hb2
    have hnl : nl = 1 := by have h1 := hrow.2; rcases h1 with ⟨_, h0⟩ | ⟨_, _, _, e, _⟩; cases h0; injection e
    subst hnl
    obtain ⟨q, rfl, hq⟩ := owns_first hrow
    have hqz : ¬ q = W.heap.size + 1 := by have := (hrow.lt q rfl).1; have := HZ.out; omega
    have hq1 := (setK w2 (W.heap.size + 1) 0 (.int .i64 d)).cell hq hqz
    have HE := Lib.hid hE
    have HP := Lib.hid (show GBox ((((w2.setCell ⟨W.heap.size + 1, 0, none⟩ (.int .i64 d)).setCell ⟨W.heap.size + 1, 1, none⟩ (.int .i64 a)).setCell ⟨W.heap.size + 1, 2, none⟩ (.bool on)).setCell ⟨W.heap.size + 1, 3, none⟩ (.slice pn nn cn)).drew (W.heap.size + 1) d a on (.slice pn nn cn) from HX.out.1.put d a on (.slice pn nn cn))
    have HK := Lib.hid (GBox.putK w2 (W.heap.size + 1) d a on (.slice pn nn cn))
    rw [hw2] at d0 d1 d2 d3 m0 m1 m2 m3 hq hq1 HP
    have HW2 := Lib.hid hw2
    clear hw2 hb2 hb1 hA HT HF HV hz1 hO hrow hE
    go_wp2
    go_region
    go_wp2
    refine bodyPost_ret (HP.out.result3 rfl _ rfl rfl rfl) rfl ⟨⟨_, _, _, _, _, _, _, _, rfl, ?_, ?_⟩, ?_⟩
    · rw [← HW2.out]; exact (AnsG.keeps (B := w0.heap.size + 2) HX.out.2.1 (HK.out.drewN 1) (fun k e => by have := HZ.out; omega)).mono (by have := HZ.out; omega)
    · rw [if_pos HE.out]
    · rw [← HW2.out]; exact below_drewN (HX.out.2.2.trans (HK.out.below HX.out.2.2.size (fun k e => by omega))) 1
  · have hx : x = errG g (askE g) ∧ d = 0 ∧ a = 0 ∧ on = false ∧ pn = none ∧ nn = 0 ∧ cn = 0 := by rcases HX.out.2.1 with h | h; exact h.2; exact absurd h.1 hE
    obtain ⟨hx1, rfl, rfl, rfl, rfl, rfl, rfl⟩ := hx
    have hne : (x != 0) = true := by rw [bne_iff_ne, hx1]; exact hE
    have HE := Lib.hid hE
    have HP := Lib.hid (HX.out.1.put 0 0 false (.slice none 0 0))
    have HK := Lib.hid (GBox.putK w2 (W.heap.size + 1) 0 0 false (.slice none 0 0))
    rw [hw2] at d0 d1 d2 d3 m0 m1 m2 m3 HP
    have HW2 := Lib.hid hw2
    clear hw2 hb2 hb1 hA HT HF HV hz1 hO hE hx1
    go_wp2
    refine bodyPost_ret (HP.out.result3 rfl _ rfl rfl rfl) rfl ⟨⟨_, _, _, _, _, _, _, _, rfl, ?_, ?_⟩, ?_⟩
    · rw [← HW2.out]; exact (AnsG.keeps (B := w0.heap.size + 2) HX.out.2.1 HK.out (fun k e => by have := HZ.out; omega)).mono (by have := HZ.out; omega)
    · rw [if_neg HE.out]
    · rw [← HW2.out]; exact HX.out.2.2.trans (HK.out.below HX.out.2.2.size (fun k e => by omega))

end Go.Proofs.Ytdmcijfjnegcgaa
namespace Go.Proofs.Ytdmcijfjnegcgaa
set_option maxRecDepth 100000
open Go.RowKit Go.Shelf
attribute [local go_sem] Oper.semAt_some

def passB (now : Int) (o : Int) (step : Int) : Bool := decide (0 ≤ step) && (decide (step ≤ now) && (decide (o = 0) || decide (step < o)))
set_option maxHeartbeats 8000000 in
theorem passed_c (s : RdS) (u v : Value) (c : Int) (W : World) (hn : NumsAt W .i64 u s.ns) (ho : NumsAt W .i64 v s.os) (h1 : s.ns.length ≤ 9223372036854775807) (h2 : s.os.length ≤ 9223372036854775807) (hr : ∀ x ∈ s.os, I64 x) :
    Calls Try.prog 31 #[.agg #[.int .i64 s.now, u, v], .int .i64 c] W fun e w' => e = .returned (.bool (mayB s.now s.ns s.os && passB s.now (oldM (secs (s.ns.zip s.os))) c)) ∧ Below W.heap.size W w' := by
  obtain ⟨w0, hw0⟩ : ∃ X : World, X = W.alloc (.cells #[.int .i64 s.now, u, v] 45) := ⟨_, rfl⟩
  have hb0 : Below W.heap.size W w0 := by rw [hw0]; exact below1 _ _
  have HB := Lib.hid hb0
  have HC := Lib.hid (may_c s.now u v s.ns s.os w0 (nums_below hn hb0) (nums_below ho hb0) h1 h2 hr)
  have hbx : RBox w0 W.heap.size s.now u v := by rw [hw0]; exact RBox.new _ _ _ _
  have HBX := Lib.hid hbx
  obtain ⟨d0, d1, d2⟩ := hbx.cells
  have HN := Lib.hid (And.intro (nums_below hn hb0) (nums_below ho hb0))
  obtain ⟨p, cp, rfl, -⟩ := hn
  obtain ⟨p2, cp2, rfl, -⟩ := ho
  clear hb0 hr h1 h2 hbx
  cases hm : mayB s.now s.ns s.os with
  | false =>
    rw [hm] at HC
    rw [Bool.false_and]
    clear hm
    go_enter Try.func31, Try.ntmps31
    go_wp2_with fail
    rw [← hw0]
    clear hw0
    (with_reducible refine HC.out.mono ?_)
    rintro e w1 ⟨rfl, hb1⟩
    have HB1 := Lib.hid (below_then HB.out HB.out.size hb1)
    clear hb1
    go_wp2
    go_ret
    exact ⟨rfl, HB1.out⟩
  | true =>
    have g := (good_iff s).1 hm
    have HG := Lib.hid g
    rw [hm] at HC
    rw [Bool.true_and]
    clear hm g
    unfold passB
    by_cases c1 : 0 ≤ c
    · rw [decide_eq_true c1, Bool.true_and]
      by_cases c2 : c ≤ s.now
      · rw [decide_eq_true c2, Bool.true_and]
        have q1 : decide (c < 0) = false := by simp; omega
        have q2 : decide (s.now < c) = false := by simp; omega
        obtain ⟨o, hoo⟩ : ∃ o, o = oldM (secs (s.ns.zip s.os)) := ⟨_, rfl⟩
        rw [← hoo]
        by_cases c3 : o = 0
        · have q3 : (o == 0) = true := by rw [c3]; rfl
          rw [decide_eq_true c3, Bool.true_or]
          have HO := Lib.hid hoo
          clear hoo c3
          go_enter Try.func31, Try.ntmps31
          go_wp2_with fail
          rw [← hw0]
          clear hw0
          (with_reducible refine HC.out.mono ?_)
          rintro e w1 ⟨rfl, hb1⟩
          have HB1 := Lib.hid (below_then HB.out HB.out.size hb1)
          obtain ⟨d0, d1, d2⟩ := (HBX.out.below hb1).cells
          have HOL := Lib.hid (oldest_c s.now _ _ s.ns s.os w1 HG.out.lo HG.out.l8 (nums_below HN.out.1 hb1) (nums_below HN.out.2 hb1))
          rw [← HO.out] at HOL
          clear hb1
          go_wp2_with fail
          (with_reducible refine HOL.out.mono ?_)
          rintro e w2 ⟨rfl, hb2⟩
          have HB2 := Lib.hid (below_then HB1.out HB1.out.size hb2)
          clear hb2
          go_wp2
          go_ret
          exact ⟨rfl, HB2.out⟩
        · have q3 : (o == 0) = false := by rw [beq_eq_false_iff_ne]; exact c3
          rw [decide_eq_false c3, Bool.false_or]
          have HO := Lib.hid hoo
          clear hoo c3
          go_enter Try.func31, Try.ntmps31
          go_wp2_with fail
          rw [← hw0]
          clear hw0
          (with_reducible refine HC.out.mono ?_)
          rintro e w1 ⟨rfl, hb1⟩
          have HB1 := Lib.hid (below_then HB.out HB.out.size hb1)
          obtain ⟨d0, d1, d2⟩ := (HBX.out.below hb1).cells
          have HOL := Lib.hid (oldest_c s.now _ _ s.ns s.os w1 HG.out.lo HG.out.l8 (nums_below HN.out.1 hb1) (nums_below HN.out.2 hb1))
          rw [← HO.out] at HOL
          clear hb1
          go_wp2_with fail
          (with_reducible refine HOL.out.mono ?_)
          rintro e w2 ⟨rfl, hb2⟩
          have HB2 := Lib.hid (below_then HB1.out HB1.out.size hb2)
          clear hb2
          go_wp2
          go_ret
          exact ⟨rfl, HB2.out⟩
      · rw [decide_eq_false c2, Bool.false_and]
        have q1 : decide (c < 0) = false := by simp; omega
        have q2 : decide (s.now < c) = true := by simp; omega
        clear HG HN
        go_enter Try.func31, Try.ntmps31
        go_wp2_with fail
        rw [← hw0]
        clear hw0
        (with_reducible refine HC.out.mono ?_)
        rintro e w1 ⟨rfl, hb1⟩
        have HB1 := Lib.hid (below_then HB.out HB.out.size hb1)
        obtain ⟨d0, d1, d2⟩ := (HBX.out.below hb1).cells
        clear hb1
        go_wp2
        go_ret
        exact ⟨rfl, HB1.out⟩
    · rw [decide_eq_false c1, Bool.false_and]
      have q1 : decide (c < 0) = true := by simp; omega
      clear HG HN
      go_enter Try.func31, Try.ntmps31
      go_wp2_with fail
      rw [← hw0]
      clear hw0
      (with_reducible refine HC.out.mono ?_)
      rintro e w1 ⟨rfl, hb1⟩
      have HB1 := Lib.hid (below_then HB.out HB.out.size hb1)
      clear hb1
      go_wp2
      go_ret
      exact ⟨rfl, HB1.out⟩

end Go.Proofs.Ytdmcijfjnegcgaa
