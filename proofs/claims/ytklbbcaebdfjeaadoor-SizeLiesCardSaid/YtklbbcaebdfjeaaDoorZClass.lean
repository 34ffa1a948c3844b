/-
  Package size: Class: the least class whose words are enough.
  Conditions: the package's table of sizes is as it was laid; the ranges of Go's types.
-/
import Derived.Test.YtklbbcaebdfjeaaDoorZPlace
import Derived.Test.YtklbbcaebdfjeaaDoorRange
import Derived.Shelf.RegionOpen
import Derived.WalkKit
import Derived.OwnWalkIn
import Derived.TacticsInMore
import Derived.LoopNIn
import Derived.LoopIn
import Derived.Deep.RegionHeld
import Derived.Lib.Hide
import Derived.RangeFuncBox
namespace Go.Proofs.YtklbbcaebdfjeaaDoor
open Go.RowKit Go.Shelf
attribute [local go_sem] Oper.semAt_some

theorem boxed_below {w w' : World} {z : Nat} {T : TypeId} {v : Value} (h : Boxed w z T v) (hb : Below w.heap.size w w') : Boxed w' z T v := (hb.block z h.lt).trans h
theorem keepsFrom_below {B : Nat} {X Y : World} (hb : Below X.heap.size X Y) : KeepsFrom B X Y := ⟨hb.size, fun i _ _ hi _ => (hb.block i (Array.getElem?_eq_some_iff.1 hi).1).trans hi⟩
abbrev Cls := { k : Nat // k < 4 }

set_option maxRecDepth 100000 in
set_option maxHeartbeats 4000000 in
theorem classes_stops (n : Nat) (hn : 1 ≤ n) (w : World) :
    SeqBound Fence.wide n Tryd.prog 32 #[] #[] (fun s : Cls => #[.int .i64 (s.1 : Int)]) (fun _ _ => True) (fun xs => xs.map (·.1) = [0, 1, 2, 3]) (fun pre => pre.map (·.1) = List.range pre.length) 4 w := fun l J Jx W hW hJ hJx hY h0 => by
  refine callsIn_of_wp Tryd.func32 rfl trivial ?_ rfl
  simp only [Tryd.ntmps32, List.size_toArray, List.length_cons, List.length_nil, Nat.reduceAdd, Nat.reduceSub, Array.replicate_succ, Array.replicate_zero, List.push_toArray, List.append_toArray, List.nil_append, List.cons_append]
  clear hW
  gi_wp2
  gi_loopw [3] (fun iv wr => ∃ (p : Nat) (pre : List Cls), p ≤ 4 ∧ iv = .int .i64 (p : Int) ∧ J pre wr ∧ Hid (pre.length = p ∧ pre.map (·.1) = List.range p)) (fun iv _ => 4 - (intOf iv).toNat)
  case atStart => exact ⟨0, [], by omega, rfl, h0, Lib.hid ⟨rfl, rfl⟩⟩
  case round =>
    obtain ⟨p, pre, hp, rfl, hJp, HL⟩ := hrel
    by_cases hlt : p < 4
    · obtain ⟨fn, tmps, assign, body, hy, hR⟩ := hY pre ⟨p, hlt⟩ _ hJp (by rw [HL.out.1]; exact hlt)
      have HL2 := Lib.hid (show (pre ++ [(⟨p, hlt⟩ : Cls)]).length = p + 1 ∧ (pre ++ [(⟨p, hlt⟩ : Cls)]).map (·.1) = List.range (p + 1) from ⟨by rw [List.length_append, HL.out.1]; rfl, by rw [List.map_append, HL.out.2, List.range_succ]; rfl⟩)
      gi_wp2
      refine hR.mono ?_
      rintro e W3 (⟨rfl, hJ3, hk3⟩ | ⟨rfl, hJx3⟩)
      · gi_wp2
        go_roundw
        case rel => exact ⟨p + 1, pre ++ [⟨p, hlt⟩], by omega, by go_num, hJ3, HL2⟩
        case measure => simp [intOf]; omega
      · gi_wp2
        refine bodyPost_ret (results_none rfl _ _ _) rfl ?_
        exact ⟨⟨_, rfl⟩, .inr ⟨pre ++ [⟨p, hlt⟩], by rw [HL2.out.1]; exact HL2.out.2, hJx3⟩⟩
    · obtain rfl : p = 4 := by omega
      gi_wp2
      go_end0
      exact ⟨⟨_, rfl⟩, .inl ⟨pre, HL.out.2, hJp⟩⟩

set_option maxRecDepth 100000 in
set_option maxHeartbeats 1000000 in
theorem class1_c (k : Cls) (n : Int) (hn : I64 n) (b : Nat) (W : World) (hT : Tab W) (hb : W.cell? ⟨b, 0, none⟩ = some (.int .i64 n)) :
    Calls Tryd.prog 33 #[.int .i64 (k.1 : Int), .pointer (some ⟨b, 0, none⟩)] W fun e w' => e = .returned (.bool (decide (n ≤ szN k.1))) ∧ Below W.heap.size W w' := by
  obtain ⟨k, hk⟩ := k
  have hc := hT k hk
  obtain ⟨hn1, hn2⟩ := hn
  simp only at hc ⊢
  generalize szN k = s at *
  clear hT
  go_enter Tryd.func33, Tryd.ntmps33
  go_wp2_with fail
  go_region
  go_wp2
  go_ret
  exact ⟨rfl, (Below.refl _ _).drew⟩

/-- The class told, if there is one. -/
def lastC (p : List Cls) : Nat := (p.getLast?.map (·.1)).getD 0
def AllLt (n : Int) (pre : List Cls) : Prop := ∀ x ∈ pre, (szN x.1 : Int) < n
theorem lastC_lt (p : List Cls) : lastC p < 4 := by
  unfold lastC
  cases h : p.getLast? with
  | none => simp
  | some x => exact x.2
theorem lastC_below {p : List Cls} (hne : p ≠ []) (h : p.map (·.1) = List.range p.length) {j : Nat} (hj : j < lastC p) : ∃ x ∈ p.dropLast, x.1 = j := by
  have hl : 0 < p.length := List.length_pos_iff.2 hne
  have hlast : lastC p = p.length - 1 := by
    unfold lastC
    rw [List.getLast?_eq_getElem?, List.getElem?_eq_getElem (by omega)]
    have := congrArg (·[p.length - 1]?) h
    simp only [List.getElem?_map, List.getElem?_range (show p.length - 1 < p.length by omega)] at this
    rw [List.getElem?_eq_getElem (by omega)] at this
    simpa using this
  have hjl : j < p.length := by omega
  refine ⟨p[j], ?_, ?_⟩
  · rw [List.dropLast_eq_take]
    exact List.mem_take_iff_getElem.2 ⟨j, by omega, rfl⟩
  · have := congrArg (·[j]?) h
    simp only [List.getElem?_map, List.getElem?_range hjl] at this
    rw [List.getElem?_eq_getElem hjl] at this
    simpa using this
set_option maxRecDepth 100000 in
set_option maxHeartbeats 4000000 in
theorem leastI_c (n : Int) (hn : I64 n) (b : Nat) (w : World) (hT : Tab w) (hb : w.cell? ⟨b, 0, none⟩ = some (.int .i64 n)) :
    Calls Tryd.prog 31 #[.func (.func 32) #[] #[], .func (.func 33) #[] #[.pointer (some ⟨b, 0, none⟩)]] w fun e w' => ((∃ k, k < 4 ∧ n ≤ szN k ∧ (∀ j, j < k → (szN j : Int) < n) ∧ e = .returned (.tuple #[.int .i64 (k : Int), .bool true])) ∨ ((∀ j, j < 4 → (szN j : Int) < n) ∧ e = .returned (.tuple #[.int .i64 0, .bool false]))) ∧ Below w.heap.size w w' := by
  refine (callsIn_wide (n := 9)).1 ?_
  refine callsIn_of_wp_marks Tryd.func31 rfl trivial ?_ rfl
  simp only [Tryd.ntmps31, List.size_toArray, List.length_cons, List.length_nil, Nat.reduceAdd, Nat.reduceSub, Array.replicate_succ, Array.replicate_zero, List.push_toArray, List.append_toArray, List.nil_append, List.cons_append]
  gi_wp2
  obtain ⟨fv, hfv⟩ : ∃ f : Value, f = Value.func (Fn.func 33) #[] #[.pointer (some ⟨b, 0, none⟩)] := ⟨_, rfl⟩
  obtain ⟨w3, hw3⟩ : ∃ X : World, X = ((w.alloc (.cells #[fv] 28)).alloc (.cells #[.int .i64 0] 3)).alloc (.cells #[.bool false] 4) := ⟨_, rfl⟩
  rw [← hfv, ← hw3]
  have hB3 : Below w.heap.size w w3 := by rw [hw3]; exact (((Below.refl _ _).alloc (Nat.le_refl _) _).alloc (by simp) _).alloc (by simp; omega) _
  have hz3 : w3.heap.size = w.heap.size + 3 := by rw [hw3]; simp
  have hb0 : Boxed w3 w.heap.size 28 fv := by rw [hw3]; exact ((Boxed.new w _ _).alloc _).alloc _
  have hb1 : Boxed w3 (w.heap.size + 1) 3 (.int .i64 0) := by rw [hw3]; have := (Boxed.new (w.alloc (.cells #[fv] 28)) 3 (.int .i64 0)).alloc (.cells #[.bool false] 4); simpa using this
  have hb2 : Boxed w3 (w.heap.size + 1 + 1) 4 (.bool false) := by rw [hw3]; have := Boxed.new ((w.alloc (.cells #[fv] 28)).alloc (.cells #[.int .i64 0] 3)) 4 (.bool false); simpa using this
  have HFV := Lib.hid hfv
  have HHB := Lib.hid hB3
  have HHT := Lib.hid hT
  have HHb := Lib.hid hb
  have HHn := Lib.hid hn
  clear hw3 hfv hT hb hn hB3
  generalize hz : w.heap.size = z at *
  refine wpIn_rangeBound rfl (by omega) (gf := 32) (bd := #[]) (lb := #[]) rfl trivial (enters_of Tryd.func32 (by kernel_rfl) rfl)
    (classes_stops 8 (by omega) w3) (fun _ _ => trivial) (fun _ _ _ _ _ _ _ _ => trivial) (Below.refl _ _) (fun _ => rfl)
    (fun pre W => ((Boxed W z 28 fv ∧ Boxed W (z + 1) 3 (.int .i64 0)) ∧ (Boxed W (z + 1 + 1) 4 (.bool false) ∧ AllLt n pre)) ∧ Below z w W)
    (fun c p W => (Boxed W (z + 1) 3 (.int .i64 ((lastC p : Nat) : Int)) ∧ (Boxed W (z + 1 + 1) 4 (.bool true) ∧ (c = .ret ∧ p ≠ [] ∧ AllLt n p.dropLast ∧ n ≤ szN (lastC p)))) ∧ Below z w W)
    ?hI ?hIx ?h0
    (fun s a' W => a' = { tmps := #[.func (.func 32) #[] #[], fv, undef, .pointer (some ⟨z, 0, none⟩), .pointer (some ⟨z + 1, 0, none⟩), .pointer (some ⟨z + 1 + 1, 0, none⟩), .int .i64 (s.1 : Int), undef, .func (.func 32) #[] #[], .int .i64 (s.1 : Int), undef, undef, undef, undef, undef], defers := [] })
    ?hAx ?assign ?body ?done ?stop
  case hI => exact OwnFrom.and (OwnFrom.and (OwnFrom.and ((boxed_own _ _ _).from _) ((boxed_own _ _ _).from _)) (OwnFrom.and ((boxed_own _ _ _).from _) (ownFrom_pure _ _))) (ownFrom_below (Nat.le_of_eq hz.symm) (by omega))
  case hIx => exact fun c => OwnFrom.and (OwnFrom.and (Own.from (boxed_own _ _ (fun p : List Cls => Value.int .i64 ((lastC p : Nat) : Int))) _) (OwnFrom.and ((boxed_own _ _ _).from _) (ownFrom_pure _ _))) (ownFrom_below (Nat.le_of_eq hz.symm) (by omega))
  case h0 => exact ⟨⟨⟨hb0, hb1⟩, hb2, fun x hx => by cases hx⟩, HHB.out⟩
  case hAx => exact fun s a' => ownFrom_pure _ _
  case assign =>
    intro l pre s W K hi hK
    gi_wp2
    exact hK _ _ ((KeepsOthers.refl _).from _) trivial hi rfl
  case body =>
    rintro l pre s a' W hl _ ⟨⟨⟨hbf, hbi⟩, hbb, hlt⟩, hB⟩ rfl hlen
    have hcf := hbf.cell
    have hci := hbi.cell
    have hfi := hbi.frozen
    have hcb := hbb.cell
    have hfb := hbb.frozen
    rw [HFV.out] at hcf
    gi_wp2_with fail
    have HC := class1_c s n HHn.out b W (HHT.out.below (by rw [hz]; exact hB)) (below_cell (by rw [hz]; exact hB) HHb.out)
    refine ⟨trivial, (CallsIn.inRound l (callsIn_wide.2 HC)).mono ?_⟩
    clear HC
    rintro e W2 ⟨rfl, hb2⟩
    have hzW : z ≤ W.heap.size := by rw [← hz]; exact hB.size
    have hB2 := below_then hB hzW hb2
    have g0 := boxed_below hbf hb2
    have g1 := boxed_below hbi hb2
    have g2 := boxed_below hbb hb2
    have hk2 : KeepsFrom w3.heap.size W W2 := keepsFrom_below hb2
    by_cases hle : n ≤ (szN s.1 : Int)
    · rw [decide_eq_true hle]
      clear hcf hci hfi hcb hfb
      have hci := g1.cell
      have hfi := g1.frozen
      have hcb := g2.cell
      have hfb := g2.frozen
      gi_wp2
      refine ⟨hk2.trans (((KeepsOthers.setCell _ _ _).trans (KeepsOthers.setCell _ _ _)).from _), ⟨?_, ?_, rfl, by simp, by simpa using hlt, by simpa [lastC] using hle⟩, ?_⟩
      · rw [show lastC (pre ++ [s]) = s.1 by simp [lastC]]
        exact (g1.set _).other (by omega) _
      · exact (g2.other (by omega) _).set _
      · exact ((hB2.setCell (p := ⟨z + 1, 0, none⟩) (by simp) _).setCell (p := ⟨z + 1 + 1, 0, none⟩) (by simp; omega) _)
    · rw [decide_eq_false hle]
      gi_wp2
      refine ⟨hk2, trivial, ⟨⟨g0, g1⟩, g2, fun x hx => ?_⟩, hB2⟩
      rcases List.mem_append.1 hx with h | h
      · exact hlt x h
      · rw [List.mem_singleton.1 h]; omega
  case done =>
    rintro D xs W hD hxs ⟨⟨⟨hbf, hbi⟩, hbb, hlt⟩, hB⟩ hK
    have hci := hbi.cell
    have hfi := hbi.frozen
    have hcb := hbb.cell
    have hfb := hbb.frozen
    gi_wp2
    obtain ⟨W2, hW2⟩ : ∃ X : World, X = (W.setCell ⟨z + 1, 0, none⟩ (.int .i64 0)).setCell ⟨z + 1 + 1, 0, none⟩ (.bool false) := ⟨_, rfl⟩
    have hK2 : W2.heap[D]? = some (.deferred (some [])) := by rw [hW2]; exact ((KeepsOthers.setCell _ _ _).trans (KeepsOthers.setCell _ _ _)).same D _ hK rfl
    have hB2 : Below z w W2 := by rw [hW2]; exact ((hB.setCell (p := ⟨z + 1, 0, none⟩) (by simp) _).setCell (p := ⟨z + 1 + 1, 0, none⟩) (by simp; omega) _)
    have g1 : Boxed W2 (z + 1) 3 (.int .i64 0) := by rw [hW2]; exact (hbi.set _).other (by omega) _
    have g2 : Boxed W2 (z + 1 + 1) 4 (.bool false) := by rw [hW2]; exact (hbb.other (by omega) _).set _
    rw [← hW2]
    clear hW2 hci hfi hcb hfb hbi hbb
    refine ⟨by simp, .inl ⟨_, _, rfl, run_takeDeferred hK2, ?_⟩⟩
    have hd : Below z W2 (W2.putObj D (.deferred none)) := belowK_b (w := w) (Nat.le_of_eq hz.symm) W2 D _ _ (by omega) hK2 rfl rfl
    have c1 : (W2.putObj D (.deferred none)).cell? ⟨z + 1, 0, none⟩ = some (.int .i64 0) := (World.cell?_of_block (World.putObj_heap_other (by show z + 1 ≠ D; omega))).trans g1.cell
    have c2 : (W2.putObj D (.deferred none)).cell? ⟨z + 1 + 1, 0, none⟩ = some (.bool false) := (World.cell?_of_block (World.putObj_heap_other (by show z + 1 + 1 ≠ D; omega))).trans g2.cell
    refine ⟨.tuple #[.int .i64 0, .bool false], ?_, .inr ⟨fun j hj => ?_, rfl⟩, by rw [hz]; exact hB2.trans hd⟩
    · generalize World.putObj _ _ _ = W4 at c1 c2 ⊢
      simp [results, Tryd.results31, go_sem, c1, c2]
    · have : j ∈ xs.map (·.1) := by rw [hxs]; simp; omega
      obtain ⟨x, hx, rfl⟩ := List.mem_map.1 this
      exact hlt x hx
  case stop =>
    rintro D c pre W hD hpre ⟨⟨hbi, hbb, rfl, hne, hlt, hle⟩, hB⟩ hK
    have hci := hbi.cell
    have hcb := hbb.cell
    gi_wp2
    clear hci hcb
    refine ⟨by simp, .inl ⟨_, _, rfl, run_takeDeferred hK, ?_⟩⟩
    have hd : Below z W (W.putObj D (.deferred none)) := belowK_b (w := w) (Nat.le_of_eq hz.symm) W D _ _ (by omega) hK rfl rfl
    have c1 : (W.putObj D (.deferred none)).cell? ⟨z + 1, 0, none⟩ = some (.int .i64 (lastC pre : Nat)) := (World.cell?_of_block (World.putObj_heap_other (by show z + 1 ≠ D; omega))).trans hbi.cell
    have c2 : (W.putObj D (.deferred none)).cell? ⟨z + 1 + 1, 0, none⟩ = some (.bool true) := (World.cell?_of_block (World.putObj_heap_other (by show z + 1 + 1 ≠ D; omega))).trans hbb.cell
    refine ⟨.tuple #[.int .i64 (lastC pre : Nat), .bool true], ?_, .inl ⟨lastC pre, ?_, hle, ?_, rfl⟩, by rw [hz]; exact hB.trans hd⟩
    · generalize World.putObj _ _ _ = W4 at c1 c2 ⊢
      simp [results, Tryd.results31, go_sem, c1, c2]
    · exact lastC_lt pre
    · intro j hj
      obtain ⟨x, hx, rfl⟩ := lastC_below hne hpre hj
      exact hlt x hx

/-- The least class whose words are enough. -/
def clsN (n : Int) : Nat := if n ≤ 2 then 0 else if n ≤ 4 then 1 else if n ≤ 8 then 2 else 3
theorem clsN_of {n : Int} {k : Nat} (hk : k < 4) (h : n ≤ szN k) (hj : ∀ j, j < k → (szN j : Int) < n) : clsN n = k ∧ n ≤ 16 := by
  have e0 : szN 0 = 2 := rfl
  have e1 : szN 1 = 4 := rfl
  have e2 : szN 2 = 8 := rfl
  have e3 : szN 3 = 16 := rfl
  unfold clsN
  rcases k with _ | _ | _ | _ | k
  · rw [e0] at h; exact ⟨by rw [if_pos (by omega)], by omega⟩
  · have j0 := hj 0 (by decide); rw [e0] at j0; rw [e1] at h
    exact ⟨by rw [if_neg (by omega), if_pos (by omega)], by omega⟩
  · have j1 := hj 1 (by decide); rw [e1] at j1; rw [e2] at h
    exact ⟨by rw [if_neg (by omega), if_neg (by omega), if_pos (by omega)], by omega⟩
  · have j2 := hj 2 (by decide); rw [e2] at j2; rw [e3] at h
    exact ⟨by rw [if_neg (by omega), if_neg (by omega), if_neg (by omega)], by omega⟩
  · omega
/-- What Class answers. -/
def classA (n : Int) : Int × Int := if n < 1 then (0, 2) else if 16 < n then (0, 3) else ((clsN n : Int), 0)
set_option maxRecDepth 100000 in
set_option maxHeartbeats 4000000 in
theorem class_c (n : Int) (hn : I64 n) (W : World) (hT : Tab W) : Calls Tryd.prog 11 #[.int .i64 n] W fun e w' => e = .returned (.tuple #[.int .i64 (classA n).1, .int .i64 (classA n).2]) ∧ Below W.heap.size W w' := by
  obtain ⟨w1, hw1⟩ : ∃ X : World, X = W.alloc (.cells #[.int .i64 n] 3) := ⟨_, rfl⟩
  have hb : Below W.heap.size W w1 := by rw [hw1]; exact (Below.refl _ _).alloc (Nat.le_refl _) _
  have hbx : w1.cell? ⟨W.heap.size, 0, none⟩ = some (.int .i64 n) := by rw [hw1]; exact (Boxed.new W 3 (.int .i64 n)).cell
  have HC := Lib.hid (leastI_c n hn W.heap.size w1 (hT.below hb) hbx)
  have HB := Lib.hid hb
  obtain ⟨hn1, hn2⟩ := hn
  clear hT hb
  by_cases h1 : n < 1
  · have hA : classA n = (0, 2) := by unfold classA; rw [if_pos h1]
    rw [hA]
    clear hA HC
    rw [hw1] at hbx
    go_enter Tryd.func11, Tryd.ntmps11
    go_wp2
    rw [← hw1]
    go_ret2
    exact ⟨rfl, HB.out⟩
  · obtain ⟨A, hA⟩ : ∃ A, A = classA n := ⟨_, rfl⟩
    rw [← hA]
    have HA := Lib.hid hA
    clear hA
    have hbx2 := hbx
    rw [hw1] at hbx2
    go_enter Tryd.func11, Tryd.ntmps11
    go_wp2_with fail
    rw [← hw1]
    clear hw1 hbx2
    refine HC.out.mono ?_
    rintro e w2 ⟨(⟨k, hk, hle, hj, rfl⟩ | ⟨hj, rfl⟩), hb2⟩
    · obtain ⟨e1, e2⟩ := clsN_of hk hle hj
      obtain rfl : A = ((k : Int), 0) := by rw [HA.out]; unfold classA; rw [if_neg (by omega), if_neg (by omega), e1]
      have HB2 := Lib.hid (below_then HB.out HB.out.size hb2)
      clear e1 e2 hle hj HC HA hb2
      go_wp2
      go_ret2
      exact ⟨rfl, HB2.out⟩
    · obtain rfl : A = (0, 3) := by
        rw [HA.out]; unfold classA; rw [if_neg (by omega), if_pos]
        have := hj 3 (by decide)
        rw [show szN 3 = 16 from rfl] at this
        omega
      have HB2 := Lib.hid (below_then HB.out HB.out.size hb2)
      clear hj HC HA hb2
      go_wp2
      go_ret2
      exact ⟨rfl, HB2.out⟩

end Go.Proofs.YtklbbcaebdfjeaaDoor
