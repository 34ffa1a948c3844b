/-
  The iterator over the rows of live words tells the rows in order, each as its first place and length.
  Conditions: who ranges over them leaves the truth values as they are.
-/
import Derived.Test.YtcledklajcdfiaaRange
import Derived.Test.YtcledklajcdfiaaMSpanMath
import Derived.Shelf.RegionOpen
import Derived.WalkKit
import Derived.OwnWalkIn
import Derived.TacticsInMore
import Derived.LoopNIn
import Derived.LoopIn
import Derived.Deep.RegionHeld
import Derived.Lib.Hide
namespace Go.Proofs.Ytcledklajcdfiaa
open Go.RowKit Go.Shelf
attribute [local go_sem] Oper.semAt_some

/-- What index answers: the first place that is free, or -1. -/
def idxF (l : List Bool) : Int := if lead l < l.length then (lead l : Int) else -1
theorem lead_get : ∀ (l : List Bool) (i : Nat) (h : i < l.length), i < lead l → l[i] = true
  | true :: t, 0, _, _ => rfl
  | true :: t, i + 1, h, hl => lead_get t i (by simpa using h) (by simp [lead] at hl; omega)
  | false :: t, i, h, hl => by simp [lead] at hl
theorem lead_at : ∀ (l : List Bool) (h : lead l < l.length), l[lead l] = false
  | true :: t, h => by
    have := lead_at t (by simp [lead] at h; omega)
    simpa [lead] using this
  | false :: t, h => rfl
theorem lead_of (l : List Bool) (i : Nat) (h : i < l.length) (hp : ∀ j (hj : j < i), l[j]'(by omega) = true) (hi : l[i] = false) : lead l = i := by
  rcases Nat.lt_trichotomy (lead l) i with h1 | h1 | h1
  · have := hp (lead l) h1
    rw [lead_at l (by omega)] at this
    cases this
  · exact h1
  · have := lead_get l i h h1
    rw [hi] at this
    cases this

set_option maxRecDepth 100000 in
set_option maxHeartbeats 1000000 in
theorem index_c (b off cap : Nat) (l : List Bool) (W : World) (hmax : l.length ≤ 4096) (hl : ∀ i (h : i < l.length), W.cell? ⟨b, off + i, none⟩ = some (.bool l[i])) :
    Calls Try.prog 102 #[.slice (some ⟨b, off, none⟩) l.length cap, .bool false] W fun e w' => e = .returned (.int .i64 (idxF l)) ∧ w' = W := by
  have HL := Lib.hid hl
  clear hl
  go_enter Try.func102, Try.ntmps102
  go_wp2
  go_loop [8] (fun iv => ∃ i : Nat, i ≤ l.length ∧ iv = .int .i64 i ∧ ∀ j (hj : j < l.length), j < i → l[j] = true) (fun iv => l.length - (intOf iv).toNat)
  case atStart => exact ⟨0, Nat.zero_le _, rfl, fun j _ h => absurd h (Nat.not_lt_zero _)⟩
  case round =>
    obtain ⟨i, hi, rfl, hp⟩ := hrel
    have HP := Lib.hid hp
    clear hp
    by_cases hlt : i < l.length
    · have hx := HL.out i hlt
      cases hb : l[i] with
      | true =>
        rw [hb] at hx
        have HB := Lib.hid hb
        clear hb
        go_wp2
        go_round
        case rel => exact ⟨i + 1, by omega, by go_num, fun j hj hji => by rcases Nat.lt_succ_iff_lt_or_eq.1 hji with h | h; exact HP.out j hj h; subst h; exact HB.out⟩
        case measure => simp [intOf]; omega
      | false =>
        rw [hb] at hx
        have hle := lead_of l i hlt (fun j hj => HP.out j (by omega) hj) hb
        have HR := Lib.hid (show idxF l = i by simp [idxF, hle, hlt])
        clear hb hle
        go_wp2
        go_ret
        exact ⟨ret_int HR.out.symm, rfl⟩
    · have HR := Lib.hid (show idxF l = -1 by
        have hle := lead_le l
        rcases Nat.lt_or_ge (lead l) l.length with h | h
        · have := HP.out (lead l) h (by omega); rw [lead_at l h] at this; cases this
        · simp [idxF]; omega)
      go_wp2
      go_ret
      exact ⟨ret_int HR.out.symm, rfl⟩

/-- The cells outside of some blocks stay as they are. -/
def KeepsCells (S : Nat → Prop) (W W' : World) : Prop := ∀ b o v, ¬ S b → W.cell? ⟨b, o, none⟩ = some v → W'.cell? ⟨b, o, none⟩ = some v
theorem KeepsCells.refl (S : Nat → Prop) (W : World) : KeepsCells S W W := fun _ _ _ _ h => h
theorem KeepsCells.trans {S : Nat → Prop} {X Y Z : World} (h : KeepsCells S X Y) (k : KeepsCells S Y Z) : KeepsCells S X Z := fun b o v hb hx => k b o v hb (h b o v hb hx)
theorem KeepsCells.keeps {S : Nat → Prop} {X Y : World} (h : Keeps S X Y) : KeepsCells S X Y := fun b _ _ hb hx => h.cell hx (by simpa using hb)
theorem KeepsCells.turn (S : Nat → Prop) (W : World) (l : Nat) (o o' : Obj) (hl : W.heap[l]? = some o) (ho : o.isCells = false) (_ : o.isWalk = false) : KeepsCells S W (W.putObj l o') := fun b i v _ h => by
  by_cases e : b = l
  · subst e
    simp only [World.cell?, hl] at h
    cases o <;> simp_all [Obj.isCells]
  · have hp : (W.putObj l o').heap[b]? = W.heap[b]? := World.putObj_heap_other e
    simp only [World.cell?] at h ⊢
    rw [hp]
    exact h

/-- A row that ends within the greatest memory. -/
abbrev RowS := { s : Nat × Nat // s.1 + s.2 ≤ 4096 }
abbrev rowV (s : RowS) : Value := .agg #[.int .i64 (s.1.1 : Int), .int .i64 (s.1.2 : Int)]

set_option maxRecDepth 100000 in
set_option maxHeartbeats 4000000 in
theorem spans_stops (n : Nat) (hn : 1 ≤ n) (S : Nat → Prop) (lb b off cap : Nat) (ls : List Bool) (w : World) (hSl : ¬ S lb) (hSb : ¬ S b) (hmax : ls.length ≤ 4096) (hcap : ls.length ≤ cap)
    (hc : w.cell? ⟨lb, 0, none⟩ = some (.slice (some ⟨b, off, none⟩) ls.length cap)) (hl : ∀ i (h : i < ls.length), w.cell? ⟨b, off + i, none⟩ = some (.bool ls[i])) :
    SeqBound Fence.wide n Try.prog 101 #[] #[.pointer (some ⟨lb, 0, none⟩)] (fun s : RowS => #[rowV s]) (KeepsCells S) (fun xs => xs.map (·.1) = spansL ls) (fun pre => ∃ suf, pre.map (·.1) ++ suf = spansL ls) (spansL ls).length w := fun l J Jx W hW hJ hJx hY h0 => by
  refine callsIn_of_wp Try.func101 rfl trivial ?_ rfl
  simp only [Try.ntmps101, List.size_toArray, List.length_cons, List.length_nil, Nat.reduceAdd, Nat.reduceSub, Array.replicate_succ, Array.replicate_zero, List.push_toArray, List.append_toArray, List.nil_append, List.cons_append]
  have hcW := (hW.cell (World.block_lt_of_cell? w _ hc)).trans hc
  have HLW := Lib.hid (show ∀ i (h : i < ls.length), W.cell? ⟨b, off + i, none⟩ = some (.bool ls[i]) from fun i h => (hW.cell (World.block_lt_of_cell? w _ (hl i h))).trans (hl i h))
  clear hc hl
  gi_wp2
  gi_loopw [3] (fun iv wr => ∃ (p : Nat) (pre : List RowS), p ≤ ls.length + 1 ∧ iv = .int .i64 (p : Int) ∧ (wr.cell? ⟨lb, 0, none⟩ = some (.slice (some ⟨b, off, none⟩) ls.length cap) ∧ ∀ i (h : i < ls.length), wr.cell? ⟨b, off + i, none⟩ = some (.bool ls[i])) ∧ J pre wr ∧ pre.map (·.1) ++ spansP p 0 (ls.drop p) = spansL ls) (fun iv _ => ls.length + 1 - (intOf iv).toNat)
  case atStart => exact ⟨0, [], by omega, rfl, ⟨hcW, HLW.out⟩, h0, rfl⟩
  case round =>
    obtain ⟨p, pre, hp, rfl, ⟨hc, hl⟩, hJp, heq⟩ := hrel
    have HLR := Lib.hid hl
    clear hl
    by_cases hlt : p < ls.length
    · have hst := spansP_step (ls.drop p) p 0
      have hle := lead_le (ls.drop p)
      rw [List.length_drop] at hle
      rw [hst, Nat.zero_add, Nat.add_zero, List.drop_drop] at heq
      obtain ⟨m, hm⟩ : ∃ m, m = lead (ls.drop p) := ⟨_, rfl⟩
      have hix : idxF (ls.drop p) = if m < ls.length - p then (m : Int) else -1 := by rw [hm, idxF, List.length_drop]
      have HIX := Lib.hid hix
      have hil : ∀ i (h : i < (ls.drop p).length), wr.cell? ⟨b, off + p + i, none⟩ = some (.bool (ls.drop p)[i]) := fun i h => by
        rw [List.length_drop] at h
        rw [List.getElem_drop, Nat.add_assoc]; exact HLR.out (p + i) (by omega)
      have hdl : (ls.drop p).length = ls.length - p := List.length_drop ..
      have HCALL := Lib.hid (index_c b (off + p) (cap - p) (ls.drop p) wr (by omega) hil)
      rw [hdl] at HCALL
      rw [← hm] at heq hle
      have HEQ := Lib.hid heq
      clear hst heq hix hil hdl hm
      gi_wp2_with fail
      refine ⟨trivial, (callsIn_wide.2 HCALL.out).mono ?_⟩
      rintro e w' ⟨rfl, rfl⟩
      rw [HIX.out]
      by_cases hm0 : m = 0
      · subst hm0
        rw [if_pos (by omega)]
        have HEQ1 := Lib.hid (show pre.map (·.1) ++ spansP (p + 1) 0 (ls.drop (p + 1)) = spansL ls from HEQ.out)
        clear HEQ HIX HCALL
        gi_wp2
        refine ⟨(fun f h => by cases h), ?_⟩
        gi_wp2
        go_roundw
        case rel => exact ⟨p + 1, pre, by omega, by go_num, ⟨hc, HLR.out⟩, hJp, HEQ1.out⟩
        case measure => simp [intOf]; omega
      · have HEQ2 := Lib.hid (show (pre.map (·.1) ++ [(p, m)]) ++ spansP (p + m + 1) 0 (ls.drop (p + m + 1)) = spansL ls by
          rw [List.append_assoc, ← HEQ.out, oneRow_pos p hm0]; simp only [Nat.add_zero, Nat.add_assoc])
        have hlen : pre.length < (spansL ls).length := by rw [← HEQ2.out]; simp
        have hpm : p + m ≤ 4096 := by omega
        clear HEQ
        by_cases hmlt : m < ls.length - p
        · rw [if_pos hmlt]
          clear HIX HCALL
          obtain ⟨fn, tmps, assign, body, hy, hR⟩ := hY pre ⟨(p, m), hpm⟩ _ hJp hlen
          gi_wp2
          refine hR.mono ?_
          rintro e W3 (⟨rfl, hJ3, hk3⟩ | ⟨rfl, hJx3⟩)
          · have hc3 := hk3 _ _ _ hSl hc
            have HL3 := Lib.hid (show ∀ i (h : i < ls.length), W3.cell? ⟨b, off + i, none⟩ = some (.bool ls[i]) from fun i h => hk3 _ _ _ hSb (HLR.out i h))
            gi_wp2
            go_roundw
            case rel => exact ⟨p + m + 1, pre ++ [⟨(p, m), hpm⟩], by omega, by go_num, ⟨hc3, HL3.out⟩, hJ3, by rw [List.map_append]; exact HEQ2.out⟩
            case measure => simp [intOf]; omega
          · gi_wp2
            refine bodyPost_ret (results_none rfl _ _ _) rfl ?_
            exact ⟨⟨_, rfl⟩, .inr ⟨pre ++ [⟨(p, m), hpm⟩], ⟨_, by rw [List.map_append]; exact HEQ2.out⟩, hJx3⟩⟩
        · rw [if_neg hmlt]
          have hsub : (ls.length : Int) - (p : Int) = (m : Int) := by omega
          have hmpos : (0 : Int) < m := by omega
          clear HIX HCALL
          obtain ⟨fn, tmps, assign, body, hy, hR⟩ := hY pre ⟨(p, m), hpm⟩ _ hJp hlen
          gi_wp2
          refine hR.mono ?_
          rintro e W3 (⟨rfl, hJ3, hk3⟩ | ⟨rfl, hJx3⟩)
          · have hc3 := hk3 _ _ _ hSl hc
            have HL3 := Lib.hid (show ∀ i (h : i < ls.length), W3.cell? ⟨b, off + i, none⟩ = some (.bool ls[i]) from fun i h => hk3 _ _ _ hSb (HLR.out i h))
            gi_wp2
            go_roundw
            case rel => exact ⟨p + m + 1, pre ++ [⟨(p, m), hpm⟩], by omega, by go_num, ⟨hc3, HL3.out⟩, hJ3, by rw [List.map_append]; exact HEQ2.out⟩
            case measure => simp [intOf]; omega
          · gi_wp2
            refine bodyPost_ret (results_none rfl _ _ _) rfl ?_
            exact ⟨⟨_, rfl⟩, .inr ⟨pre ++ [⟨(p, m), hpm⟩], ⟨_, by rw [List.map_append]; exact HEQ2.out⟩, hJx3⟩⟩
    · gi_wp2
      go_end0
      have h0 : ls.drop p = [] := List.drop_eq_nil_of_le (by omega)
      rw [h0, show spansP p 0 [] = [] from rfl, List.append_nil] at heq
      exact ⟨⟨_, rfl⟩, .inl ⟨pre, heq, hJp⟩⟩

end Go.Proofs.Ytcledklajcdfiaa
