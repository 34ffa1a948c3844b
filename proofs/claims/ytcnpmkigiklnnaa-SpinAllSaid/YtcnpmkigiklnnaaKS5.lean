/-
  small, the chapter's memory: eight words, of which three are live; and whether two memories are the same that read so, and whether one says nothing.
  Conditions: as each has them.
-/
import Derived.Test.YtcnpmkigiklnnaaKS1
import Derived.Test.YtcnpmkigiklnnaaKS4
import Derived.Shelf.RegionOpen
import Derived.WalkKit
import Derived.OwnWalkIn
import Derived.TacticsInMore
import Derived.LoopNIn
import Derived.LoopIn
import Derived.Deep.RegionHeld
import Derived.Lib.Hide
import Derived.OrdersHeld
import Derived.OrdersIn
import Derived.IntWalk
import Derived.Test.YtcnpmkigiklnnaaKS2
/-
  Rows of truth values that stand together, by their first place and length; how many of them lie in a part.
  Conditions: none.
-/
namespace Go.Proofs.Ytcnpmkigiklnnaa

def oneRow (a n : Nat) : List (Nat × Nat) := if n = 0 then [] else [(a, n)]
theorem oneRow_zero (a : Nat) : oneRow a 0 = [] := rfl
theorem oneRow_pos {n : Nat} (a : Nat) (h : n ≠ 0) : oneRow a n = [(a, n)] := by simp [oneRow, h]
/-- The rows, where one of n began ahead: it begins at a. -/
def spansP (a n : Nat) : List Bool → List (Nat × Nat)
  | [] => oneRow a n
  | true :: t => spansP a (n + 1) t
  | false :: t => oneRow a n ++ spansP (a + n + 1) 0 t
/-- How many stand together at the beginning. -/
def lead : List Bool → Nat
  | true :: t => lead t + 1
  | _ => 0
theorem lead_le (l : List Bool) : lead l ≤ l.length := by
  induction l with
  | nil => simp [lead]
  | cons b t ih => cases b <;> simp [lead]; omega
theorem spansP_step (l : List Bool) (a n : Nat) : spansP a n l = oneRow a (n + lead l) ++ spansP (a + n + lead l + 1) 0 (l.drop (lead l + 1)) := by
  induction l generalizing n with
  | nil => simp [spansP, lead, oneRow_zero]
  | cons b t ih =>
    cases b with
    | true =>
      simp only [spansP, lead, List.drop_succ_cons]
      rw [ih (n + 1), show n + 1 + lead t = n + (lead t + 1) by omega, show a + (n + 1) + lead t + 1 = a + n + (lead t + 1) + 1 by omega]
    | false => simp [spansP, lead]
/-- The rows of a list. -/
def spansL (l : List Bool) : List (Nat × Nat) := spansP 0 0 l

/-- The places of a row that lie between x and y, and those of a list. -/
def ovl (x y : Nat) (s : Nat × Nat) : Nat := min (s.1 + s.2) y - max s.1 x
def cnt (x y a : Nat) : List Bool → Nat
  | [] => 0
  | b :: t => (if b = true ∧ x ≤ a ∧ a < y then 1 else 0) + cnt x y (a + 1) t
def ovlAll (x y : Nat) (l : List (Nat × Nat)) : Nat := (l.map (ovl x y)).sum
theorem ovlAll_snoc (x y : Nat) (l : List (Nat × Nat)) (s : Nat × Nat) : ovlAll x y (l ++ [s]) = ovlAll x y l + ovl x y s := by simp [ovlAll]
theorem ovlAll_append (x y : Nat) (l m : List (Nat × Nat)) : ovlAll x y (l ++ m) = ovlAll x y l + ovlAll x y m := by simp [ovlAll]
theorem ovl_spansP (x y : Nat) (hxy : x ≤ y) (l : List Bool) (a n : Nat) : ovlAll x y (spansP a n l) = ovl x y (a, n) + cnt x y (a + n) l := by
  induction l generalizing a n with
  | nil =>
    by_cases h : n = 0
    · subst h; simp [spansP, oneRow_zero, ovlAll, cnt, ovl]; omega
    · simp [spansP, oneRow_pos a h, ovlAll, cnt]
  | cons b t ih =>
    cases b with
    | true =>
      simp only [spansP, cnt]
      rw [ih a (n + 1), show a + (n + 1) = a + n + 1 by omega]
      simp only [ovl, true_and]
      split <;> omega
    | false =>
      simp only [spansP, cnt]
      rw [ovlAll_append, ih (a + n + 1) 0]
      have e : ovlAll x y (oneRow a n) = ovl x y (a, n) := by
        by_cases h : n = 0
        · subst h; simp [oneRow_zero, ovlAll, ovl]; omega
        · simp [ovlAll, oneRow_pos a h]
      rw [e]
      simp [ovl]
      omega
theorem ovl_spansL (x y : Nat) (hxy : x ≤ y) (l : List Bool) : ovlAll x y (spansL l) = cnt x y 0 l := by
  have := ovl_spansP x y hxy l 0 0
  simpa [spansL, ovl] using this
/-- Each row begins behind the ones ahead of it, and has one place at least. -/
theorem spansP_ge (l : List Bool) (a n : Nat) : ∀ s ∈ spansP a n l, a ≤ s.1 ∧ 1 ≤ s.2 ∧ s.1 + s.2 ≤ a + n + l.length := by
  induction l generalizing a n with
  | nil =>
    intro s hs
    by_cases h : n = 0
    · subst h; simp [spansP, oneRow_zero] at hs
    · simp [spansP, oneRow_pos a h] at hs; subst hs; simp; omega
  | cons b t ih =>
    intro s hs
    cases b with
    | true =>
      have := ih a (n + 1) s (by simpa [spansP] using hs)
      simp only [List.length_cons]
      omega
    | false =>
      simp only [spansP, List.mem_append] at hs
      rcases hs with hs | hs
      · by_cases h : n = 0
        · subst h; simp [oneRow_zero] at hs
        · simp [oneRow_pos a h] at hs; subst hs; simp; omega
      · have := ih (a + n + 1) 0 s hs
        simp only [List.length_cons]
        omega
theorem spansP_sorted (l : List Bool) (a n : Nat) : (spansP a n l).Pairwise (fun s t => s.1 + s.2 ≤ t.1) := by
  induction l generalizing a n with
  | nil =>
    by_cases h : n = 0
    · subst h; simp [spansP, oneRow_zero]
    · simp [spansP, oneRow_pos a h]
  | cons b t ih =>
    cases b with
    | true => simpa [spansP] using ih a (n + 1)
    | false =>
      simp only [spansP]
      by_cases h : n = 0
      · subst h; simpa [oneRow_zero] using ih (a + 0 + 1) 0
      · simp only [oneRow_pos a h, List.singleton_append, List.pairwise_cons]
        exact ⟨fun s hs => by have := spansP_ge t (a + n + 1) 0 s hs; omega, ih _ _⟩
/-- What lies behind y is not counted. -/
theorem ovlAll_behind (x y : Nat) (l : List (Nat × Nat)) (h : ∀ s ∈ l, y ≤ s.1) : ovlAll x y l = 0 := by
  induction l with
  | nil => rfl
  | cons s t ih =>
    have h1 := h s List.mem_cons_self
    have h2 := ih fun u hu => h u (List.mem_cons_of_mem _ hu)
    simp only [ovlAll, List.map_cons, List.sum_cons] at h2 ⊢
    rw [h2]
    simp only [ovl]
    omega
theorem ovl_stop (x y : Nat) (hxy : x ≤ y) (ls : List Bool) (pre : List (Nat × Nat)) (s : Nat × Nat) (suf : List (Nat × Nat)) (h : pre ++ s :: suf = spansL ls) (hs : y ≤ s.1) : ovlAll x y pre = cnt x y 0 ls := by
  rw [← ovl_spansL x y hxy, ← h, ovlAll_append, ovlAll_behind x y (s :: suf), Nat.add_zero]
  intro u hu
  rcases List.mem_cons.1 hu with rfl | hu
  · exact hs
  · have hp := spansP_sorted ls 0 0
    rw [show spansP 0 0 ls = pre ++ s :: suf from h.symm, List.pairwise_append] at hp
    have := (List.pairwise_cons.1 hp.2.1).1 u hu
    omega
/-- All of a part are live, or none. -/
theorem cnt_zero_iff (x y : Nat) (l : List Bool) (a : Nat) : cnt x y a l = 0 ↔ ∀ i (h : i < l.length), x ≤ a + i → a + i < y → l[i] = false := by
  induction l generalizing a with
  | nil => simp [cnt]
  | cons b t ih =>
    simp only [cnt, Nat.add_eq_zero_iff, ih (a + 1)]
    constructor
    · rintro ⟨h1, h2⟩ i hi hx hy
      cases i with
      | zero => cases b <;> simp_all
      | succ i => exact h2 i (by simpa using hi) (by omega) (by omega)
    · intro h
      refine ⟨?_, fun i hi hx hy => h (i + 1) (by simpa using hi) (by omega) (by omega)⟩
      have h0 := h 0 (by simp)
      by_cases hc : b = true ∧ x ≤ a ∧ a < y
      · have := h0 (by omega) (by omega); simp [hc.1] at this
      · simp [hc]
theorem cnt_le (x y : Nat) (l : List Bool) (a : Nat) : cnt x y a l ≤ min y (a + l.length) - max x a := by
  induction l generalizing a with
  | nil => simp [cnt]
  | cons b t ih =>
    have := ih (a + 1)
    simp only [cnt, List.length_cons]
    split <;> omega
theorem cnt_full_iff (x y : Nat) (l : List Bool) (a : Nat) (hx : a ≤ x) (hy : y ≤ a + l.length) (hxy : x ≤ y) : cnt x y a l = y - x ↔ ∀ i (h : i < l.length), x ≤ a + i → a + i < y → l[i] = true := by
  induction l generalizing a x with
  | nil => simp [cnt] at *; omega
  | cons b t ih =>
    simp only [List.length_cons] at hy
    by_cases hxa : x = a
    · subst hxa
      by_cases hya : y = x
      · subst hya
        constructor
        · intro _ i hi h1 h2; omega
        · intro _
          have := cnt_le y y (b :: t) y
          simp only [List.length_cons] at this
          omega
      · have e : cnt x y (x + 1) t = cnt (x + 1) y (x + 1) t := by
          clear ih
          suffices ∀ (t : List Bool) (c : Nat), x + 1 ≤ c → cnt x y c t = cnt (x + 1) y c t from this t (x + 1) (Nat.le_refl _)
          intro t
          induction t with
          | nil => intro c _; rfl
          | cons d t ih => intro c hc; simp only [cnt]; rw [ih (c + 1) (by omega)]; congr 1; simp [show x ≤ c by omega, hc]
        have hle := cnt_le (x + 1) y t (x + 1)
        have hi := ih (x + 1) (x + 1) (by omega) (by omega) (by omega)
        simp only [cnt, e]
        constructor
        · intro h i hi2 h1 h2
          have hb : b = true := by
            cases b with
            | true => rfl
            | false => simp at h; omega
          cases i with
          | zero => exact hb
          | succ i =>
            simp [hb, show x < y by omega] at h
            exact hi.1 (by omega) i (by simpa using hi2) (by omega) (by omega)
        · intro h
          have hb : b = true := h 0 (by simp) (by omega) (by omega)
          have := hi.2 fun i hi2 h1 h2 => h (i + 1) (by simpa using hi2) (by omega) (by omega)
          simp [hb, show x < y by omega]
          omega
    · have h1 : ¬ (b = true ∧ x ≤ a ∧ a < y) := by omega
      simp only [cnt, h1, if_false, Nat.zero_add]
      rw [ih x (a + 1) (by omega) (by omega) hxy]
      constructor
      · intro h i hi h1 h2
        cases i with
        | zero => omega
        | succ i => exact h i (by simpa using hi) (by omega) (by omega)
      · intro h i hi h1 h2
        exact h (i + 1) (by simpa using hi) (by omega) (by omega)

end Go.Proofs.Ytcnpmkigiklnnaa
/-
  The iterator over the rows of live words tells the rows in order, each as its first place and length.
  Conditions: who ranges over them leaves the truth values as they are.
-/
namespace Go.Proofs.Ytcnpmkigiklnnaa
open Go.RowKit Go.Shelf
attribute [local go_sem] Oper.semAt_some

/-- What index answers: the first place that is free, or -1. -/
def idxF (l : List Bool) : Int := if lead l < l.length then (lead l : Int) else -1
theorem lead_get : ∀ (l : List Bool) (i : Nat) (h : i < l.length), i < lead l → l[i] = true
  | true :: t, 0, _, _ => rfl
  | true :: t, i + 1, h, hl => lead_get t i (by simpa using h) (by simp [lead] at hl; omega)
  | false :: t, i, h, hl => by simp [lead] at hl
theorem lead_at : ∀ (l : List Bool) (h : lead l < l.length), l[lead l] = false
  | true :: t, h => by
    have := lead_at t (by simp [lead] at h; omega)
    simpa [lead] using this
  | false :: t, h => rfl
theorem lead_of (l : List Bool) (i : Nat) (h : i < l.length) (hp : ∀ j (hj : j < i), l[j]'(by omega) = true) (hi : l[i] = false) : lead l = i := by
  rcases Nat.lt_trichotomy (lead l) i with h1 | h1 | h1
  · have := hp (lead l) h1
    rw [lead_at l (by omega)] at this
    cases this
  · exact h1
  · have := lead_get l i h h1
    rw [hi] at this
    cases this

set_option maxRecDepth 100000 in
set_option maxHeartbeats 1000000 in
theorem index_c (b off cap : Nat) (l : List Bool) (W : World) (hmax : l.length ≤ 4096) (hl : ∀ i (h : i < l.length), W.cell? ⟨b, off + i, none⟩ = some (.bool l[i])) :
    Calls Try.prog 102 #[.slice (some ⟨b, off, none⟩) l.length cap, .bool false] W fun e w' => e = .returned (.int .i64 (idxF l)) ∧ w' = W := by
  have HL := Lib.hid hl
  clear hl
  go_enter Try.func102, Try.ntmps102
  go_wp2
  go_loop [8] (fun iv => ∃ i : Nat, i ≤ l.length ∧ iv = .int .i64 i ∧ ∀ j (hj : j < l.length), j < i → l[j] = true) (fun iv => l.length - (intOf iv).toNat)
  case atStart => exact ⟨0, Nat.zero_le _, rfl, fun j _ h => absurd h (Nat.not_lt_zero _)⟩
  case round =>
    obtain ⟨i, hi, rfl, hp⟩ := hrel
    have HP := Lib.hid hp
    clear hp
    by_cases hlt : i < l.length
    · have hx := HL.out i hlt
      cases hb : l[i] with
      | true =>
        rw [hb] at hx
        have HB := Lib.hid hb
        clear hb
        go_wp2
        go_round
        case rel => exact ⟨i + 1, by omega, by go_num, fun j hj hji => by rcases Nat.lt_succ_iff_lt_or_eq.1 hji with h | h; exact HP.out j hj h; subst h; exact HB.out⟩
        case measure => simp [intOf]; omega
      | false =>
        rw [hb] at hx
        have hle := lead_of l i hlt (fun j hj => HP.out j (by omega) hj) hb
        have HR := Lib.hid (show idxF l = i by simp [idxF, hle, hlt])
        clear hb hle
        go_wp2
        go_ret
        exact ⟨ret_int HR.out.symm, rfl⟩
    · have HR := Lib.hid (show idxF l = -1 by
        have hle := lead_le l
        rcases Nat.lt_or_ge (lead l) l.length with h | h
        · have := HP.out (lead l) h (by omega); rw [lead_at l h] at this; cases this
        · simp [idxF]; omega)
      go_wp2
      go_ret
      exact ⟨ret_int HR.out.symm, rfl⟩

/-- The cells outside of some blocks stay as they are. -/
def KeepsCells (S : Nat → Prop) (W W' : World) : Prop := ∀ b o v, ¬ S b → W.cell? ⟨b, o, none⟩ = some v → W'.cell? ⟨b, o, none⟩ = some v
theorem KeepsCells.refl (S : Nat → Prop) (W : World) : KeepsCells S W W := fun _ _ _ _ h => h
theorem KeepsCells.trans {S : Nat → Prop} {X Y Z : World} (h : KeepsCells S X Y) (k : KeepsCells S Y Z) : KeepsCells S X Z := fun b o v hb hx => k b o v hb (h b o v hb hx)
theorem KeepsCells.keeps {S : Nat → Prop} {X Y : World} (h : Keeps S X Y) : KeepsCells S X Y := fun b _ _ hb hx => h.cell hx (by simpa using hb)
theorem KeepsCells.turn (S : Nat → Prop) (W : World) (l : Nat) (o o' : Obj) (hl : W.heap[l]? = some o) (ho : o.isCells = false) (_ : o.isWalk = false) : KeepsCells S W (W.putObj l o') := fun b i v _ h => by
  by_cases e : b = l
  · subst e
    simp only [World.cell?, hl] at h
    cases o <;> simp_all [Obj.isCells]
  · have hp : (W.putObj l o').heap[b]? = W.heap[b]? := World.putObj_heap_other e
    simp only [World.cell?] at h ⊢
    rw [hp]
    exact h

/-- A row that ends within the greatest memory. -/
abbrev RowS := { s : Nat × Nat // s.1 + s.2 ≤ 4096 }
abbrev rowV (s : RowS) : Value := .agg #[.int .i64 (s.1.1 : Int), .int .i64 (s.1.2 : Int)]

set_option maxRecDepth 100000 in
set_option maxHeartbeats 4000000 in
theorem spans_stops (n : Nat) (hn : 1 ≤ n) (S : Nat → Prop) (lb b off cap : Nat) (ls : List Bool) (w : World) (hSl : ¬ S lb) (hSb : ¬ S b) (hmax : ls.length ≤ 4096) (hcap : ls.length ≤ cap)
    (hc : w.cell? ⟨lb, 0, none⟩ = some (.slice (some ⟨b, off, none⟩) ls.length cap)) (hl : ∀ i (h : i < ls.length), w.cell? ⟨b, off + i, none⟩ = some (.bool ls[i])) :
    SeqBound Fence.wide n Try.prog 101 #[] #[.pointer (some ⟨lb, 0, none⟩)] (fun s : RowS => #[rowV s]) (KeepsCells S) (fun xs => xs.map (·.1) = spansL ls) (fun pre => ∃ suf, pre.map (·.1) ++ suf = spansL ls) (spansL ls).length w := fun l J Jx W hW hJ hJx hY h0 => by
  refine callsIn_of_wp Try.func101 rfl trivial ?_ rfl
  simp only [Try.ntmps101, List.size_toArray, List.length_cons, List.length_nil, Nat.reduceAdd, Nat.reduceSub, Array.replicate_succ, Array.replicate_zero, List.push_toArray, List.append_toArray, List.nil_append, List.cons_append]
  have hcW := (hW.cell (World.block_lt_of_cell? w _ hc)).trans hc
  have HLW := Lib.hid (show ∀ i (h : i < ls.length), W.cell? ⟨b, off + i, none⟩ = some (.bool ls[i]) from fun i h => (hW.cell (World.block_lt_of_cell? w _ (hl i h))).trans (hl i h))
  clear hc hl
  gi_wp2
  gi_loopw [3] (fun iv wr => ∃ (p : Nat) (pre : List RowS), p ≤ ls.length + 1 ∧ iv = .int .i64 (p : Int) ∧ (wr.cell? ⟨lb, 0, none⟩ = some (.slice (some ⟨b, off, none⟩) ls.length cap) ∧ ∀ i (h : i < ls.length), wr.cell? ⟨b, off + i, none⟩ = some (.bool ls[i])) ∧ J pre wr ∧ pre.map (·.1) ++ spansP p 0 (ls.drop p) = spansL ls) (fun iv _ => ls.length + 1 - (intOf iv).toNat)
  case atStart => exact ⟨0, [], by omega, rfl, ⟨hcW, HLW.out⟩, h0, rfl⟩
  case round =>
    obtain ⟨p, pre, hp, rfl, ⟨hc, hl⟩, hJp, heq⟩ := hrel
    have HLR := Lib.hid hl
    clear hl
    by_cases hlt : p < ls.length
    · have hst := spansP_step (ls.drop p) p 0
      have hle := lead_le (ls.drop p)
      rw [List.length_drop] at hle
      rw [hst, Nat.zero_add, Nat.add_zero, List.drop_drop] at heq
      obtain ⟨m, hm⟩ : ∃ m, m = lead (ls.drop p) := ⟨_, rfl⟩
      have hix : idxF (ls.drop p) = if m < ls.length - p then (m : Int) else -1 := by rw [hm, idxF, List.length_drop]
      have HIX := Lib.hid hix
      have hil : ∀ i (h : i < (ls.drop p).length), wr.cell? ⟨b, off + p + i, none⟩ = some (.bool (ls.drop p)[i]) := fun i h => by
        rw [List.length_drop] at h
        rw [List.getElem_drop, Nat.add_assoc]; exact HLR.out (p + i) (by omega)
      have hdl : (ls.drop p).length = ls.length - p := List.length_drop ..
      have HCALL := Lib.hid (index_c b (off + p) (cap - p) (ls.drop p) wr (by omega) hil)
      rw [hdl] at HCALL
      rw [← hm] at heq hle
      have HEQ := Lib.hid heq
      clear hst heq hix hil hdl hm
      gi_wp2_with fail
      refine ⟨trivial, (callsIn_wide.2 HCALL.out).mono ?_⟩
      rintro e w' ⟨rfl, rfl⟩
      rw [HIX.out]
      by_cases hm0 : m = 0
      · subst hm0
        rw [if_pos (by omega)]
        have HEQ1 := Lib.hid (show pre.map (·.1) ++ spansP (p + 1) 0 (ls.drop (p + 1)) = spansL ls from HEQ.out)
        clear HEQ HIX HCALL
        gi_wp2
        refine ⟨(fun f h => by cases h), ?_⟩
        gi_wp2
        go_roundw
        case rel => exact ⟨p + 1, pre, by omega, by go_num, ⟨hc, HLR.out⟩, hJp, HEQ1.out⟩
        case measure => simp [intOf]; omega
      · have HEQ2 := Lib.hid (show (pre.map (·.1) ++ [(p, m)]) ++ spansP (p + m + 1) 0 (ls.drop (p + m + 1)) = spansL ls by
          rw [List.append_assoc, ← HEQ.out, oneRow_pos p hm0]; simp only [Nat.add_zero, Nat.add_assoc])
        have hlen : pre.length < (spansL ls).length := by rw [← HEQ2.out]; simp
        have hpm : p + m ≤ 4096 := by omega
        clear HEQ
        by_cases hmlt : m < ls.length - p
        · rw [if_pos hmlt]
          clear HIX HCALL
          obtain ⟨fn, tmps, assign, body, hy, hR⟩ := hY pre ⟨(p, m), hpm⟩ _ hJp hlen
          gi_wp2
          refine hR.mono ?_
          rintro e W3 (⟨rfl, hJ3, hk3⟩ | ⟨rfl, hJx3⟩)
          · have hc3 := hk3 _ _ _ hSl hc
            have HL3 := Lib.hid (show ∀ i (h : i < ls.length), W3.cell? ⟨b, off + i, none⟩ = some (.bool ls[i]) from fun i h => hk3 _ _ _ hSb (HLR.out i h))
            gi_wp2
            go_roundw
            case rel => exact ⟨p + m + 1, pre ++ [⟨(p, m), hpm⟩], by omega, by go_num, ⟨hc3, HL3.out⟩, hJ3, by rw [List.map_append]; exact HEQ2.out⟩
            case measure => simp [intOf]; omega
          · gi_wp2
            refine bodyPost_ret (results_none rfl _ _ _) rfl ?_
            exact ⟨⟨_, rfl⟩, .inr ⟨pre ++ [⟨(p, m), hpm⟩], ⟨_, by rw [List.map_append]; exact HEQ2.out⟩, hJx3⟩⟩
        · rw [if_neg hmlt]
          have hsub : (ls.length : Int) - (p : Int) = (m : Int) := by omega
          have hmpos : (0 : Int) < m := by omega
          clear HIX HCALL
          obtain ⟨fn, tmps, assign, body, hy, hR⟩ := hY pre ⟨(p, m), hpm⟩ _ hJp hlen
          gi_wp2
          refine hR.mono ?_
          rintro e W3 (⟨rfl, hJ3, hk3⟩ | ⟨rfl, hJx3⟩)
          · have hc3 := hk3 _ _ _ hSl hc
            have HL3 := Lib.hid (show ∀ i (h : i < ls.length), W3.cell? ⟨b, off + i, none⟩ = some (.bool ls[i]) from fun i h => hk3 _ _ _ hSb (HLR.out i h))
            gi_wp2
            go_roundw
            case rel => exact ⟨p + m + 1, pre ++ [⟨(p, m), hpm⟩], by omega, by go_num, ⟨hc3, HL3.out⟩, hJ3, by rw [List.map_append]; exact HEQ2.out⟩
            case measure => simp [intOf]; omega
          · gi_wp2
            refine bodyPost_ret (results_none rfl _ _ _) rfl ?_
            exact ⟨⟨_, rfl⟩, .inr ⟨pre ++ [⟨(p, m), hpm⟩], ⟨_, by rw [List.map_append]; exact HEQ2.out⟩, hJx3⟩⟩
    · gi_wp2
      go_end0
      have h0 : ls.drop p = [] := List.drop_eq_nil_of_le (by omega)
      rw [h0, show spansP p 0 [] = [] from rfl, List.append_nil] at heq
      exact ⟨⟨_, rfl⟩, .inl ⟨pre, heq, hJp⟩⟩

end Go.Proofs.Ytcnpmkigiklnnaa
/-
  A region whose operations call nothing may be walked inside a fence as it is outside of one.
  Conditions: each operation copies, loads, reckons an address or a number, or asks for a length, the lesser or the greater.
-/
namespace Go.Proofs.Ytcnpmkigiklnnaa
open Go.RowKit

/-- Such an operation. -/
def plainOp : Op → Bool
  | .move _ | .assign _ | .load .. | .indexAddr .. | .fieldAddr .. | .binOp .. => true
  | .call c => match c.callee with
    | .builtin .max | .builtin .min | .builtin .len => true
    | _ => false
  | _ => false

theorem run_value {P : Program} {s : Sem Value} {n : Next} {w w' : World} (h : Sem.run P (do let a ← s; pure (Next.value a)) w = .ok n w') : ∃ v, n = .value v := by
  rw [Sem.run_bind] at h
  cases hs : Sem.run P s w with
  | ok a w1 =>
    rw [hs] at h
    simp [Result.andThen] at h
    exact ⟨a, h.1.symm⟩
  | halt x w1 =>
    rw [hs] at h
    simp [Result.andThen] at h

theorem plain_run {P : Program} {ρ : Operand → Value} {o : Oper} {n : Next} {w w' : World} (hp : plainOp o.op = true) (h : (execOp ρ o).run P w = .ok n w') : ∃ v, n = .value v := by
  unfold execOp at h
  cases ho : o.op <;> rw [ho] at hp <;> try (simp [plainOp] at hp; done)
  case move x => rw [ho] at h; simp at h; exact ⟨_, h.1.symm⟩
  case assign x => rw [ho] at h; simp at h; exact ⟨_, h.1.symm⟩
  case load t a => rw [ho] at h; exact run_value h
  case fieldAddr t a f => rw [ho] at h; exact run_value h
  case indexAddr t a i => rw [ho] at h; exact run_value h
  case binOp op t x y u => rw [ho] at h; exact run_value h
  case call c =>
    rw [ho] at h
    simp only [plainOp] at hp
    cases hc : c.callee with
    | builtin b =>
      simp only [resolve, hc, Sem.run_bind, Sem.run_pure, Result.andThen_ok, invoke, builtin] at h
      rw [hc] at hp
      cases b <;> simp at hp
      · exact run_value h
      · exact run_value h
      · exact run_value h
    | _ => rw [hc] at hp; simp at hp

theorem plain_about {P : Program} {ρ : Operand → Value} {o : Oper} {w : World} (hp : plainOp o.op = true) : o.about P w ρ = none := by
  unfold Oper.about
  cases ho : o.op <;> simp only
  case call c =>
    rw [ho] at hp
    simp only [plainOp] at hp
    cases hc : c.callee with
    | builtin b => simp [resolve, hc, Sem.run_pure, Target.leads]
    | _ => rw [hc] at hp; simp at hp

theorem anyIn_of_any {F : Fence} {n : Nat} {P : Program} {md : Region.Mode} {ops : Array Oper} {Q Q' : Exit → Act → World → Prop} (hp : ∀ (i : Nat) (o : Oper), ops[i]? = some o → plainOp o.op = true)
    (hQp : ∀ c a w, ¬ Q (.panic c) a w) (hQo : ∀ a w, ¬ Q .outgrown a w) (hQn : ∀ a w, Q .normal a w → Q' .normal a w) :
    ∀ (fuel : Nat) (listed : Array Bool) (a : Act) (w : World), wpAny P md ops Q fuel listed a w → wpAnyIn F n P md ops Q' fuel listed a w
  | 0, _, _, _, h => ⟨h.1, hQn _ _ h.2⟩
  | fuel + 1, listed, a, w, h => by
    refine ⟨fun h0 => hQn _ _ (h.1 h0), fun i hi => ?_⟩
    have h1 := h.2 i hi
    unfold wpOp at h1
    unfold wpOpIn
    cases ho : ops[i]? with
    | none =>
      rw [ho] at h1
      exact anyIn_of_any hp hQp hQo hQn fuel _ a w h1
    | some o =>
      rw [ho] at h1
      have hpo := hp i o ho
      simp only at h1 ⊢
      split at h1
      · rename_i hw
        rw [if_pos hw]
        rcases h1 with h1 | ⟨_, a', w', h1⟩
        · unfold Oper.wp at h1
          refine ⟨fun f hf => (by rw [plain_about hpo] at hf; cases hf), ?_⟩
          have hs : o.semAt F.round a.eval = execOp a.eval o := by
            unfold Oper.semAt
            split
            · rename_i l c hc1 hc2
              rw [hc2] at hpo
              cases hpo
            · rfl
          rw [hs]
          cases hr : (execOp a.eval o).run P w with
          | ok nx w2 =>
            obtain ⟨v, rfl⟩ := plain_run hpo hr
            rw [hr] at h1
            exact anyIn_of_any hp hQp hQo hQn fuel _ _ _ h1
          | halt x w2 =>
            rw [hr] at h1
            cases x with
            | panic u => exact absurd h1 (hQp _ _ _)
            | _ => exact h1.elim
        · exact absurd h1 (hQo _ _)
      · rename_i hw
        rw [if_neg hw]
        exact ⟨fun f hf => (by rw [plain_about hpo] at hf; cases hf), anyIn_of_any hp hQp hQo hQn fuel _ _ _ h1⟩

/-- Such a region, by a walk that holds S. -/
theorem wpIn_region_held {F : Fence} {n id : Nat} {P : Program} {l : List Oper} {Q : Exit → Act → World → Prop} {S : World → Prop} {a : Act} {w : World} (hm : P.follows .mixedOrders = true) (hp : l.all (fun o => plainOp o.op) = true) (hS : S w.drew)
    (h : S w.drew → wpAnyH P .any l.toArray (fun e a w => e = .normal ∧ Q .normal a w) S l.toArray.size (Array.replicate l.toArray.size false) a w.drew) : (Code.region id l.toArray true).wpIn F n P Q a w := by
  refine wpIn_region_any hm (anyIn_of_any (Q := fun e a w => e = .normal ∧ Q .normal a w) (fun i o ho => ?_) (fun _ _ _ h => by cases h.1) (fun _ _ h => by cases h.1) (fun _ _ h => h.2) _ _ _ _ (wpAny_of_held _ _ _ _ (h hS)))
  have h1 : l[i]? = some o := by simpa using ho
  obtain ⟨hi, rfl⟩ := List.getElem?_eq_some_iff.1 h1
  exact List.all_eq_true.1 hp _ (List.getElem_mem hi)

end Go.Proofs.Ytcnpmkigiklnnaa
/-
  memory.lives: how many of a part of the words are live; what was in memory stays.
  Conditions: the part lies within the memory.
-/
namespace Go.Proofs.Ytcnpmkigiklnnaa
open Go.RowKit Go.Shelf
attribute [local go_sem] Oper.semAt_some

set_option maxRecDepth 100000 in
theorem spans_c (v : Value) (hv : ∃ p n c, v = .slice p n c) (W : World) : Calls Try.prog 88 #[v] W fun e w' => e = .returned (.func (.func 101) #[] #[.pointer (some ⟨W.heap.size, 0, none⟩)]) ∧ w' = W.alloc (.cells #[v] 44) := by
  obtain ⟨p, n, c, rfl⟩ := hv
  go_enter Try.func88, Try.ntmps88
  go_wp2
  go_ret
  exact ⟨rfl, rfl⟩

theorem spansP_length (l : List Bool) (a n : Nat) : (spansP a n l).length ≤ l.length + 1 := by
  induction l generalizing a n with
  | nil =>
    by_cases h : n = 0
    · subst h; simp [spansP, oneRow_zero]
    · simp [spansP, oneRow_pos a h]
  | cons b t ih =>
    cases b with
    | true => have := ih a (n + 1); simp only [spansP, List.length_cons]; omega
    | false =>
      have := ih (a + n + 1) 0
      simp only [spansP, List.length_append, List.length_cons]
      by_cases h : n = 0
      · subst h; simp only [oneRow_zero, List.length_nil]; omega
      · simp only [oneRow_pos a h, List.length_singleton]; omega
theorem ovlAll_rows (x y : Nat) (pre : List RowS) : ovlAll x y (pre.map (·.1)) ≤ pre.length * 4096 := by
  induction pre with
  | nil => simp [ovlAll]
  | cons s t ih =>
    have hs := s.2
    simp only [ovlAll, List.map_cons, List.sum_cons, List.length_cons] at ih ⊢
    have : ovl x y s.1 ≤ 4096 := by simp only [ovl]; omega
    omega

set_option maxRecDepth 100000 in
set_option maxHeartbeats 4000000 in
theorem lives_c (pw : Option Addr) (nw cw b off cap : Nat) (ls : List Bool) (f : Bool) (x k : Nat) (w : World) (hmax : ls.length ≤ 4096) (hcap : ls.length ≤ cap) (hk1 : 1 ≤ k) (hxk : x + k ≤ ls.length)
    (hl : ∀ i (h : i < ls.length), w.cell? ⟨b, off + i, none⟩ = some (.bool ls[i])) :
    Calls Try.prog 70 #[.agg #[.slice pw nw cw, .slice (some ⟨b, off, none⟩) ls.length cap, .bool f], .int .i64 (x : Int), .int .i64 (k : Int)] w fun e w' => e = .returned (.int .i64 ((cnt x (x + k) 0 ls : Nat) : Int)) ∧ Below w.heap.size w w' := by
  refine (callsIn_wide (n := 9)).1 ?_
  refine callsIn_of_wp_marks Try.func70 rfl trivial ?_ rfl
  simp only [Try.ntmps70, List.size_toArray, List.length_cons, List.length_nil, Nat.reduceAdd, Nat.reduceSub, Array.replicate_succ, Array.replicate_zero, List.push_toArray, List.append_toArray, List.nil_append, List.cons_append]
  have HL := Lib.hid hl
  clear hl
  gi_wp2
  refine wpIn_scope ?_
  gi_wp2
  refine wpIn_label ?_
  gi_wp2_with fail
  refine ⟨trivial, ?_⟩
  refine (callsIn_wide.2 (spans_c _ ⟨_, _, _, rfl⟩ _)).mono ?_
  rintro e w1 ⟨rfl, hw1⟩
  have hz1 : w1.heap.size = w.heap.size + 1 + 1 + 1 + 1 + 1 := by rw [hw1]; simp
  have hB1 : Below w.heap.size w w1 := by rw [hw1]; exact (((((Below.refl _ _).alloc (Nat.le_refl _) _).alloc (by simp) _).alloc (by simp; omega) _).alloc (by simp; omega) _).alloc (by simp; omega) _
  have hn1 : Boxed w1 (w.heap.size + 1 + 1 + 1) 3 (.int .i64 0) := by
    rw [hw1]
    refine Boxed.alloc ?_ _
    have := Boxed.new (((w.alloc (.cells #[.slice pw nw cw, .slice (some ⟨b, off, none⟩) ls.length cap, .bool f] 46)).alloc (.cells #[.int .i64 x] 3)).alloc (.cells #[.int .i64 k] 3)) 3 (.int .i64 0)
    simpa using this
  have hx1 : Boxed w1 (w.heap.size + 1) 3 (.int .i64 x) := by
    rw [hw1]
    refine Boxed.alloc (Boxed.alloc (Boxed.alloc ?_ _) _) _
    have := Boxed.new (w.alloc (.cells #[.slice pw nw cw, .slice (some ⟨b, off, none⟩) ls.length cap, .bool f] 46)) 3 (.int .i64 x)
    simpa using this
  have hkb : Boxed w1 (w.heap.size + 1 + 1) 3 (.int .i64 k) := by
    rw [hw1]
    refine Boxed.alloc (Boxed.alloc ?_ _) _
    have := Boxed.new ((w.alloc (.cells #[.slice pw nw cw, .slice (some ⟨b, off, none⟩) ls.length cap, .bool f] 46)).alloc (.cells #[.int .i64 x] 3)) 3 (.int .i64 k)
    simpa using this
  have hs1 : w1.cell? ⟨w.heap.size + 1 + 1 + 1 + 1, 0, none⟩ = some (.slice (some ⟨b, off, none⟩) ls.length cap) := by
    have := (Boxed.new ((((w.alloc (.cells #[.slice pw nw cw, .slice (some ⟨b, off, none⟩) ls.length cap, .bool f] 46)).alloc (.cells #[.int .i64 x] 3)).alloc (.cells #[.int .i64 k] 3)).alloc (.cells #[.int .i64 0] 3)) 44 (.slice (some ⟨b, off, none⟩) ls.length cap)).cell
    rw [hw1]
    simpa using this
  have hl1 : ∀ i (h : i < ls.length), w1.cell? ⟨b, off + i, none⟩ = some (.bool ls[i]) := fun i h => below_cell hB1 (HL.out i h)
  have hbS : ¬ b = w.heap.size + 1 + 1 + 1 := by
    intro e
    have := World.block_lt_of_cell? w _ (HL.out 0 (by omega))
    simp only at this
    omega
  have HL1 := Lib.hid hl1
  have HHB := Lib.hid hB1
  clear hw1 hl1
  gi_wp2
  generalize hz : w.heap.size = z at *
  refine wpIn_rangeBound rfl (by omega) (gf := 101) (bd := #[]) (lb := #[.pointer (some ⟨z + 1 + 1 + 1 + 1, 0, none⟩)]) rfl trivial (enters_of Try.func101 (by kernel_rfl) rfl)
    (spans_stops 8 (by omega) (fun q => q = z + 1 + 1 + 1) (z + 1 + 1 + 1 + 1) b off cap ls w1 (by omega) hbS hmax hcap hs1 HL1.out) (fun h k => h.trans k) (fun W l o o' _ => KeepsCells.turn _ W l o o') (Below.refl _ _) (fun _ => rfl)
    (fun pre W => ((Boxed W (z + 1 + 1 + 1) 3 (.int .i64 ((ovlAll x (x + k) (pre.map (·.1)) : Nat) : Int)) ∧ Boxed W (z + 1) 3 (.int .i64 x)) ∧ Boxed W (z + 1 + 1) 3 (.int .i64 k)) ∧ Below z w W)
    (fun c p W => (Boxed W (z + 1 + 1 + 1) 3 (.int .i64 ((ovlAll x (x + k) (p.dropLast.map (·.1)) : Nat) : Int)) ∧ (c = .exit 0 ∧ ∃ s, p.getLast? = some s ∧ x + k ≤ s.1.1)) ∧ Below z w W)
    ?hI ?hIx ?h0
    (fun s a' W => ∃ blk, (a' = { tmps := #[.agg #[.slice pw nw cw, .slice (some ⟨b, off, none⟩) ls.length cap, .bool f], .int .i64 x, .int .i64 k, .pointer (some ⟨z, 0, none⟩), .pointer (some ⟨z + 1, 0, none⟩), .pointer (some ⟨z + 1 + 1, 0, none⟩), .int .i64 0, .pointer (some ⟨z + 1 + 1 + 1, 0, none⟩), .pointer (some ⟨blk, 0, none⟩), undef, undef, .pointer (some ⟨z, 1, none⟩), .slice (some ⟨b, off, none⟩) ls.length cap, .func (.func 101) #[] #[.pointer (some ⟨z + 1 + 1 + 1 + 1, 0, none⟩)], rowV s, undef, undef, undef, undef, undef, undef, undef, undef, undef, undef, undef, undef, undef, undef, undef, undef, undef, undef, undef, undef, undef, undef, undef, undef, undef, undef, undef, undef, undef, undef], defers := [] } ∧ blk ≠ z + 1 + 1 + 1) ∧ W.heap[blk]? = some (.cells #[.int .i64 s.1.1, .int .i64 s.1.2] 140 (0, 0)))
    ?hAx ?assign ?body ?done ?stop
  case hI => exact OwnFrom.and (OwnFrom.and (OwnFrom.and (Own.from (boxed_own _ _ (fun pre : List RowS => Value.int .i64 ((ovlAll x (x + k) (pre.map (·.1)) : Nat) : Int))) _) ((boxed_own _ _ _).from _)) ((boxed_own _ _ _).from _)) (ownFrom_below (Nat.le_of_eq hz.symm) (by omega))
  case hIx => exact fun c => OwnFrom.and (OwnFrom.and (Own.from (boxed_own _ _ (fun p : List RowS => Value.int .i64 ((ovlAll x (x + k) (p.dropLast.map (·.1)) : Nat) : Int))) _) (ownFrom_pure _ _)) (ownFrom_below (Nat.le_of_eq hz.symm) (by omega))
  case h0 => exact ⟨⟨⟨hn1, hx1⟩, hkb⟩, HHB.out⟩
  case hAx =>
    rintro s a' _ X Y row ⟨blk, hpure, hs⟩ hg hr
    refine ⟨blk, hpure, (hg.block blk (Array.getElem?_eq_some_iff.1 hs).1 fun e => ?_).trans hs⟩
    obtain ⟨_, o, ho, hc⟩ := hr blk e.symm
    rw [hs] at ho
    cases ho
    cases hc
  case assign =>
    intro l pre s W K hi hK
    have hlt := hi.1.1.1.lt
    gi_wp2
    exact hK _ _ ((KeepsOthers.alloc _ _).from _) (KeepsCells.keeps (Keeps.alloc _ _ _)) ⟨⟨⟨hi.1.1.1.alloc _, hi.1.1.2.alloc _⟩, hi.1.2.alloc _⟩, hi.2.alloc (by have := hi.2.size; omega) _⟩ ⟨W.heap.size, ⟨rfl, by omega⟩, World.alloc_heap_new W _⟩
  case body =>
    rintro l pre s a' W hl _ ⟨⟨⟨hbn, hbx⟩, hbk⟩, hB⟩ ⟨blk, ⟨rfl, hne⟩, hrow⟩ hlen
    have hc0 : W.cell? ⟨blk, 0, none⟩ = some (.int .i64 s.1.1) := by simp [World.cell?, hrow]
    have hc1 : W.cell? ⟨blk, 1, none⟩ = some (.int .i64 s.1.2) := by simp [World.cell?, hrow]
    have hcn := hbn.cell
    have hfn := hbn.frozen
    have hcx := hbx.cell
    have hck := hbk.cell
    have hmx : Try.prog.follows .mixedOrders = true := by kernel_rfl
    obtain ⟨⟨a, m⟩, ham⟩ := s
    simp only at ham hc0 hc1
    have hw1 : IntKind.i64.wrap ((a : Int) + m) = (a : Int) + m := IntWalk.i64_in _ (by omega)
    have hw2 : IntKind.i64.wrap ((x : Int) + k) = (x : Int) + k := IntWalk.i64_in _ (by omega)
    gi_wp2
    refine wpIn_region_held (S := fun w' => w'.cell? ⟨blk, 0, none⟩ = some (.int .i64 a) ∧ w'.cell? ⟨blk, 1, none⟩ = some (.int .i64 m) ∧ w'.cell? ⟨z + 1, 0, none⟩ = some (.int .i64 x) ∧ w'.cell? ⟨z + 1 + 1, 0, none⟩ = some (.int .i64 k)) hmx (by kernel_rfl) ⟨hc0, hc1, hcx, hck⟩ (fun hHeld => ?_)
    refine wpAnyH_take (i := 0) (v := (.pointer (some ⟨blk, 0, none⟩))) rfl (by kernel_rfl) (by kernel_rfl) (by kernel_rfl) (fun _ _ _ h => by cases h.1) (Or.inl ⟨by rfl, ?_⟩) (by assumption) ?_
    · intro w hSw
      go_simp
    simp only [Act.put, List.getElem_toArray, List.getElem_cons_zero, List.setIfInBounds_toArray, List.set_cons_succ, List.set_cons_zero]
    refine wpAnyH_take (i := 1) (v := (.int .i64 a)) rfl (by kernel_rfl) (by kernel_rfl) (by kernel_rfl) (fun _ _ _ h => by cases h.1) (Or.inl ⟨by rfl, ?_⟩) (by assumption) ?_
    · intro w hSw
      go_simp
    simp only [Act.put, List.getElem_toArray, List.getElem_cons_succ, List.getElem_cons_zero, List.setIfInBounds_toArray, List.set_cons_succ, List.set_cons_zero]
    refine wpAnyH_take (i := 2) (v := (.int .i64 x)) rfl (by kernel_rfl) (by kernel_rfl) (by kernel_rfl) (fun _ _ _ h => by cases h.1) (Or.inl ⟨by rfl, ?_⟩) (by assumption) ?_
    · intro w hSw
      go_simp
    simp only [Act.put, List.getElem_toArray, List.getElem_cons_succ, List.getElem_cons_zero, List.setIfInBounds_toArray, List.set_cons_succ, List.set_cons_zero]
    refine wpAnyH_take (i := 4) (v := (.pointer (some ⟨blk, 0, none⟩))) rfl (by kernel_rfl) (by kernel_rfl) (by kernel_rfl) (fun _ _ _ h => by cases h.1) (Or.inl ⟨by rfl, ?_⟩) (by assumption) ?_
    · intro w hSw
      go_simp
    simp only [Act.put, List.getElem_toArray, List.getElem_cons_succ, List.getElem_cons_zero, List.setIfInBounds_toArray, List.set_cons_succ, List.set_cons_zero]
    refine wpAnyH_take (i := 5) (v := (.int .i64 a)) rfl (by kernel_rfl) (by kernel_rfl) (by kernel_rfl) (fun _ _ _ h => by cases h.1) (Or.inl ⟨by rfl, ?_⟩) (by assumption) ?_
    · intro w hSw
      go_simp
    simp only [Act.put, List.getElem_toArray, List.getElem_cons_succ, List.getElem_cons_zero, List.setIfInBounds_toArray, List.set_cons_succ, List.set_cons_zero]
    refine wpAnyH_take (i := 6) (v := (.pointer (some ⟨blk, 1, none⟩))) rfl (by kernel_rfl) (by kernel_rfl) (by kernel_rfl) (fun _ _ _ h => by cases h.1) (Or.inl ⟨by rfl, ?_⟩) (by assumption) ?_
    · intro w hSw
      go_simp
    simp only [Act.put, List.getElem_toArray, List.getElem_cons_succ, List.getElem_cons_zero, List.setIfInBounds_toArray, List.set_cons_succ, List.set_cons_zero]
    refine wpAnyH_take (i := 7) (v := (.int .i64 m)) rfl (by kernel_rfl) (by kernel_rfl) (by kernel_rfl) (fun _ _ _ h => by cases h.1) (Or.inl ⟨by rfl, ?_⟩) (by assumption) ?_
    · intro w hSw
      go_simp
    simp only [Act.put, List.getElem_toArray, List.getElem_cons_succ, List.getElem_cons_zero, List.setIfInBounds_toArray, List.set_cons_succ, List.set_cons_zero]
    refine wpAnyH_take (i := 8) (v := (.int .i64 ((a : Int) + m))) rfl (by kernel_rfl) (by kernel_rfl) (by kernel_rfl) (fun _ _ _ h => by cases h.1) (Or.inl ⟨by rfl, ?_⟩) (by assumption) ?_
    · intro w hSw
      go_simp
    simp only [Act.put, List.getElem_toArray, List.getElem_cons_succ, List.getElem_cons_zero, List.setIfInBounds_toArray, List.set_cons_succ, List.set_cons_zero]
    refine wpAnyH_take (i := 9) (v := (.int .i64 x)) rfl (by kernel_rfl) (by kernel_rfl) (by kernel_rfl) (fun _ _ _ h => by cases h.1) (Or.inl ⟨by rfl, ?_⟩) (by assumption) ?_
    · intro w hSw
      go_simp
    simp only [Act.put, List.getElem_toArray, List.getElem_cons_succ, List.getElem_cons_zero, List.setIfInBounds_toArray, List.set_cons_succ, List.set_cons_zero]
    refine wpAnyH_take (i := 10) (v := (.int .i64 k)) rfl (by kernel_rfl) (by kernel_rfl) (by kernel_rfl) (fun _ _ _ h => by cases h.1) (Or.inl ⟨by rfl, ?_⟩) (by assumption) ?_
    · intro w hSw
      go_simp
    simp only [Act.put, List.getElem_toArray, List.getElem_cons_succ, List.getElem_cons_zero, List.setIfInBounds_toArray, List.set_cons_succ, List.set_cons_zero]
    refine wpAnyH_take (i := 11) (v := (.int .i64 ((x : Int) + k))) rfl (by kernel_rfl) (by kernel_rfl) (by kernel_rfl) (fun _ _ _ h => by cases h.1) (Or.inl ⟨by rfl, ?_⟩) (by assumption) ?_
    · intro w hSw
      go_simp
    simp only [Act.put, List.getElem_toArray, List.getElem_cons_succ, List.getElem_cons_zero, List.setIfInBounds_toArray, List.set_cons_succ, List.set_cons_zero]
    refine wpAnyH_take (i := 3) (v := (.int .i64 ((max a x : Nat) : Int))) rfl (by kernel_rfl) (by kernel_rfl) (by kernel_rfl) (fun _ _ _ h => by cases h.1) (Or.inl ⟨by rfl, ?_⟩) (by assumption) ?_
    · intro w hSw
      go_simp
      split <;> omega
    simp only [Act.put, List.getElem_toArray, List.getElem_cons_succ, List.getElem_cons_zero, List.setIfInBounds_toArray, List.set_cons_succ, List.set_cons_zero]
    refine wpAnyH_take (i := 12) (v := (.int .i64 ((min (a + m) (x + k) : Nat) : Int))) rfl (by kernel_rfl) (by kernel_rfl) (by kernel_rfl) (fun _ _ _ h => by cases h.1) (Or.inl ⟨by rfl, ?_⟩) (by assumption) ?_
    · intro w hSw
      go_simp
      split <;> omega
    simp only [Act.put, List.getElem_toArray, List.getElem_cons_succ, List.getElem_cons_zero, List.setIfInBounds_toArray, List.set_cons_succ, List.set_cons_zero]
    refine wpAnyH_take (i := 13) (v := (.int .i64 ((max a x : Nat) : Int))) rfl (by kernel_rfl) (by kernel_rfl) (by kernel_rfl) (fun _ _ _ h => by cases h.1) (Or.inl ⟨by rfl, ?_⟩) (by assumption) ?_
    · intro w hSw
      go_simp
    simp only [Act.put, List.getElem_toArray, List.getElem_cons_succ, List.getElem_cons_zero, List.setIfInBounds_toArray, List.set_cons_succ, List.set_cons_zero]
    refine wpAnyH_take (i := 14) (v := (.int .i64 ((min (a + m) (x + k) : Nat) : Int))) rfl (by kernel_rfl) (by kernel_rfl) (by kernel_rfl) (fun _ _ _ h => by cases h.1) (Or.inl ⟨by rfl, ?_⟩) (by assumption) ?_
    · intro w hSw
      go_simp
    simp only [Act.put, List.getElem_toArray, List.getElem_cons_succ, List.getElem_cons_zero, List.setIfInBounds_toArray, List.set_cons_succ, List.set_cons_zero]
    refine wpAnyH_done (by kernel_rfl) (And.intro rfl ?_) _
    have hov : ovlAll x (x + k) ((pre ++ [(⟨(a, m), ham⟩ : RowS)]).map (·.1)) = ovlAll x (x + k) (pre.map (·.1)) + (min (a + m) (x + k) - max a x) := by
      rw [List.map_append, List.map_singleton, ovlAll_snoc]; rfl
    obtain ⟨lo, hlo⟩ : ∃ lo, lo = max a x := ⟨_, rfl⟩
    obtain ⟨hi, hhi⟩ : ∃ hi, hi = min (a + m) (x + k) := ⟨_, rfl⟩
    rw [← hlo, ← hhi] at hov ⊢
    have hlo' : lo ≤ 8192 := by omega
    have hhi' : hi ≤ 8192 := by omega
    have HOV := Lib.hid hov
    clear hov hlo hhi hHeld
    by_cases hst : x + k ≤ a
    · gi_wp2
      refine ⟨(KeepsOthers.drew _).from _, ⟨⟨?_, rfl, ?_⟩, hB.drew⟩⟩
      · rw [List.map_append, List.map_singleton, List.dropLast_concat]; exact hbn
      · first | exact ⟨⟨(a, m), ham⟩, by simp, hst⟩ | exact ⟨a, m, ham, by simp, hst⟩ | exact ⟨a, ⟨m, ham, by simp⟩, hst⟩ | (simp; omega)
    · by_cases hlt : lo < hi
      · have hnl := hbn.lt
        obtain ⟨ov, hovp⟩ : ∃ ov, ov = ovlAll x (x + k) (pre.map (·.1)) := ⟨_, rfl⟩
        have hovb : ov ≤ 33554432 := by
          have h1 := ovlAll_rows x (x + k) pre
          have h2 := spansP_length ls 0 0
          have h3 : pre.length < (spansP 0 0 ls).length := hlen
          have h4 : pre.length * 4096 ≤ 8192 * 4096 := Nat.mul_le_mul_right _ (by omega)
          omega
        rw [← hovp] at hbn hcn
        have HOV4 := Lib.hid (show ovlAll x (x + k) ((pre ++ [(⟨(a, m), ham⟩ : RowS)]).map (·.1)) = ov + (hi - lo) by rw [HOV.out, hovp])
        clear hovp HOV
        gi_wp2
        refine ⟨((KeepsOthers.setCell _ _ _).trans (KeepsOthers.drew _)).from _, KeepsCells.keeps ((Keeps.setCell W (S := fun q => q = z + 1 + 1 + 1) (p := ⟨z + 1 + 1 + 1, 0, none⟩) rfl _).trans ⟨rfl, rfl, rfl, Nat.le_refl _, fun _ _ _ => rfl⟩), ⟨⟨⟨?_, hbx.other (by omega) _⟩, hbk.other (by omega) _⟩, (hB.setCell (p := ⟨z + 1 + 1 + 1, 0, none⟩) (by simp; omega) _).drew⟩⟩
        rw [HOV4.out, show ((ov + (hi - lo) : Nat) : Int) = (ov : Int) + ((hi : Int) - lo) by omega]
        exact hbn.set _
      · have HOV2 : ovlAll x (x + k) ((pre ++ [(⟨(a, m), ham⟩ : RowS)]).map (·.1)) = ovlAll x (x + k) (pre.map (·.1)) := by rw [HOV.out]; omega
        have HOV3 := Lib.hid HOV2
        clear HOV2
        gi_wp2
        exact ⟨(KeepsOthers.drew _).from _, KeepsCells.keeps ⟨rfl, rfl, rfl, Nat.le_refl _, fun _ _ _ => rfl⟩, ⟨⟨⟨by rw [HOV3.out]; exact hbn, hbx⟩, hbk⟩, hB.drew⟩⟩
  case done =>
    rintro D xs W hD hxs ⟨⟨⟨hbn, _⟩, _⟩, hB⟩ hK
    have hcn := hbn.cell
    have HRES := Lib.hid (ovl_spansL x (x + k) (by omega) ls)
    gi_wp2
    show bodyPostM Fence.wide 9 Try.prog Try.f70 _ Exit.ret _ _
    refine leaves_marks (B := z) [D] _ ((Marks.nil z W).cons (by omega) (fun h => by cases h) hK) fun W' hW' => ⟨_, results_tmp rfl _ _ _, ?_, by rw [hz]; exact hB.trans hW'⟩
    exact ret_int (by rw [HRES.out])
  case stop =>
    rintro D c p W hD ⟨suf, hsuf⟩ ⟨⟨hbn, rfl, ⟨⟨a, m⟩, ham⟩, hlast, hst⟩, hB⟩ hK
    have hcn := hbn.cell
    have hres : ovlAll x (x + k) (p.dropLast.map (·.1)) = cnt x (x + k) 0 ls := by
      refine ovl_stop x (x + k) (by omega) ls _ (a, m) suf ?_ hst
      have hp : p = p.dropLast ++ [⟨(a, m), ham⟩] := by
        have hne : p ≠ [] := by rintro rfl; cases hlast
        have := List.dropLast_concat_getLast hne
        rw [List.getLast?_eq_some_getLast hne] at hlast
        injection hlast with hlast
        rw [hlast] at this
        exact this.symm
      rw [← hsuf]
      conv => rhs; rw [hp]
      simp
    have HRES := Lib.hid hres
    clear hres
    gi_wp2
    show bodyPostM Fence.wide 9 Try.prog Try.f70 _ Exit.ret _ _
    refine leaves_marks (B := z) [D] _ ((Marks.nil z W).cons (by omega) (fun h => by cases h) hK) fun W' hW' => ⟨_, results_tmp rfl _ _ _, ?_, by rw [hz]; exact hB.trans hW'⟩
    exact ret_int (by rw [← HRES.out, List.map_dropLast])

end Go.Proofs.Ytcnpmkigiklnnaa
/-
  memory.Live: an error, or the memory in memory of its own with some words live; what was in memory stays.
  Conditions: the memory reads as these lists.
-/
namespace Go.Proofs.Ytcnpmkigiklnnaa
open Go.RowKit Go.Shelf

set_option maxRecDepth 100000 in
set_option maxHeartbeats 4000000 in
theorem live_no (v : Value) (ws : List Int) (ls : List Bool) (f : Bool) (a k : Int) (W : World) (hv : MemAt W v ws ls f) (hcap0 : ∀ x y p n c, v = .agg #[x, .slice p n c, y] → n ≤ c) (hw : ws.length ≤ 9223372036854775807) (hk2 : k ≤ 9223372036854775807) (c : Int)
    (hc : (rightB ws ls = false ∧ c = 120) ∨ (rightB ws ls = true ∧ thereB ws.length a k = false ∧ c = 2) ∨ (rightB ws ls = true ∧ thereB ws.length a k = true ∧ cnt a.toNat (a.toNat + k.toNat) 0 ls ≠ 0 ∧ c = 5)) :
    Calls Try.prog 46 #[v, .int .i64 a, .int .i64 k] W fun e w' => e = .returned (.tuple #[memZ, .int .i64 c]) ∧ Below W.heap.size W w' := by
  have hm := hv
  obtain ⟨vw, vl, rfl, ⟨pw, cw, rfl, hcw⟩, pl, cl, rfl, hcl⟩ := hv
  have hcap := hcap0 _ _ _ _ _ rfl
  clear hcap0
  have HM := Lib.hid hm
  have HCL := Lib.hid hcl
  clear hm hcw hcl
  obtain ⟨z, hz⟩ : ∃ z, z = W.heap.size := ⟨_, rfl⟩
  obtain ⟨wo, hwo⟩ : ∃ wo : World, wo = (W.alloc (.cells #[.slice pw ws.length cw, .slice pl ls.length cl, .bool f] 46)).alloc (.cells #[.slice none 0 0, .slice none 0 0, .bool false] 46) := ⟨_, rfl⟩
  have hZ : MBox wo z (.slice pw ws.length cw) (.slice pl ls.length cl) f := by rw [hwo, hz]; exact (MBox.new _ _ _ _).alloc _
  have hR : MBox wo (z + 1) (.slice none 0 0) (.slice none 0 0) false := by
    have := MBox.new (W.alloc (.cells #[.slice pw ws.length cw, .slice pl ls.length cl, .bool f] 46)) (.slice none 0 0) (.slice none 0 0) false
    rw [World.size_alloc] at this
    rw [hwo, hz]; exact this
  have hB : Below W.heap.size W wo := by rw [hwo]; exact ((Below.refl _ _).alloc (Nat.le_refl _) _).alloc (by simp) _
  have hsz : z + 2 ≤ wo.heap.size := by rw [hwo, hz]; simp
  have HZ := Lib.hid hZ
  have HR := Lib.hid hR
  clear hZ hR
  go_enter Try.func46, Try.ntmps46
  go_wp2_with fail
  rw [← hwo, ← hz]
  have hzW : W.heap.size ≤ z := Nat.le_of_eq hz.symm
  clear hwo hz
  refine (check_c _ ws ls f _ (HM.out.below hB) hw).mono ?_
  rintro e w1 ⟨rfl, hb1⟩
  have HZ1 := Lib.hid (HZ.out.below hb1)
  have HR1 := Lib.hid (HR.out.below hb1)
  have hB1 := below_then hB hB.size hb1
  have hsz1 := Nat.le_trans hsz hb1.size
  clear hb1 HZ HR hB hsz
  rcases hc with ⟨hr, rfl⟩ | ⟨hr, ht, rfl⟩ | ⟨hr, ht, hc, rfl⟩
  · rw [chkM_no hr]
    obtain ⟨⟨hr0, hr1, hr2⟩, hs0, hs1, hs2⟩ := mbox_cells HR1.out
    have hBe := ((hB1.setCell (p := ⟨z + 1, 0, none⟩) (by simp; omega) (.slice none 0 0)).setCell (p := ⟨z + 1, 1, none⟩) (by simp; omega) (.slice none 0 0)).setCell (p := ⟨z + 1, 2, none⟩) (by simp; omega) (.bool false)
    go_wp2
    exact bodyPost_ret (v := .tuple #[memZ, .int .i64 120]) (by simp [results, Try.results46, go_sem, hr0, hr1, hr2, memZ]) rfl ⟨rfl, hBe⟩
  · rw [chkM_yes hr]
    obtain ⟨⟨hd0, hd1, hd2⟩, _⟩ := mbox_cells HZ1.out
    go_wp2_with fail
    refine (there_c _ ws.length cw _ f a k hk2 hw _).mono ?_
    rintro e w2 ⟨rfl, hb2⟩
    have HZ2 := Lib.hid (HZ1.out.below hb2)
    have HR2 := Lib.hid (HR1.out.below hb2)
    have hB2 := below_then hB1 hB1.size hb2
    have hsz2 := Nat.le_trans hsz1 hb2.size
    clear hb2 hB1 hsz1 HR1 HZ1 hd0 hd1 hd2
    rw [ht]
    obtain ⟨⟨hr0, hr1, hr2⟩, hs0, hs1, hs2⟩ := mbox_cells HR2.out
    have hBe := ((hB2.setCell (p := ⟨z + 1, 0, none⟩) (by simp; omega) (.slice none 0 0)).setCell (p := ⟨z + 1, 1, none⟩) (by simp; omega) (.slice none 0 0)).setCell (p := ⟨z + 1, 2, none⟩) (by simp; omega) (.bool false)
    go_wp2
    exact bodyPost_ret (v := .tuple #[memZ, .int .i64 2]) (by simp [results, Try.results46, go_sem, hr0, hr1, hr2, memZ]) rfl ⟨rfl, hBe⟩
  · rw [chkM_yes hr]
    obtain ⟨⟨hd0, hd1, hd2⟩, _⟩ := mbox_cells HZ1.out
    go_wp2_with fail
    refine (there_c _ ws.length cw _ f a k hk2 hw _).mono ?_
    rintro e w2 ⟨rfl, hb2⟩
    have HZ2 := Lib.hid (HZ1.out.below hb2)
    have HR2 := Lib.hid (HR1.out.below hb2)
    have hB2 := below_then hB1 hB1.size hb2
    have hsz2 := Nat.le_trans hsz1 hb2.size
    clear hb2 hB1 hsz1 HR1 HZ1 hd0 hd1 hd2
    rw [ht]
    obtain ⟨t1, t2, t3⟩ := thereB_iff.1 ht
    obtain ⟨a, rfl⟩ := Int.eq_ofNat_of_zero_le t2
    obtain ⟨k, rfl⟩ := Int.eq_ofNat_of_zero_le (show 0 ≤ k by omega)
    obtain ⟨hn1, hn2, hlen, hmay⟩ := rightB_iff.1 hr
    clear hmay
    simp only [Int.toNat_natCast] at hc ⊢
    obtain ⟨bl, ol, rfl, hcs⟩ := HCL.out (by intro e; rw [e] at hlen; simp at hlen; omega)
    have HCS := Lib.hid hcs
    have HLEN := Lib.hid hlen
    clear hcs hlen HCL
    obtain ⟨⟨hd0, hd1, hd2⟩, _⟩ := mbox_cells HZ2.out
    go_wp2_with fail
    refine (lives_c pw ws.length cw bl ol cl ls f a k _ (by rw [HLEN.out]; omega) hcap (by omega) (by rw [HLEN.out]; omega) (fun i h => below_cell hB2 (HCS.out i h))).mono ?_
    rintro e w3 ⟨rfl, hb3⟩
    have HZ3 := Lib.hid (HZ2.out.below hb3)
    have HR3 := Lib.hid (HR2.out.below hb3)
    have hB3 := below_then hB2 hB2.size hb3
    have hsz3 := Nat.le_trans hsz2 hb3.size
    clear hb3 hB2 hsz2 HR2 HZ2 hd0 hd1 hd2
    obtain ⟨q, hq⟩ : ∃ q, q = cnt a (a + k) 0 ls := ⟨_, rfl⟩
    rw [← hq] at hc ⊢
    clear hq
    have hq1 : (0 : Int) < q := by omega
    obtain ⟨⟨hr0, hr1, hr2⟩, hs0, hs1, hs2⟩ := mbox_cells HR3.out
    have hBe := ((hB3.setCell (p := ⟨z + 1, 0, none⟩) (by simp; omega) (.slice none 0 0)).setCell (p := ⟨z + 1, 1, none⟩) (by simp; omega) (.slice none 0 0)).setCell (p := ⟨z + 1, 2, none⟩) (by simp; omega) (.bool false)
    go_wp2
    exact bodyPost_ret (v := .tuple #[memZ, .int .i64 5]) (by simp [results, Try.results46, go_sem, hr0, hr1, hr2, memZ]) rfl ⟨rfl, hBe⟩

/-- What such a call hands over. -/
def LiveOk (B : Nat) (ws : List Int) (ls : List Bool) (f : Bool) (e : Ending) (w' : World) : Prop :=
  ∃ v', e = .returned (.tuple #[v', .int .i64 0]) ∧ OwnsMem w' B v' ws ls f

set_option maxRecDepth 100000 in
set_option maxHeartbeats 4000000 in
theorem live_yes (v : Value) (ws : List Int) (ls : List Bool) (f : Bool) (a k : Int) (W : World) (hv : MemAt W v ws ls f) (hcap0 : ∀ x y p n c, v = .agg #[x, .slice p n c, y] → n ≤ c) (hw : ws.length ≤ 9223372036854775807) (hk2 : k ≤ 9223372036854775807)
    (hr : rightB ws ls = true) (ht : thereB ws.length a k = true) (hc : cnt a.toNat (a.toNat + k.toNat) 0 ls = 0) :
    Calls Try.prog 46 #[v, .int .i64 a, .int .i64 k] W fun e w' => LiveOk W.heap.size (fill ws a.toNat 0 k.toNat) (fill ls a.toNat true k.toNat) f e w' ∧ Below W.heap.size W w' := by
  have hm := hv
  obtain ⟨vw, vl, rfl, ⟨pw, cw, rfl, hcw⟩, pl, cl, rfl, hcl⟩ := hv
  have hcap := hcap0 _ _ _ _ _ rfl
  clear hcap0
  have HM := Lib.hid hm
  have HCL := Lib.hid hcl
  clear hm hcw hcl
  obtain ⟨z, hz⟩ : ∃ z, z = W.heap.size := ⟨_, rfl⟩
  obtain ⟨wo, hwo⟩ : ∃ wo : World, wo = (W.alloc (.cells #[.slice pw ws.length cw, .slice pl ls.length cl, .bool f] 46)).alloc (.cells #[.slice none 0 0, .slice none 0 0, .bool false] 46) := ⟨_, rfl⟩
  have hZ : MBox wo z (.slice pw ws.length cw) (.slice pl ls.length cl) f := by rw [hwo, hz]; exact (MBox.new _ _ _ _).alloc _
  have hR : MBox wo (z + 1) (.slice none 0 0) (.slice none 0 0) false := by
    have := MBox.new (W.alloc (.cells #[.slice pw ws.length cw, .slice pl ls.length cl, .bool f] 46)) (.slice none 0 0) (.slice none 0 0) false
    rw [World.size_alloc] at this
    rw [hwo, hz]; exact this
  have hB : Below W.heap.size W wo := by rw [hwo]; exact ((Below.refl _ _).alloc (Nat.le_refl _) _).alloc (by simp) _
  have hsz : z + 2 ≤ wo.heap.size := by rw [hwo, hz]; simp
  have HZ := Lib.hid hZ
  have HR := Lib.hid hR
  clear hZ hR
  go_enter Try.func46, Try.ntmps46
  go_wp2_with fail
  rw [← hwo, ← hz]
  have hzW : W.heap.size ≤ z := Nat.le_of_eq hz.symm
  clear hwo hz
  refine (check_c _ ws ls f _ (HM.out.below hB) hw).mono ?_
  rintro e w1 ⟨rfl, hb1⟩
  have HZ1 := Lib.hid (HZ.out.below hb1)
  have HR1 := Lib.hid (HR.out.below hb1)
  have hB1 := below_then hB hB.size hb1
  have hsz1 := Nat.le_trans hsz hb1.size
  clear hb1 HZ HR hB hsz
  rw [chkM_yes hr]
  obtain ⟨⟨hd0, hd1, hd2⟩, _⟩ := mbox_cells HZ1.out
  go_wp2_with fail
  refine (there_c _ ws.length cw _ f a k hk2 hw _).mono ?_
  rintro e w2 ⟨rfl, hb2⟩
  have HZ2 := Lib.hid (HZ1.out.below hb2)
  have HR2 := Lib.hid (HR1.out.below hb2)
  have hB2 := below_then hB1 hB1.size hb2
  have hsz2 := Nat.le_trans hsz1 hb2.size
  clear hb2 hB1 hsz1 HR1 HZ1 hd0 hd1 hd2
  rw [ht]
  obtain ⟨t1, t2, t3⟩ := thereB_iff.1 ht
  obtain ⟨a, rfl⟩ := Int.eq_ofNat_of_zero_le t2
  obtain ⟨k, rfl⟩ := Int.eq_ofNat_of_zero_le (show 0 ≤ k by omega)
  obtain ⟨hn1, hn2, hlen, hmay⟩ := rightB_iff.1 hr
  clear hmay
  simp only [Int.toNat_natCast] at hc ⊢
  obtain ⟨bl, ol, rfl, hcs⟩ := HCL.out (by intro e; rw [e] at hlen; simp at hlen; omega)
  have HCS := Lib.hid hcs
  have HLEN := Lib.hid hlen
  clear hcs hlen HCL
  obtain ⟨⟨hd0, hd1, hd2⟩, _⟩ := mbox_cells HZ2.out
  go_wp2_with fail
  refine (lives_c pw ws.length cw bl ol cl ls f a k _ (by rw [HLEN.out]; omega) hcap (by omega) (by rw [HLEN.out]; omega) (fun i h => below_cell hB2 (HCS.out i h))).mono ?_
  rintro e w3 ⟨rfl, hb3⟩
  have HZ3 := Lib.hid (HZ2.out.below hb3)
  have HR3 := Lib.hid (HR2.out.below hb3)
  have hB3 := below_then hB2 hB2.size hb3
  have hsz3 := Nat.le_trans hsz2 hb3.size
  clear hb3 hB2 hsz2 HR2 HZ2 hd0 hd1 hd2
  obtain ⟨q, hq⟩ : ∃ q, q = cnt a (a + k) 0 ls := ⟨_, rfl⟩
  rw [← hq] at hc ⊢
  clear hq
  subst hc
  obtain ⟨⟨hd0, hd1, hd2⟩, _⟩ := mbox_cells HZ3.out
  go_wp2_with fail
  refine (turn_c _ ws ls f a k true 0 _ (HM.out.below hB3) hn1 hn2 HLEN.out (by omega) (by omega)).mono ?_
  rintro e w4 ⟨⟨_, rfl, vw2, vl2, rfl, how, hol⟩, hb4⟩
  obtain ⟨gw, cw2, rfl, hgw, _⟩ := own_form how (by rw [fill_length]; omega)
  obtain ⟨gl, cl2, rfl, hgl, _⟩ := own_form hol (by rw [fill_length, HLEN.out]; omega)
  obtain ⟨⟨hr0, hr1, hr2⟩, hs0, hs1, hs2⟩ := mbox_cells (HR3.out.below hb4)
  have hB4 := below_then hB3 hB3.size hb4
  have hkr : Keeps (· = z + 1) w4 (((w4.setCell ⟨z + 1, 0, none⟩ (.slice (some ⟨gw, 0, none⟩) (fill ws a 0 k).length cw2)).setCell ⟨z + 1, 1, none⟩ (.slice (some ⟨gl, 0, none⟩) (fill ls a true k).length cl2)).setCell ⟨z + 1, 2, none⟩ (.bool f)) :=
    ((Keeps.setCell w4 (S := (· = z + 1)) (p := ⟨z + 1, 0, none⟩) rfl _).trans (Keeps.setCell _ (S := (· = z + 1)) (p := ⟨z + 1, 1, none⟩) rfl _)).trans (Keeps.setCell _ (S := (· = z + 1)) (p := ⟨z + 1, 2, none⟩) rfl _)
  have ho1 := (hkr.row how (by intro g hg; simp [Value.ownBlock] at hg; omega)).mono (base' := W.heap.size) hB3.size
  have ho2 := (hkr.row hol (by intro g hg; simp [Value.ownBlock] at hg; omega)).mono (base' := W.heap.size) hB3.size
  have hBe := hB4.trans (hkr.below hB4.size (by intro q hq; omega))
  clear hkr how hol hb4 hd0 hd1 hd2
  go_wp2
  exact bodyPost_ret (v := .tuple #[.agg #[.slice (some ⟨gw, 0, none⟩) (fill ws a 0 k).length cw2, .slice (some ⟨gl, 0, none⟩) (fill ls a true k).length cl2, .bool f], .int .i64 0]) (by simp [results, Try.results46, go_sem, hr0, hr1, hr2]) rfl ⟨⟨_, rfl, _, _, rfl, ho1, ho2⟩, hBe⟩

end Go.Proofs.Ytcnpmkigiklnnaa
namespace Go.Proofs.Ytcnpmkigiklnnaa
open Go.RowKit Go.Shelf

/-- The chapter's memory. -/
def smallW : List Int := [0, 0, 0, 0, 0, 0, 0, 0]
def smallL : List Bool := [false, false, true, true, true, false, false, false]
def SmallOk (B : Nat) (e : Ending) (w' : World) : Prop :=
  ∃ gw cw gl cl, e = .returned (.tuple #[.agg #[.slice (some ⟨gw, 0, none⟩) 8 cw, .slice (some ⟨gl, 0, none⟩) 8 cl, .bool false], .bool true]) ∧
  w'.ownsRow B 22 1 (.slice (some ⟨gw, 0, none⟩) 8 cw) 8 (smallW.map (Value.int .u64)) ∧ w'.ownsRow B 4 1 (.slice (some ⟨gl, 0, none⟩) 8 cl) 8 (smallL.map Value.bool)

end Go.Proofs.Ytcnpmkigiklnnaa
