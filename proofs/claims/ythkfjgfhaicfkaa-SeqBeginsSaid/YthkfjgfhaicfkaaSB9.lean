/-
  The document's answers of layer 2 that only look: Right, Same, In, All, Kind.
  Conditions: the memory reads as these lists, of at most 4096 words.
-/
import Derived.Test.YthkfjgfhaicfkaaSB6
import Derived.Test.YthkfjgfhaicfkaaSB3
import Derived.Test.YthkfjgfhaicfkaaSB5
import Derived.Test.YthkfjgfhaicfkaaSB1
import Derived.RangeFuncBox
/-
  What holds in the loop that makes a memory word by word: a variable, its two rows, and all else.
  Conditions: none.
-/
namespace Go.Proofs.Ythkfjgfhaicfkaa
open Go.RowKit Go.Shelf

theorem Keeps.of_grown {w w' : World} {r : Option Nat} (h : w.grownBy w' r) : Keeps (fun q => some q = r) w w' := ⟨h.os, h.tape, h.output, h.size, h.block⟩
/-- The variable z holds a, b and f; the rows vw and vl are newer than wo; all else of wo is as it was. -/
structure WInv (wo : World) (z : Nat) (a b : Value) (f : Bool) (nw : Nat) (vw : Value) (xs : List Value) (nl : Nat) (vl : Value) (ys : List Value) (w : World) : Prop where
  box : MBox w z a b f
  words : w.ownsRow wo.heap.size 27 1 vw nw xs
  lives : w.ownsRow wo.heap.size 4 1 vl nl ys
  lt : z < wo.heap.size
  keeps : Keeps (fun q => q = z) wo w

section
variable {wo w : World} {z : Nat} {a b : Value} {f : Bool} {nw : Nat} {vw : Value} {xs : List Value} {nl : Nat} {vl : Value} {ys : List Value}
theorem WInv.drew (h : WInv wo z a b f nw vw xs nl vl ys w) : WInv wo z a b f nw vw xs nl vl ys w.drew := ⟨h.box, h.words.drew, h.lives.drew, h.lt, h.keeps.drewN 1⟩
theorem WInv.alloc (h : WInv wo z a b f nw vw xs nl vl ys w) (o : Obj) : WInv wo z a b f nw vw xs nl vl ys (w.alloc o) :=
  ⟨h.box.alloc o, h.words.alloc o, h.lives.alloc o, h.lt, h.keeps.trans (Keeps.alloc _ w o)⟩
theorem WInv.base (h : WInv wo z a b f nw vw xs nl vl ys w) : wo.heap.size ≤ w.heap.size := h.keeps.size
theorem WInv.neW (h : WInv wo z a b f nw vw xs nl vl ys w) {k : Nat} (hk : k < wo.heap.size) : some k ≠ vw.ownBlock := fun e => by have := (h.words.lt k e.symm).1; omega
theorem WInv.neL (h : WInv wo z a b f nw vw xs nl vl ys w) {k : Nat} (hk : k < wo.heap.size) : some k ≠ vl.ownBlock := fun e => by have := (h.lives.lt k e.symm).1; omega
theorem WInv.newW (h : WInv wo z a b f nw vw xs nl vl ys w) {k : Nat} (hk : w.heap.size ≤ k) : some k ≠ vw.ownBlock := fun e => by have := (h.words.lt k e.symm).2; omega
theorem WInv.newL (h : WInv wo z a b f nw vw xs nl vl ys w) {k : Nat} (hk : w.heap.size ≤ k) : some k ≠ vl.ownBlock := fun e => by have := (h.lives.lt k e.symm).2; omega
theorem WInv.growW (h : WInv wo z a b f nw vw xs nl vl ys w) {w1 : World} {n1 : Nat} {v1 : Value} {xs1 : List Value} (hg : w.grownBy w1 vw.ownBlock) (ho : w1.ownsRow wo.heap.size 27 1 v1 n1 xs1) : WInv wo z a b f n1 v1 xs1 nl vl ys w1 :=
  have hk := Keeps.of_grown hg
  ⟨h.box.keeps hk (h.neW h.lt), ho, hk.row h.lives (fun g hg2 hs => owns_ne h.words h.lives (by decide) (hs : some g = vw.ownBlock).symm hg2 rfl), h.lt,
    ⟨hk.os.trans h.keeps.os, hk.tape.trans h.keeps.tape, hk.output.trans h.keeps.output, Nat.le_trans h.keeps.size hk.size, fun k hk1 hk2 => (hk.block k (Nat.lt_of_lt_of_le hk1 h.base) (h.neW hk1)).trans (h.keeps.block k hk1 hk2)⟩⟩
theorem WInv.growL (h : WInv wo z a b f nw vw xs nl vl ys w) {w1 : World} {n1 : Nat} {v1 : Value} {ys1 : List Value} (hg : w.grownBy w1 vl.ownBlock) (ho : w1.ownsRow wo.heap.size 4 1 v1 n1 ys1) : WInv wo z a b f nw vw xs n1 v1 ys1 w1 :=
  have hk := Keeps.of_grown hg
  ⟨h.box.keeps hk (h.neL h.lt), hk.row h.words (fun g hg2 hs => owns_ne h.lives h.words (by decide) (hs : some g = vl.ownBlock).symm hg2 rfl), ho, h.lt,
    ⟨hk.os.trans h.keeps.os, hk.tape.trans h.keeps.tape, hk.output.trans h.keeps.output, Nat.le_trans h.keeps.size hk.size, fun k hk1 hk2 => (hk.block k (Nat.lt_of_lt_of_le hk1 h.base) (h.neL hk1)).trans (h.keeps.block k hk1 hk2)⟩⟩
theorem WInv.store (h : WInv wo z a b f nw vw xs nl vl ys w) (a' b' : Value) : WInv wo z a' b' f nw vw xs nl vl ys ((w.setCell ⟨z, 0, none⟩ a').setCell ⟨z, 1, none⟩ b') := by
  have hk : Keeps (fun q => q = z) w ((w.setCell ⟨z, 0, none⟩ a').setCell ⟨z, 1, none⟩ b') := (Keeps.setCell w (S := fun q => q = z) (p := ⟨z, 0, none⟩) rfl _).trans (Keeps.setCell _ (S := fun q => q = z) (p := ⟨z, 1, none⟩) rfl _)
  refine ⟨?_, hk.row' h.words (fun q hq => by subst hq; exact h.lt), hk.row' h.lives (fun q hq => by subst hq; exact h.lt), h.lt, h.keeps.trans hk⟩
  have h1 := heap_setCell_same w z 0 _ _ a' h.box
  have h2 := heap_setCell_same _ z 1 _ _ b' h1
  unfold MBox
  rw [h2]
  rfl
end

theorem cell_alloc {w : World} {p : Addr} {v : Value} (h : w.cell? p = some v) (o : Obj) : (w.alloc o).cell? p = some v := by
  rw [World.cell?_alloc_lt _ _ _ (World.block_lt_of_cell? w _ h)]; exact h
theorem cell_grown {w w1 : World} {p : Addr} {v : Value} {r : Option Nat} (hg : w.grownBy w1 r) (h : w.cell? p = some v) (hne : some p.block ≠ r) : w1.cell? p = some v :=
  (hg.cell_far p (World.block_lt_of_cell? w _ h) hne).trans h
theorem heap_alloc {w : World} {k : Nat} {o : Obj} (h : w.heap[k]? = some o) (o' : Obj) : (w.alloc o').heap[k]? = some o := (Below.heap_alloc _ _ _ (Array.getElem?_eq_some_iff.1 h).1).trans h
theorem heap_grown {w w1 : World} {k : Nat} {o : Obj} {r : Option Nat} (hg : w.grownBy w1 r) (h : w.heap[k]? = some o) (hne : some k ≠ r) : w1.heap[k]? = some o := (hg.block k (Array.getElem?_eq_some_iff.1 h).1 hne).trans h
theorem take_map_snoc {α : Type} (g : α → Value) (l : List α) (i : Nat) (h : i < l.length) : (l.take i).map g ++ [g l[i]] = (l.take (i + 1)).map g := by
  rw [List.take_succ_eq_append_getElem h, List.map_append]; rfl

end Go.Proofs.Ythkfjgfhaicfkaa
/-
  memory.Free: an error, or the memory in memory of its own with some words free; what was in memory stays.
  Conditions: the memory reads as these lists.
-/
namespace Go.Proofs.Ythkfjgfhaicfkaa
open Go.RowKit Go.Shelf

/-- What such a call hands over. -/
def FreeOk (B : Nat) (ws : List Int) (ls : List Bool) (f : Bool) (e : Ending) (w' : World) : Prop :=
  ∃ v', e = .returned (.tuple #[v', .int .i64 0]) ∧ OwnsMem w' B v' ws ls f

end Go.Proofs.Ythkfjgfhaicfkaa
/-
  slices.Collect of the iterator over live rows: the rows, in new memory; what was in memory stays.
  Conditions: the truth values read as this list.
-/
namespace Go.Proofs.Ythkfjgfhaicfkaa
open Go.RowKit Go.Shelf
attribute [local go_sem] Oper.semAt_some

/-- The rows as pairs of numbers. -/
def rowsI (l : List (Nat × Nat)) : List (Int × Int) := l.map fun s => ((s.1 : Int), (s.2 : Int))
theorem flatP_snoc (l : List (Int × Int)) (s : Int × Int) : flatP (l ++ [s]) = flatP l ++ [.int .i64 s.1, .int .i64 s.2] := by
  induction l with
  | nil => rfl
  | cons x t ih => simp only [List.cons_append, flatP, ih]
theorem pair_info : (Try.prog.info? 23).map (fun i => (i.zero, i.size, i.bytes)) = some (some (.agg #[.int .i64 0, .int .i64 0]), 2, 16) := by kernel_rfl

end Go.Proofs.Ythkfjgfhaicfkaa
/-
  What Live, Free, and Live again come to, in numbers; and their contracts as variables hold what they answer.
  Conditions: none.
-/
namespace Go.Proofs.Ythkfjgfhaicfkaa
open Go.RowKit Go.Shelf

theorem fill_fill {α : Type} (l : List α) (x : Nat) (u v : α) (k : Nat) : fill (fill l x u k) x v k = fill l x v k := by
  refine List.ext_getElem (by simp [fill_length]) fun i h1 h2 => ?_
  have hl : i < l.length := by simpa [fill_length] using h2
  rw [fill_get _ _ _ _ _ (by rw [fill_length]; exact hl), fill_get _ _ _ _ _ hl, fill_get _ _ _ _ _ hl]
  split <;> rfl
theorem right_fill {ws : List Int} {ls : List Bool} (h : rightB ws ls = true) (x k : Nat) (d : Bool) (u : Int) (hm : mayB d u = true) : rightB (fill ws x u k) (fill ls x d k) = true := by
  obtain ⟨h1, h2, h3, h4⟩ := rightB_iff.1 h
  refine rightB_iff.2 ⟨by rw [fill_length]; exact h1, by rw [fill_length]; exact h2, by rw [fill_length, fill_length]; exact h3, fun i hi hi' => ?_⟩
  rw [fill_length] at hi hi'
  rw [fill_get _ _ _ _ _ hi, fill_get _ _ _ _ _ hi']
  split
  · exact hm
  · exact h4 i hi hi'
theorem cnt_fill_true (ls : List Bool) (x k : Nat) (h : x + k ≤ ls.length) : cnt x (x + k) 0 (fill ls x true k) = k := by
  have := (cnt_full_iff x (x + k) (fill ls x true k) 0 (Nat.zero_le _) (by rw [fill_length]; omega) (by omega)).2 (fun i hi h1 h2 => by
    rw [fill_length] at hi
    rw [fill_get _ _ _ _ _ hi, if_pos (by omega)])
  omega
theorem cnt_fill_false (ls : List Bool) (x k : Nat) : cnt x (x + k) 0 (fill ls x false k) = 0 :=
  (cnt_zero_iff x (x + k) _ 0).2 fun i hi h1 h2 => by
    rw [fill_length] at hi
    rw [fill_get _ _ _ _ _ hi, if_pos (by omega)]
/-- How many are live. -/
def trues : List Bool → Nat
  | [] => 0
  | b :: t => (if b = true then 1 else 0) + trues t
theorem trues_snoc (l : List Bool) (b : Bool) : trues (l ++ [b]) = trues l + (if b = true then 1 else 0) := by
  induction l with
  | nil => simp [trues]
  | cons c t ih => simp only [List.cons_append, trues, ih]; omega
theorem trues_le (l : List Bool) : trues l ≤ l.length := by
  induction l with
  | nil => simp [trues]
  | cons c t ih => simp only [trues, List.length_cons]; split <;> omega
/-- How many places rows have together. -/
def sumRows (l : List (Nat × Nat)) : Nat := (l.map (·.2)).sum
theorem sumRows_snoc (l : List (Nat × Nat)) (s : Nat × Nat) : sumRows (l ++ [s]) = sumRows l + s.2 := by simp [sumRows]
theorem sum_spansP (l : List Bool) (a n : Nat) : sumRows (spansP a n l) = n + trues l := by
  induction l generalizing a n with
  | nil =>
    by_cases h : n = 0
    · subst h; simp [spansP, oneRow_zero, sumRows, trues]
    · simp [spansP, oneRow_pos a h, sumRows, trues]
  | cons b t ih =>
    cases b with
    | true => simp only [spansP, trues]; rw [ih]; simp; omega
    | false =>
      have h1 := ih (a + n + 1) 0
      simp only [sumRows] at h1
      by_cases h : n = 0
      · subst h; simp [spansP, oneRow_zero, sumRows, trues] at h1 ⊢; omega
      · simp [spansP, oneRow_pos a h, sumRows, trues] at h1 ⊢; omega
theorem sum_spansL (l : List Bool) : sumRows (spansL l) = trues l := by simpa [spansL] using sum_spansP l 0 0
theorem sumRows_take_le (l : List (Nat × Nat)) (i : Nat) : sumRows (l.take i) ≤ sumRows l := by
  have : sumRows l = sumRows (l.take i) + sumRows (l.drop i) := by
    have h : sumRows (l.take i ++ l.drop i) = sumRows (l.take i) + sumRows (l.drop i) := by simp only [sumRows, List.map_append, List.sum_append]
    rw [List.take_append_drop] at h
    exact h
  omega
theorem spansL_pos (l : List Bool) : ∀ s ∈ spansL l, 1 ≤ s.2 ∧ s.2 ≤ l.length := fun s hs => by
  have := spansP_ge l 0 0 s hs
  omega

theorem cap_mk {x : Value} {q : Option Addr} {n c : Nat} {b : Value} (h : n ≤ c) : ∀ (x' y' : Value) (p : Option Addr) (n' c' : Nat), Value.agg #[x, .slice q n c, b] = .agg #[x', .slice p n' c', y'] → n' ≤ c' := by
  intro x' y' p n' c' e
  injection e with e
  injection e with e
  injection e with _ e
  injection e with e _
  injection e with _ e1 e2
  subst e1
  subst e2
  exact h
/-- What Live and Free answer, put into a variable. -/
theorem live_put {B : Nat} {ws us : List Int} {ls ms : List Bool} {f : Bool} {e : Ending} {w' : World} (h : LiveOk B us ms f e w') (h1 : us = ws) (h2 : ms = ls) :
    ∃ p0 c0 p1 c1, e = .returned (.tuple #[.agg #[.slice p0 ws.length c0, .slice p1 ls.length c1, .bool f], .int .i64 0]) ∧ ls.length ≤ c1 ∧
    ∃ w3, w3 = putM w' (.slice p0 ws.length c0) (.slice p1 ls.length c1) f ∧ MVar w3 w'.heap.size (.slice p0 ws.length c0) (.slice p1 ls.length c1) ws ls f ∧ Below w'.heap.size w' w3 := by
  subst h1
  subst h2
  obtain ⟨v, rfl, vw, vl, rfl, h0, h1⟩ := h
  obtain ⟨p0, c0, rfl⟩ := owns_slice h0
  obtain ⟨p1, c1, rfl⟩ := owns_slice h1
  exact ⟨_, _, _, _, rfl, (own_cap h1).1, _, rfl, putM_var f (nums_of_owns rfl h0) (bools_of_owns rfl h1), putM_below _ _ _ _⟩
theorem thereB_fill (ws : List Int) (x k : Nat) (u a m : Int) : thereB (fill ws x u k).length a m = thereB ws.length a m := by rw [fill_length]
theorem turn_cases (us : List Int) (ms : List Bool) (a k : Int) : (∃ c c' : Int, (c != 0) = true ∧ (c' == 0) = false ∧ ((rightB us ms = false ∧ c = 120) ∨ (rightB us ms = true ∧ thereB us.length a k = false ∧ c = 2) ∨ (rightB us ms = true ∧ thereB us.length a k = true ∧ cnt a.toNat (a.toNat + k.toNat) 0 ms ≠ 0 ∧ c = 5)) ∧ ((rightB us ms = false ∧ c' = 120) ∨ (rightB us ms = true ∧ thereB us.length a k = false ∧ c' = 2) ∨ (rightB us ms = true ∧ thereB us.length a k = true ∧ cnt a.toNat (a.toNat + k.toNat) 0 ms < k.toNat ∧ c' = 4))) ∨
    (rightB us ms = true ∧ thereB us.length a k = true ∧ cnt a.toNat (a.toNat + k.toNat) 0 ms ≠ 0 ∧ cnt a.toNat (a.toNat + k.toNat) 0 ms = k.toNat) ∨ (rightB us ms = true ∧ thereB us.length a k = true ∧ cnt a.toNat (a.toNat + k.toNat) 0 ms = 0) := by
  cases hr : rightB us ms with
  | false => exact .inl ⟨120, 120, by decide, by decide, .inl ⟨rfl, rfl⟩, .inl ⟨rfl, rfl⟩⟩
  | true =>
    cases ht : thereB us.length a k with
    | false => exact .inl ⟨2, 2, by decide, by decide, .inr (.inl ⟨rfl, rfl, rfl⟩), .inr (.inl ⟨rfl, rfl, rfl⟩)⟩
    | true =>
      have hle := cnt_le a.toNat (a.toNat + k.toNat) ms 0
      have ha := (thereB_iff.1 ht).2.1
      by_cases h0 : cnt a.toNat (a.toNat + k.toNat) 0 ms = 0
      · exact .inr (.inr ⟨rfl, rfl, h0⟩)
      · by_cases h1 : cnt a.toNat (a.toNat + k.toNat) 0 ms = k.toNat
        · exact .inr (.inl ⟨rfl, rfl, h0, h1⟩)
        · exact .inl ⟨5, 4, by decide, by decide, .inr (.inr ⟨rfl, rfl, h0, rfl⟩), .inr (.inr ⟨rfl, rfl, by omega, rfl⟩)⟩
theorem bools_cells {w : World} {q : Option Addr} {n d : Nat} {ns : List Bool} (h : BoolsAt w (.slice q n d) ns) (hn : 0 < ns.length) : ∃ b off, q = some ⟨b, off, none⟩ ∧ ∀ i (hi : i < ns.length), w.cell? ⟨b, off + i, none⟩ = some (.bool ns[i]) := by
  obtain ⟨p, c, e, hc⟩ := h
  injection e with e1 _ _
  subst e1
  exact hc (List.length_pos_iff.1 hn)
/-- A variable that says nothing. -/
theorem putM_nil (w : World) : MVar (putM w (.slice none 0 0) (.slice none 0 0) false) w.heap.size (.slice none 0 0) (.slice none 0 0) [] [] false :=
  putM_var false ⟨none, 0, rfl, fun h => absurd rfl h⟩ ⟨none, 0, rfl, fun h => absurd rfl h⟩

end Go.Proofs.Ythkfjgfhaicfkaa
namespace Go.Proofs.Ythkfjgfhaicfkaa
open Go.RowKit Go.Shelf

set_option maxRecDepth 100000 in
set_option maxHeartbeats 2000000 in
theorem refRight_c (v : Value) (ws : List Int) (ls : List Bool) (f : Bool) (W : World) (hv : MemAt W v ws ls f) (hn : ws.length ≤ 4096) :
    Calls Try.prog 23 #[v] W fun e w' => e = .returned (.bool (rightB ws ls)) ∧ Below W.heap.size W w' := by
  obtain ⟨vw, vl, rfl, ⟨p0, c0, rfl, hw0⟩, q0, d0, rfl, hl0⟩ := hv
  have hB : Below W.heap.size W (W.alloc (.cells #[.slice p0 ws.length c0, .slice q0 ls.length d0, .bool f] 44)) := (Below.refl _ _).alloc (Nat.le_refl _) _
  have HB := Lib.hid hB
  have HW := Lib.hid hw0
  have HL := Lib.hid hl0
  clear hB hw0 hl0
  by_cases h1 : ws.length < 1
  · have HR := Lib.hid (show rightB ws ls = false by simp [rightB]; omega)
    go_enter Try.func23, Try.ntmps23
    go_wp2
    go_ret
    exact ⟨ret_bool HR.out.symm, HB.out⟩
  · by_cases h2 : ls.length = ws.length
    · have HH2 := Lib.hid h2
      have hne : ((ls.length : Int) != (ws.length : Int)) = false := by rw [h2]; simp
      clear h2
      go_enter Try.func23, Try.ntmps23
      go_wp2
      obtain ⟨b0, o0, rfl, hc0⟩ := HW.out (by intro e; rw [e] at h1; simp at h1)
      obtain ⟨b1, o1, rfl, hc1⟩ := HL.out (by intro e; have := HH2.out; rw [e] at this; simp at this; omega)
      have hcs0 : ∀ i (h : i < ws.length), (W.alloc (.cells #[.slice (some ⟨b0, o0, none⟩) ws.length c0, .slice (some ⟨b1, o1, none⟩) ls.length d0, .bool f] 44)).cell? ⟨b0, o0 + i, none⟩ = some (.int .u64 ws[i]) := fun i h => below_cell HB.out (hc0 i h)
      have hcs1 : ∀ i (h : i < ls.length), (W.alloc (.cells #[.slice (some ⟨b0, o0, none⟩) ws.length c0, .slice (some ⟨b1, o1, none⟩) ls.length d0, .bool f] 44)).cell? ⟨b1, o1 + i, none⟩ = some (.bool ls[i]) := fun i h => below_cell HB.out (hc1 i h)
      have HC0 := Lib.hid hcs0
      have HC1 := Lib.hid hcs1
      clear hc0 hc1 hcs0 hcs1 HW HL hne
      go_loop [27] (fun iv => ∃ i : Nat, i ≤ ws.length ∧ iv = .int .i64 i ∧ MayTo ls ws i) (fun iv => ws.length - (intOf iv).toNat)
      case atStart => exact ⟨0, Nat.zero_le _, rfl, rfl⟩
      case round =>
        obtain ⟨i, hi, rfl, hmt⟩ := hrel
        by_cases hlt : i < ws.length
        · have hlt' : i < ls.length := by have := HH2.out; omega
          have hlt1 : (i : Int) < (ls.length : Int) := by omega
          have hx := HC0.out i hlt
          have hz := HC1.out i hlt'
          have HS := Lib.hid (mayTo_step hmt hlt hlt')
          clear hmt
          obtain ⟨x, hxe⟩ : ∃ x, x = ws[i] := ⟨_, rfl⟩
          obtain ⟨b, hbe⟩ : ∃ b, b = ls[i] := ⟨_, rfl⟩
          rw [← hxe, ← hbe] at HS
          rw [← hxe] at hx
          rw [← hbe] at hz
          clear hxe hbe
          have HM : Hid (∀ c, mayB b x = c → (c = true → MayTo ls ws (i + 1)) ∧ (c = false → mayAll ls ws = false)) := Lib.hid (fun c h => by subst h; exact HS.out)
          clear HS
          cases b with
          | true =>
            go_wp2
            go_round
            case rel => exact ⟨i + 1, by omega, by go_num, (HM.out true rfl).1 rfl⟩
            case measure => simp [intOf]; omega
          | false =>
            by_cases hx0 : x = 0
            · subst hx0
              go_wp2
              go_round
              case rel => exact ⟨i + 1, by omega, by go_num, (HM.out true rfl).1 rfl⟩
              case measure => simp [intOf]; omega
            · by_cases hxp : x = 18369900232523579118
              · subst hxp
                go_wp2
                go_round
                case rel => exact ⟨i + 1, by omega, by go_num, (HM.out true rfl).1 rfl⟩
                case measure => simp [intOf]; omega
              · have hx0' : (x != 0) = true := by simpa using hx0
                have hxp' : (x != 18369900232523579118) = true := by simpa using hxp
                have HMF := Lib.hid ((HM.out false (by rw [mayB_free]; simp [poison, hx0, hxp])).2 rfl)
                go_wp2
                go_ret
                exact ⟨ret_bool (by rw [rightB_all (by omega) (by omega) HH2.out, HMF.out]), HB.out⟩
        · have hii : i = ws.length := by omega
          have HE := Lib.hid (mayTo_end (hii ▸ hmt) HH2.out)
          clear hmt hii
          go_wp2
          go_ret
          exact ⟨ret_bool (by rw [rightB_all (by omega) (by omega) HH2.out, HE.out]), HB.out⟩
    · have HR := Lib.hid (show rightB ws ls = false by simp [rightB]; omega)
      have hne : ((ls.length : Int) != (ws.length : Int)) = true := by simp; omega
      go_enter Try.func23, Try.ntmps23
      go_wp2
      go_ret
      exact ⟨ret_bool HR.out.symm, HB.out⟩

set_option maxRecDepth 100000 in
set_option maxHeartbeats 2000000 in
theorem refSame_t (v0 v1 : Value) (ws : List Int) (ls : List Bool) (f : Bool) (W : World) (h0 : MemAt W v0 ws ls f) (h1 : MemAt W v1 ws ls f) (hn : ws.length ≤ 4096) (hm : ls.length ≤ 4096) :
    Calls Try.prog 25 #[v0, v1] W fun e w' => e = .returned (.bool true) ∧ Below W.heap.size W w' := by
  obtain ⟨vw, vl, rfl, ⟨p0, c0, rfl, hw0⟩, q0, d0, rfl, hl0⟩ := h0
  obtain ⟨uw, ul, rfl, ⟨p1, c1, rfl, hw1⟩, q1, d1, rfl, hl1⟩ := h1
  obtain ⟨wo, hwo⟩ : ∃ wo : World, wo = (W.alloc (.cells #[.slice p0 ws.length c0, .slice q0 ls.length d0, .bool f] 44)).alloc (.cells #[.slice p1 ws.length c1, .slice q1 ls.length d1, .bool f] 44) := ⟨_, rfl⟩
  have hB : Below W.heap.size W wo := by rw [hwo]; exact ((Below.refl _ _).alloc (Nat.le_refl _) _).alloc (by simp) _
  have HB := Lib.hid hB
  have HW0 := Lib.hid (nums_below (show NumsAt W .u64 (.slice p0 ws.length c0) ws from ⟨_, _, rfl, hw0⟩) hB)
  have HW1 := Lib.hid (nums_below (show NumsAt W .u64 (.slice p1 ws.length c1) ws from ⟨_, _, rfl, hw1⟩) hB)
  have HL0 := Lib.hid (bools_below (show BoolsAt W (.slice q0 ls.length d0) ls from ⟨_, _, rfl, hl0⟩) hB)
  have HL1 := Lib.hid (bools_below (show BoolsAt W (.slice q1 ls.length d1) ls from ⟨_, _, rfl, hl1⟩) hB)
  have hz0 : MBox wo W.heap.size (.slice p0 ws.length c0) (.slice q0 ls.length d0) f := by rw [hwo]; exact (MBox.new _ _ _ _).alloc _
  have hz1 : MBox wo (W.heap.size + 1) (.slice p1 ws.length c1) (.slice q1 ls.length d1) f := by
    have := MBox.new (W.alloc (.cells #[.slice p0 ws.length c0, .slice q0 ls.length d0, .bool f] 44)) (.slice p1 ws.length c1) (.slice q1 ls.length d1) f
    rw [World.size_alloc] at this
    rw [hwo]; exact this
  obtain ⟨⟨ha0, ha1, ha2⟩, _⟩ := mbox_cells hz0
  obtain ⟨⟨hb0, hb1, hb2⟩, _⟩ := mbox_cells hz1
  have hf : (f != f) = false := by cases f <;> rfl
  have hw2 : ((ws.length : Int) != (ws.length : Int)) = false := by simp
  have hl2 : ((ls.length : Int) != (ls.length : Int)) = false := by simp
  clear hB hw0 hw1 hl0 hl1 hz0 hz1
  have HWO := Lib.hid hwo
  rw [hwo] at ha0 ha1 ha2 hb0 hb1 hb2
  clear hwo
  go_enter Try.func25, Try.ntmps25
  go_wp2
  rw [← HWO.out]
  rw [← HWO.out] at ha0 ha1 ha2 hb0 hb1 hb2
  clear hf hw2 hl2
  go_loop [35] (fun iv => ∃ i : Nat, i ≤ ws.length ∧ iv = .int .i64 i) (fun iv => ws.length - (intOf iv).toNat)
  case atStart => exact ⟨0, Nat.zero_le _, rfl⟩
  case round =>
    obtain ⟨i, hi, rfl⟩ := hrel
    by_cases hlt : i < ws.length
    · obtain ⟨x0, y0, rfl, hc0⟩ := nums_cells HW0.out (by omega)
      obtain ⟨x1, y1, rfl, hc1⟩ := nums_cells HW1.out (by omega)
      have hx := hc0 i hlt
      have hz := hc1 i hlt
      obtain ⟨x, hxe⟩ : ∃ x, x = ws[i] := ⟨_, rfl⟩
      rw [← hxe] at hx hz
      have hxx : (x != x) = false := by simp
      clear hc0 hc1 hxe
      go_wp2
      go_round
      case rel => exact ⟨i + 1, by omega, by go_num⟩
      case measure => simp [intOf]; omega
    · go_wp2
      go_loop [51] (fun iv => ∃ j : Nat, j ≤ ls.length ∧ iv = .int .i64 j) (fun iv => ls.length - (intOf iv).toNat)
      case atStart => exact ⟨0, Nat.zero_le _, rfl⟩
      case round =>
        obtain ⟨j, hj, rfl⟩ := hrel
        by_cases hlt : j < ls.length
        · obtain ⟨x0, y0, rfl, hc0⟩ := bools_cells HL0.out (by omega)
          obtain ⟨x1, y1, rfl, hc1⟩ := bools_cells HL1.out (by omega)
          have hx := hc0 j hlt
          have hz := hc1 j hlt
          obtain ⟨x, hxe⟩ : ∃ x, x = ls[j] := ⟨_, rfl⟩
          rw [← hxe] at hx hz
          have hxx : (x != x) = false := by simp
          clear hc0 hc1 hxe
          go_wp2
          go_round
          case rel => exact ⟨j + 1, by omega, by go_num⟩
          case measure => simp [intOf]; omega
        · go_wp2
          go_ret
          exact ⟨rfl, HB.out⟩

theorem all_next {p : Nat → Prop} {i : Nat} (h : ∀ m, m < i → p m) (hi : p i) : ∀ m, m < i + 1 → p m := fun m hm => by
  rcases Nat.lt_or_ge m i with h' | h'
  · exact h m h'
  · obtain rfl : m = i := by omega
    exact hi
/-- Are so many words, from one on, all live, or all free? -/
def allB (ls : List Bool) (x k : Nat) (d : Bool) : Bool := (List.range k).all fun i => ls.getD (x + i) false == d
theorem allB_true {ls : List Bool} {x k : Nat} {d : Bool} : allB ls x k d = true ↔ ∀ i, i < k → ls.getD (x + i) false = d := by simp [allB]

end Go.Proofs.Ythkfjgfhaicfkaa
