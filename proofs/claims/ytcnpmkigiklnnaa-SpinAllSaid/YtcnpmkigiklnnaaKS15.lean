/-
  Step, of the document's answers of layer 2: the memory behind an access, and what it comes to; what was in memory stays.
  Conditions: the access is of a kind, and the memory may be.
-/
import Derived.Test.YtcnpmkigiklnnaaKS14
import Derived.Test.YtcnpmkigiklnnaaKS3
import Derived.Test.YtcnpmkigiklnnaaKS2
/-
  Variables that hold memories, by where they and their rows lie; the contracts of layer 2 in that form.
  Conditions: as each has them.
-/
namespace Go.Proofs.Ytcnpmkigiklnnaa
open Go.RowKit Go.Shelf

/-- Block z is a variable that holds a memory of its own; it and its rows lie from block lo on, ahead of hi. -/
structure PVar (w : World) (lo hi z : Nat) (x y : Value) (ws : List Int) (ls : List Bool) (f : Bool) : Prop where
  box : MBox w z x y f
  words : w.ownsRow lo 22 1 x ws.length (ws.map (Value.int .u64))
  lives : w.ownsRow lo 4 1 y ls.length (ls.map Value.bool)
  from' : lo ≤ z
  to' : z < hi
  wlt : ∀ g, x.ownBlock = some g → g < hi
  llt : ∀ g, y.ownBlock = some g → g < hi
section
variable {w w' : World} {lo hi z : Nat} {x y : Value} {ws : List Int} {ls : List Bool} {f : Bool}
theorem PVar.keeps (h : PVar w lo hi z x y ws ls f) {S : Nat → Prop} (hk : Keeps S w w') (hS : ∀ q, S q → q < lo ∨ hi ≤ q) : PVar w' lo hi z x y ws ls f :=
  ⟨h.box.keeps hk (fun hs => by have := hS _ hs; have := h.from'; have := h.to'; omega), hk.row h.words (fun g hg hs => by have := hS _ hs; have := (h.words.lt g hg).1; have := h.wlt g hg; omega),
    hk.row h.lives (fun g hg hs => by have := hS _ hs; have := (h.lives.lt g hg).1; have := h.llt g hg; omega), h.from', h.to', h.wlt, h.llt⟩
theorem PVar.below (h : PVar w lo hi z x y ws ls f) (hb : Below w.heap.size w w') : PVar w' lo hi z x y ws ls f := h.keeps (Keeps.of_below (S := fun _ => False) hb) (fun _ h => h.elim)
theorem PVar.wide (h : PVar w lo hi z x y ws ls f) {lo' hi' : Nat} (h1 : lo' ≤ lo) (h2 : hi ≤ hi') : PVar w lo' hi' z x y ws ls f :=
  ⟨h.box, h.words.mono h1, h.lives.mono h1, Nat.le_trans h1 h.from', Nat.lt_of_lt_of_le h.to' h2, fun g hg => Nat.lt_of_lt_of_le (h.wlt g hg) h2, fun g hg => Nat.lt_of_lt_of_le (h.llt g hg) h2⟩
theorem PVar.var (h : PVar w lo hi z x y ws ls f) : MVar w z x y ws ls f := ⟨h.box, nums_of_owns rfl h.words, bools_of_owns rfl h.lives⟩
theorem PVar.mem (h : PVar w lo hi z x y ws ls f) : MemAt w (.agg #[x, y, .bool f]) ws ls f := h.var.mem
theorem PVar.cells (h : PVar w lo hi z x y ws ls f) : w.cell? ⟨z, 0, none⟩ = some x ∧ w.cell? ⟨z, 1, none⟩ = some y ∧ w.cell? ⟨z, 2, none⟩ = some (.bool f) := h.var.cells
theorem PVar.free (h : PVar w lo hi z x y ws ls f) : w.frozen? ⟨z, 0, none⟩ = false ∧ w.frozen? ⟨z, 1, none⟩ = false ∧ w.frozen? ⟨z, 2, none⟩ = false := (mbox_cells h.box).2
end
theorem owns_lt {w : World} {B : Nat} {E : TypeId} {s n : Nat} {v : Value} {xs : List Value} (h : w.ownsRow B E s v n xs) : ∀ g, v.ownBlock = some g → g < w.heap.size := fun g hg => (h.lt g hg).2
theorem putM_size (w : World) (x y : Value) (f : Bool) : (putM w x y f).heap.size = w.heap.size + 1 := by simp [putM]
/-- What own answers, in a variable. -/
theorem own_putP {B : Nat} {us : List Int} {ms : List Bool} {f : Bool} {e : Ending} {w' : World} (h : GivesMem B us ms f e w') (hB : B ≤ w'.heap.size) :
    ∃ p0 c0 p1 c1, e = .returned (.agg #[.slice p0 us.length c0, .slice p1 ms.length c1, .bool f]) ∧
    ∃ w3, w3 = putM w' (.slice p0 us.length c0) (.slice p1 ms.length c1) f ∧ PVar w3 B w3.heap.size w'.heap.size (.slice p0 us.length c0) (.slice p1 ms.length c1) us ms f ∧ Below w'.heap.size w' w3 := by
  obtain ⟨v, rfl, vw, vl, rfl, h0, h1⟩ := h
  obtain ⟨p0, c0, rfl⟩ := owns_slice h0
  obtain ⟨p1, c1, rfl⟩ := owns_slice h1
  have hb := putM_below w' (.slice p0 us.length c0) (.slice p1 ms.length c1) f
  exact ⟨_, _, _, _, rfl, _, rfl, ⟨putM_box _ _ _ _, owns_below h0 hb, owns_below h1 hb, hB, by rw [putM_size]; omega, fun g hg => by have := owns_lt h0 g hg; rw [putM_size]; omega, fun g hg => by have := owns_lt h1 g hg; rw [putM_size]; omega⟩, hb⟩
/-- What Live and Free answer, in a variable. -/
theorem live_putP {B : Nat} {us : List Int} {ms : List Bool} {f : Bool} {e : Ending} {w' : World} (h : LiveOk B us ms f e w') (hB : B ≤ w'.heap.size) :
    ∃ p0 c0 p1 c1, e = .returned (.tuple #[.agg #[.slice p0 us.length c0, .slice p1 ms.length c1, .bool f], .int .i64 0]) ∧
    ∃ w3, w3 = putM w' (.slice p0 us.length c0) (.slice p1 ms.length c1) f ∧ PVar w3 B w3.heap.size w'.heap.size (.slice p0 us.length c0) (.slice p1 ms.length c1) us ms f ∧ Below w'.heap.size w' w3 := by
  obtain ⟨v, rfl, ho⟩ := h
  obtain ⟨p0, c0, p1, c1, he, w3, hw3, hp, hb⟩ := own_putP ⟨v, rfl, ho⟩ hB
  injection he with he
  subst he
  exact ⟨p0, c0, p1, c1, rfl, w3, hw3, hp, hb⟩
theorem nil_putP (B : Nat) (w : World) (hB : B ≤ w.heap.size) : PVar (putM w (.slice none 0 0) (.slice none 0 0) false) B (putM w (.slice none 0 0) (.slice none 0 0) false).heap.size w.heap.size (.slice none 0 0) (.slice none 0 0) [] [] false :=
  ⟨putM_box _ _ _ _, World.ownsRow_nil _ _ _ _, World.ownsRow_nil _ _ _ _, hB, by rw [putM_size]; omega, fun g hg => by simp [Value.ownBlock] at hg, fun g hg => by simp [Value.ownBlock] at hg⟩
theorem allB_false {ls : List Bool} {x k : Nat} (h : x + k ≤ ls.length) : allB ls x k false = decide (cnt x (x + k) 0 ls = 0) := by
  rw [Bool.eq_iff_iff, decide_eq_true_iff, allB_true, cnt_zero_iff]
  constructor
  · intro hh i hi h1 h2
    have := hh (i - x) (by omega)
    rw [show x + (i - x) = i by omega, List.getD_eq_getElem?_getD, List.getElem?_eq_getElem hi] at this
    exact this
  · intro hh i hi
    rw [List.getD_eq_getElem?_getD, List.getElem?_eq_getElem (by omega)]
    exact hh (x + i) (by omega) (by omega) (by omega)
theorem allB_live {ls : List Bool} {x k : Nat} (h : x + k ≤ ls.length) : allB ls x k true = decide (cnt x (x + k) 0 ls = k) := by
  rw [Bool.eq_iff_iff, decide_eq_true_iff, allB_true]
  have hc := cnt_full_iff x (x + k) ls 0 (Nat.zero_le _) (by omega) (by omega)
  rw [show x + k - x = k by omega] at hc
  rw [hc]
  constructor
  · intro hh i hi h1 h2
    have := hh (i - x) (by omega)
    rw [show x + (i - x) = i by omega, List.getD_eq_getElem?_getD, List.getElem?_eq_getElem hi] at this
    exact this
  · intro hh i hi
    rw [List.getD_eq_getElem?_getD, List.getElem?_eq_getElem (by omega)]
    exact hh (x + i) (by omega) (by omega) (by omega)
theorem capmax_mk {x : Value} {q : Option Addr} {n c : Nat} {b : Value} (h : n ≤ c ∧ c ≤ 9223372036854775807) : ∀ (x' y' : Value) (p : Option Addr) (n' c' : Nat), Value.agg #[x, .slice q n c, b] = .agg #[x', .slice p n' c', y'] → n' ≤ c' ∧ c' ≤ 9223372036854775807 := by
  intro x' y' p n' c' e
  injection e with e
  injection e with e
  injection e with _ e
  injection e with e _
  injection e with _ e1 e2
  subst e1
  subst e2
  exact h

theorem argr_of_owns {w : World} {B : Nat} {E : TypeId} {v : Value} {n : Nat} {xs : List Value} (h : w.ownsRow B E 1 v n xs) (hl : xs.length = n) : ArgR w v xs := by
  rcases h.2 with ⟨rfl, rfl⟩ | ⟨g, cap, cur, rfl, _⟩
  · exact ⟨_, _, _, rfl, hl.symm, .inl ⟨rfl, rfl, rfl⟩⟩
  · refine ⟨_, _, _, rfl, hl.symm, .inr ⟨_, rfl, (own_cap h).1, fun j u hj => ?_⟩⟩
    rw [addr_add_off, Nat.zero_add]
    obtain ⟨hj1, rfl⟩ := List.getElem?_eq_some_iff.1 hj
    rw [h.cellAt j (by omega), List.getElem?_eq_getElem hj1]
/-- own, of a variable's memory. -/
theorem own_p {w : World} {lo hi z : Nat} {x y : Value} {ws : List Int} {ls : List Bool} {f : Bool} (h : PVar w lo hi z x y ws ls f) (hn : ws.length ≤ 16) (hm : ls.length ≤ 16) :
    Calls Try.prog 18 #[.agg #[x, y, .bool f]] w fun e w' => GivesMem w.heap.size ws ls f e w' ∧ Below w.heap.size w w' := by
  have := own_c x y f ws ls w (argr_of_owns h.words (by simp)) (argr_of_owns h.lives (by simp)) (by omega) (by omega)
  rw [List.take_of_length_le hn, List.take_of_length_le hm] at this
  exact this
/-- A variable is given rows. -/
theorem put_back {w : World} {z lo lo0 : Nat} {a b x y : Value} {f0 f : Bool} {us : List Int} {ms : List Bool} (hz : MBox w z a b f0) (h0 : w.ownsRow lo 22 1 x us.length (us.map (Value.int .u64))) (h1 : w.ownsRow lo 4 1 y ms.length (ms.map Value.bool)) (hl : lo0 ≤ lo) (hlz : lo0 ≤ z) :
    PVar (((w.setCell ⟨z, 0, none⟩ x).setCell ⟨z, 1, none⟩ y).setCell ⟨z, 2, none⟩ (.bool f)) lo0 (((w.setCell ⟨z, 0, none⟩ x).setCell ⟨z, 1, none⟩ y).setCell ⟨z, 2, none⟩ (.bool f)).heap.size z x y us ms f := by
  have hk : Keeps (fun q => q = z) w (((w.setCell ⟨z, 0, none⟩ x).setCell ⟨z, 1, none⟩ y).setCell ⟨z, 2, none⟩ (.bool f)) :=
    ((Keeps.setCell w (S := fun q => q = z) (p := ⟨z, 0, none⟩) rfl _).trans (Keeps.setCell _ (S := fun q => q = z) (p := ⟨z, 1, none⟩) rfl _)).trans (Keeps.setCell _ (S := fun q => q = z) (p := ⟨z, 2, none⟩) rfl _)
  have hs := hk.size
  exact ⟨hz.set _ _ _, (hk.row h0 (fun g hg e => hz.row h0 (by decide) hg (show g = z from e).symm)).mono hl, (hk.row h1 (fun g hg e => hz.row h1 (by decide) hg (show g = z from e).symm)).mono hl, hlz,
    Nat.lt_of_lt_of_le hz.lt hs, fun g hg => Nat.lt_of_lt_of_le (owns_lt h0 g hg) hs, fun g hg => Nat.lt_of_lt_of_le (owns_lt h1 g hg) hs⟩
/-- Block z is a variable that holds a pair. -/
def PBox (w : World) (z : Nat) (a k : Int) : Prop := w.heap[z]? = some (.cells #[.int .i64 a, .int .i64 k] 140 (0, 0))
theorem PBox.lt {w : World} {z : Nat} {a k : Int} (h : PBox w z a k) : z < w.heap.size := (Array.getElem?_eq_some_iff.1 h).1
theorem PBox.below {w w' : World} {z : Nat} {a k : Int} (h : PBox w z a k) (hb : Below w.heap.size w w') : PBox w' z a k := (hb.block z h.lt).trans h
theorem PBox.cells {w : World} {z : Nat} {a k : Int} (h : PBox w z a k) : w.cell? ⟨z, 0, none⟩ = some (.int .i64 a) ∧ w.cell? ⟨z, 1, none⟩ = some (.int .i64 k) := by
  have h' : w.heap[z]? = _ := h
  simp [World.cell?, h']
theorem PBox.keeps {S : Nat → Prop} {w w' : World} {z : Nat} {a k : Int} (h : PBox w z a k) (hk : Keeps S w w') (hz : ¬ S z) : PBox w' z a k := (hk.block z h.lt hz).trans h
theorem MBox.cells {w : World} {z : Nat} {x y : Value} {f : Bool} (h : MBox w z x y f) : w.cell? ⟨z, 0, none⟩ = some x ∧ w.cell? ⟨z, 1, none⟩ = some y ∧ w.cell? ⟨z, 2, none⟩ = some (.bool f) := (mbox_cells h).1
theorem nil_mem (w : World) : MemAt w (.agg #[.slice none 0 0, .slice none 0 0, .bool false]) [] [] false := ⟨_, _, rfl, ⟨none, 0, rfl, fun h => absurd rfl h⟩, ⟨none, 0, rfl, fun h => absurd rfl h⟩⟩
theorem tag_cases (us : List Int) (ms : List Bool) (a k : Int) : rightB us ms = false ∨ (rightB us ms = true ∧ thereB us.length a k = false) ∨
    (rightB us ms = true ∧ thereB us.length a k = true ∧ cnt a.toNat (a.toNat + k.toNat) 0 ms = 0 ∧ cnt a.toNat (a.toNat + k.toNat) 0 ms < k.toNat) ∨
    (rightB us ms = true ∧ thereB us.length a k = true ∧ cnt a.toNat (a.toNat + k.toNat) 0 ms ≠ 0 ∧ cnt a.toNat (a.toNat + k.toNat) 0 ms = k.toNat) ∨
    (rightB us ms = true ∧ thereB us.length a k = true ∧ cnt a.toNat (a.toNat + k.toNat) 0 ms ≠ 0 ∧ cnt a.toNat (a.toNat + k.toNat) 0 ms < k.toNat) := by
  cases hr : rightB us ms with
  | false => exact .inl rfl
  | true =>
    cases ht : thereB us.length a k with
    | false => exact .inr (.inl ⟨rfl, rfl⟩)
    | true =>
      have hle := cnt_le a.toNat (a.toNat + k.toNat) ms 0
      have hk := (thereB_iff.1 ht).1
      by_cases h0 : cnt a.toNat (a.toNat + k.toNat) 0 ms = 0
      · exact .inr (.inr (.inl ⟨rfl, rfl, h0, by omega⟩))
      · by_cases h1 : cnt a.toNat (a.toNat + k.toNat) 0 ms = k.toNat
        · exact .inr (.inr (.inr (.inl ⟨rfl, rfl, h0, h1⟩)))
        · exact .inr (.inr (.inr (.inr ⟨rfl, rfl, h0, by omega⟩)))

end Go.Proofs.Ytcnpmkigiklnnaa
/-
  slices.Clone at a row of accesses; and Step, of the document's answers of layer 2: the memory behind an access, and what it comes to.
  Conditions: as each has them.
-/
namespace Go.Proofs.Ytcnpmkigiklnnaa
open Go.RowKit Go.Shelf

theorem cloneA_info : (Try.prog.info? 31).map (fun i => (i.zero, i.size, i.bytes)) = some (some (.agg #[.int .i64 0, .int .i64 0, .int .u64 0, .int .u64 0]), 4, 32) := by kernel_rfl

/-- What Step hands over. -/
def RefStep (B : Nat) (ms : List Bool) (r : List Int × Bool × (Int × Bool)) (e : Ending) (w' : World) : Prop := ∃ v', e = .returned (.tuple #[v', .agg #[.int .u64 r.2.2.1, .bool r.2.2.2]]) ∧ OwnsMem w' B v' r.1 ms r.2.1
/-- The variables for the results are given them. -/
def putR (w : World) (z : Nat) (x y : Value) (f : Bool) (g : Int) (d : Bool) : World := ((((w.setCell ⟨z, 0, none⟩ x).setCell ⟨z, 1, none⟩ y).setCell ⟨z, 2, none⟩ (.bool f)).setCell ⟨z + 1, 0, none⟩ (.int .u64 g)).setCell ⟨z + 1, 1, none⟩ (.bool d)
theorem putR_keeps (w : World) (z : Nat) (x y : Value) (f : Bool) (g : Int) (d : Bool) : Keeps (fun q => q = z ∨ q = z + 1) w (putR w z x y f g d) :=
  ((((Keeps.setCell w (S := fun q => q = z ∨ q = z + 1) (p := ⟨z, 0, none⟩) (.inl rfl) _).trans (Keeps.setCell _ (S := fun q => q = z ∨ q = z + 1) (p := ⟨z, 1, none⟩) (.inl rfl) _)).trans (Keeps.setCell _ (S := fun q => q = z ∨ q = z + 1) (p := ⟨z, 2, none⟩) (.inl rfl) _)).trans (Keeps.setCell _ (S := fun q => q = z ∨ q = z + 1) (p := ⟨z + 1, 0, none⟩) (.inr rfl) _)).trans (Keeps.setCell _ (S := fun q => q = z ∨ q = z + 1) (p := ⟨z + 1, 1, none⟩) (.inr rfl) _)
theorem putR_owns {w : World} {z B : Nat} {x y : Value} {f f0 : Bool} {g g0 : Int} {d d0 : Bool} {a b : Value} {us : List Int} {ms : List Bool} (hz : MBox w z a b f0) (hg : GBox w (z + 1) g0 d0) (h0 : w.ownsRow B 22 1 x us.length (us.map (Value.int .u64))) (h1 : w.ownsRow B 4 1 y ms.length (ms.map Value.bool)) :
    OwnsMem (putR w z x y f g d) B (.agg #[x, y, .bool f]) us ms f := by
  have hne : ∀ {E : TypeId} {n : Nat} {v : Value} {xs : List Value}, w.ownsRow B E 1 v n xs → E ≠ 46 → E ≠ 36 → ∀ q, v.ownBlock = some q → ¬ (q = z ∨ q = z + 1) := by
    intro E n v xs h hE hE2 q hq hs
    obtain ⟨c, fz, h1⟩ := Lib.ownsRow_kind h q hq
    rcases hs with rfl | rfl
    · rw [show w.heap[q]? = _ from hz] at h1
      simp at h1
      exact hE h1.2.1.symm
    · rw [show w.heap[z + 1]? = _ from hg] at h1
      simp at h1
      exact hE2 h1.2.1.symm
  exact ⟨_, _, rfl, (putR_keeps w z x y f g d).row h0 (hne h0 (by decide) (by decide)), (putR_keeps w z x y f g d).row h1 (hne h1 (by decide) (by decide))⟩

end Go.Proofs.Ytcnpmkigiklnnaa
namespace Go.Proofs.Ytcnpmkigiklnnaa
open Go.RowKit Go.Shelf

set_option maxRecDepth 100000 in
set_option maxHeartbeats 4000000 in
theorem refStep_c (B : Nat) (x y : Value) (us : List Int) (ms : List Bool) (f : Bool) (k a o n : Int) (W : World) (h0 : W.ownsRow B 22 1 x us.length (us.map (Value.int .u64))) (h1 : W.ownsRow B 4 1 y ms.length (ms.map Value.bool)) (hB : B ≤ W.heap.size)
    (hk1 : 1 ≤ k) (hk3 : k ≤ 3) (hr : rightB us ms = true) :
    Calls Try.prog 41 #[.agg #[x, y, .bool f], .agg #[.int .i64 k, .int .i64 a, .int .u64 o, .int .u64 n]] W fun e w' => RefStep B ms (accM us ms f k a o n) e w' ∧ Below W.heap.size W w' := by
  obtain ⟨hn1, hn2, hlen, -⟩ := rightB_iff.1 hr
  obtain ⟨gw, cw, rfl, hgw, _⟩ := own_form h0 (by omega)
  obtain ⟨gl, cl, rfl, hgl, _⟩ := own_form h1 (by omega)
  obtain ⟨z, hz⟩ : ∃ z, z = W.heap.size := ⟨_, rfl⟩
  obtain ⟨wo, hwo⟩ : ∃ wo : World, wo = (((W.alloc (.cells #[.slice (some ⟨gw, 0, none⟩) us.length cw, .slice (some ⟨gl, 0, none⟩) ms.length cl, .bool f] 46)).alloc (.cells #[.int .i64 k, .int .i64 a, .int .u64 o, .int .u64 n] 31)).alloc (.cells #[.slice none 0 0, .slice none 0 0, .bool false] 46)).alloc (.cells #[.int .u64 0, .bool false] 36) := ⟨_, rfl⟩
  have hbo : Below W.heap.size W wo := by rw [hwo]; exact ((((Below.refl _ _).alloc (Nat.le_refl _) _).alloc (by simp) _).alloc (by simp; omega) _).alloc (by simp; omega) _
  have HZM := Lib.hid (show MBox wo z (.slice (some ⟨gw, 0, none⟩) us.length cw) (.slice (some ⟨gl, 0, none⟩) ms.length cl) f by rw [hwo, hz]; exact (((MBox.new _ _ _ _).alloc _).alloc _).alloc _)
  have HZA := Lib.hid (show AcBox wo (z + 1) k a o n by
    have : AcBox ((W.alloc (.cells #[.slice (some ⟨gw, 0, none⟩) us.length cw, .slice (some ⟨gl, 0, none⟩) ms.length cl, .bool f] 46)).alloc (.cells #[.int .i64 k, .int .i64 a, .int .u64 o, .int .u64 n] 31)) _ k a o n := World.alloc_heap_new _ _
    rw [World.size_alloc] at this
    rw [hwo, hz]; exact (this.keeps (Keeps.alloc (fun _ => False) _ _) (fun h => h)).keeps (Keeps.alloc (fun _ => False) _ _) (fun h => h))
  have HZ4 := Lib.hid (show MBox wo (z + 1 + 1) (.slice none 0 0) (.slice none 0 0) false by
    have := MBox.new ((W.alloc (.cells #[.slice (some ⟨gw, 0, none⟩) us.length cw, .slice (some ⟨gl, 0, none⟩) ms.length cl, .bool f] 46)).alloc (.cells #[.int .i64 k, .int .i64 a, .int .u64 o, .int .u64 n] 31)) (.slice none 0 0) (.slice none 0 0) false
    rw [World.size_alloc, World.size_alloc] at this
    rw [hwo, hz]; exact this.alloc _)
  have HZ5 := Lib.hid (show GBox wo (z + 1 + 1 + 1) 0 false by
    have : GBox ((((W.alloc (.cells #[.slice (some ⟨gw, 0, none⟩) us.length cw, .slice (some ⟨gl, 0, none⟩) ms.length cl, .bool f] 46)).alloc (.cells #[.int .i64 k, .int .i64 a, .int .u64 o, .int .u64 n] 31)).alloc (.cells #[.slice none 0 0, .slice none 0 0, .bool false] 46)).alloc (.cells #[.int .u64 0, .bool false] 36)) _ 0 false := World.alloc_heap_new _ _
    rw [World.size_alloc, World.size_alloc, World.size_alloc] at this
    rw [hwo, hz]; exact this)
  have HW0 := Lib.hid h0
  have HL0 := Lib.hid h1
  have HOW := Lib.hid (owns_below h0 hbo)
  have HOL := Lib.hid (owns_below h1 hbo)
  have HBO := Lib.hid hbo
  have HZ := Lib.hid hz
  have HLEN := Lib.hid hlen
  have hdM := (mbox_cells HZM.out).1
  have hfM := (mbox_cells HZM.out).2
  obtain ⟨hdm0, hdm1, hdm2⟩ := hdM
  obtain ⟨_, _, hfm2⟩ := hfM
  obtain ⟨hda0, hda1, hda2, hda3⟩ := HZA.out.cells
  obtain ⟨⟨hd40, hd41, hd42⟩, hf40, hf41, hf42⟩ := mbox_cells HZ4.out
  obtain ⟨⟨hd50, hd51⟩, hf50, hf51⟩ := gbox_cells HZ5.out
  rw [hwo] at hdm0 hdm1 hdm2 hfm2 hda0 hda1 hda2 hda3 hd40 hd41 hd42 hf40 hf41 hf42 hd50 hd51 hf50 hf51
  have HWO := Lib.hid hwo
  clear h0 h1 hbo hlen hwo
  by_cases hin : 0 ≤ a ∧ a < (us.length : Int)
  · obtain ⟨i, rfl⟩ := Int.eq_ofNat_of_zero_le hin.1
    have hlt : i < us.length := by omega
    have hlt2 : i < ms.length := by have := HLEN.out; omega
    have hilt : (i : Int) < (us.length : Int) := hin.2
    have hilt2 : (i : Int) < (ms.length : Int) := by omega
    have hcw := HOW.out.cellAt i (by omega)
    have hcl := HOL.out.cellAt i (by omega)
    rw [List.getElem?_eq_getElem (by simpa using hlt), List.getElem_map] at hcw
    rw [List.getElem?_eq_getElem (by simpa using hlt2), List.getElem_map] at hcl
    have HGD := Lib.hid (show us.getD (i : Int).toNat 0 = us[i] by rw [Int.toNat_natCast, List.getD_eq_getElem?_getD, List.getElem?_eq_getElem hlt]; rfl)
    have HLA := Lib.hid (show liveAt us ms (i : Int) = ms[i] by rw [liveAt, Int.toNat_natCast, List.getD_eq_getElem?_getD, List.getElem?_eq_getElem hlt2, Option.getD_some, thereB_iff.2 ⟨by omega, by omega, by omega⟩, Bool.true_and])
    obtain ⟨h, hh⟩ : ∃ h, h = us[i] := ⟨_, rfl⟩
    obtain ⟨b, hb⟩ : ∃ b, b = ms[i] := ⟨_, rfl⟩
    rw [← hh] at hcw HGD
    rw [← hb] at hcl HLA
    rw [HWO.out] at hcw hcl
    clear hh hb hin
    cases b
    · have HLV := Lib.hid (accM_out HLA.out f k o n)
      clear hdm0 hdm1 hdm2 hfm2 hda0 hda1 hda2 hda3 hd40 hd41 hd42 hf40 hf41 hf42 hd50 hd51 hf50 hf51
      go_enter Try.func41, Try.ntmps41
      go_wp2
      exact bodyPost_ret (v := .tuple #[.agg #[(.slice (some ⟨gw, 0, none⟩) us.length cw), (.slice (some ⟨gl, 0, none⟩) ms.length cl), .bool true], .agg #[.int .u64 0, .bool false]]) (by simp [results, Try.results41, go_sem]) rfl ⟨by rw [HLV.out]; exact ⟨_, rfl, _, _, rfl, (((HW0.out.alloc _).alloc _).alloc _).alloc _, (((HL0.out.alloc _).alloc _).alloc _).alloc _⟩, ((((Below.refl _ _).alloc (Nat.le_refl _) _).alloc (by simp) _).alloc (by simp; omega) _).alloc (by simp; omega) _⟩
    · by_cases h1 : k = 1
      · subst h1
        have HLV := Lib.hid (show accM us ms f 1 (i : Int) o n = (us, f, h, true) by rw [accM_load HLA.out, HGD.out])
        clear hdm0 hdm1 hdm2 hfm2 hda0 hda1 hda2 hda3 hd40 hd41 hd42 hf40 hf41 hf42 hd50 hd51 hf50 hf51
        go_enter Try.func41, Try.ntmps41
        go_wp2
        exact bodyPost_ret (v := .tuple #[.agg #[(.slice (some ⟨gw, 0, none⟩) us.length cw), (.slice (some ⟨gl, 0, none⟩) ms.length cl), .bool f], .agg #[.int .u64 h, .bool true]]) (by simp [results, Try.results41, go_sem]) rfl ⟨by rw [HLV.out]; exact ⟨_, rfl, _, _, rfl, (((HW0.out.alloc _).alloc _).alloc _).alloc _, (((HL0.out.alloc _).alloc _).alloc _).alloc _⟩, ((((Below.refl _ _).alloc (Nat.le_refl _) _).alloc (by simp) _).alloc (by simp; omega) _).alloc (by simp; omega) _⟩
      · by_cases h2 : k = 2
        · subst h2
          have HMS := Lib.hid (show ms.set i true = ms by have h1 := HLA.out; rw [liveAt, Int.toNat_natCast] at h1; simp only [Bool.and_eq_true] at h1; have h2 := h1.2; rw [List.getD_eq_getElem?_getD, List.getElem?_eq_getElem hlt2, Option.getD_some] at h2; have h3 : ms.set i ms[i] = ms := List.set_getElem_self hlt2; rwa [h2] at h3)
          obtain ⟨uN, huN⟩ : ∃ u, u = us.set i n := ⟨_, rfl⟩
          have HUN := Lib.hid huN
          clear huN
          have HLV := Lib.hid (show accM us ms f 2 (i : Int) o n = (uN, f, h, true) by rw [accM_store HLA.out, HGD.out, Int.toNat_natCast, HUN.out])
          go_enter Try.func41, Try.ntmps41
          go_wp2_with fail
          rw [← HWO.out]
          clear hdm0 hdm1 hdm2 hfm2 hda0 hda1 hda2 hda3 hd40 hd41 hd42 hf40 hf41 hf42 hd50 hd51 hf50 hf51 hcw hcl
          refine (with_c _ us ms f i n true wo ⟨_, _, rfl, nums_of_owns rfl HOW.out, bools_of_owns rfl HOL.out⟩ HLEN.out hn2).mono ?_
          rintro e w1 ⟨⟨_, rfl, _, _, rfl, h0, h1⟩, hb⟩
          obtain ⟨pN, cN, rfl⟩ := owns_slice h0
          obtain ⟨qN, dN, rfl⟩ := owns_slice h1
          rw [HMS.out] at h1 ⊢
          rw [← HUN.out] at h0 ⊢
          have hz4 := HZ4.out.below hb
          have hz5 := HZ5.out.below hb
          obtain ⟨⟨hd40, hd41, hd42⟩, hf40, hf41, hf42⟩ := mbox_cells hz4
          obtain ⟨⟨hd50, hd51⟩, hf50, hf51⟩ := gbox_cells hz5
          have hBw : B ≤ wo.heap.size := Nat.le_trans hB HBO.out.size
          have HE := Lib.hid (putR_owns (f := f) (g := h) (d := true) hz4 hz5 (h0.mono hBw) (h1.mono hBw))
          have HBE := Lib.hid ((below_then HBO.out HBO.out.size hb).trans ((putR_keeps w1 (z + 1 + 1) (.slice pN uN.length cN) (.slice qN ms.length dN) f h true).below (Nat.le_trans HBO.out.size hb.size) (fun q hq => by have hq : q = z + 1 + 1 ∨ q = z + 1 + 1 + 1 := hq; have := HZ.out; omega)))
          unfold putR at HE HBE
          clear HOW HOL HZ4 HZ5 HZM HWO HLEN h0 h1 hb hz4 hz5 hBw hz
          rw [HZ.out] at hd40 hd41 hd42 hf40 hf41 hf42 hd50 hd51 hf50 hf51 HE HBE
          go_wp2
          exact bodyPost_ret (v := .tuple #[.agg #[(.slice pN uN.length cN), (.slice qN ms.length dN), .bool f], .agg #[.int .u64 h, .bool true]]) (by simp [results, Try.results41, go_sem, hd40, hd41, hd42, hd50, hd51]) rfl ⟨by rw [HLV.out]; exact ⟨_, rfl, HE.out⟩, HBE.out⟩
        · obtain rfl : k = 3 := by omega
          by_cases hho : h = o
          · subst hho
            have hho' : (h != h) = false := by simp
            have HMS := Lib.hid (show ms.set i true = ms by have h1 := HLA.out; rw [liveAt, Int.toNat_natCast] at h1; simp only [Bool.and_eq_true] at h1; have h2 := h1.2; rw [List.getD_eq_getElem?_getD, List.getElem?_eq_getElem hlt2, Option.getD_some] at h2; have h3 : ms.set i ms[i] = ms := List.set_getElem_self hlt2; rwa [h2] at h3)
            obtain ⟨uN, huN⟩ : ∃ u, u = us.set i n := ⟨_, rfl⟩
            have HUN := Lib.hid huN
            clear huN
            have HLV := Lib.hid (show accM us ms f 3 (i : Int) h n = (uN, f, h, true) by rw [accM_yes HLA.out f h n HGD.out, HGD.out, Int.toNat_natCast, HUN.out])
            go_enter Try.func41, Try.ntmps41
            go_wp2_with fail
            rw [← HWO.out]
            clear hdm0 hdm1 hdm2 hfm2 hda0 hda1 hda2 hda3 hd40 hd41 hd42 hf40 hf41 hf42 hd50 hd51 hf50 hf51 hcw hcl
            refine (with_c _ us ms f i n true wo ⟨_, _, rfl, nums_of_owns rfl HOW.out, bools_of_owns rfl HOL.out⟩ HLEN.out hn2).mono ?_
            rintro e w1 ⟨⟨_, rfl, _, _, rfl, h0, h1⟩, hb⟩
            obtain ⟨pN, cN, rfl⟩ := owns_slice h0
            obtain ⟨qN, dN, rfl⟩ := owns_slice h1
            rw [HMS.out] at h1 ⊢
            rw [← HUN.out] at h0 ⊢
            have hz4 := HZ4.out.below hb
            have hz5 := HZ5.out.below hb
            obtain ⟨⟨hd40, hd41, hd42⟩, hf40, hf41, hf42⟩ := mbox_cells hz4
            obtain ⟨⟨hd50, hd51⟩, hf50, hf51⟩ := gbox_cells hz5
            have hBw : B ≤ wo.heap.size := Nat.le_trans hB HBO.out.size
            have HE := Lib.hid (putR_owns (f := f) (g := h) (d := true) hz4 hz5 (h0.mono hBw) (h1.mono hBw))
            have HBE := Lib.hid ((below_then HBO.out HBO.out.size hb).trans ((putR_keeps w1 (z + 1 + 1) (.slice pN uN.length cN) (.slice qN ms.length dN) f h true).below (Nat.le_trans HBO.out.size hb.size) (fun q hq => by have hq : q = z + 1 + 1 ∨ q = z + 1 + 1 + 1 := hq; have := HZ.out; omega)))
            unfold putR at HE HBE
            clear HOW HOL HZ4 HZ5 HZM HWO HLEN h0 h1 hb hz4 hz5 hBw hz
            rw [HZ.out] at hd40 hd41 hd42 hf40 hf41 hf42 hd50 hd51 hf50 hf51 HE HBE
            go_wp2
            exact bodyPost_ret (v := .tuple #[.agg #[(.slice pN uN.length cN), (.slice qN ms.length dN), .bool f], .agg #[.int .u64 h, .bool true]]) (by simp [results, Try.results41, go_sem, hd40, hd41, hd42, hd50, hd51]) rfl ⟨by rw [HLV.out]; exact ⟨_, rfl, HE.out⟩, HBE.out⟩
          · have HLV := Lib.hid (show accM us ms f 3 (i : Int) o n = (us, f, h, false) by rw [accM_no HLA.out f o n (by rw [HGD.out]; exact hho), HGD.out])
            have hho' : (h != o) = true := by simpa using hho
            clear hdm0 hdm1 hdm2 hfm2 hda0 hda1 hda2 hda3 hd40 hd41 hd42 hf40 hf41 hf42 hd50 hd51 hf50 hf51
            go_enter Try.func41, Try.ntmps41
            go_wp2
            exact bodyPost_ret (v := .tuple #[.agg #[(.slice (some ⟨gw, 0, none⟩) us.length cw), (.slice (some ⟨gl, 0, none⟩) ms.length cl), .bool f], .agg #[.int .u64 h, .bool false]]) (by simp [results, Try.results41, go_sem]) rfl ⟨by rw [HLV.out]; exact ⟨_, rfl, _, _, rfl, (((HW0.out.alloc _).alloc _).alloc _).alloc _, (((HL0.out.alloc _).alloc _).alloc _).alloc _⟩, ((((Below.refl _ _).alloc (Nat.le_refl _) _).alloc (by simp) _).alloc (by simp; omega) _).alloc (by simp; omega) _⟩
  · have HLV := Lib.hid (accM_out (show liveAt us ms a = false by rw [liveAt, show thereB us.length a 1 = false by simp [thereB]; omega, Bool.false_and]) f k o n)
    clear hdm0 hdm1 hdm2 hfm2 hda0 hda1 hda2 hda3 hd40 hd41 hd42 hf40 hf41 hf42 hd50 hd51 hf50 hf51
    by_cases hneg : a < 0
    all_goals
      go_enter Try.func41, Try.ntmps41
      go_wp2
      exact bodyPost_ret (v := .tuple #[.agg #[(.slice (some ⟨gw, 0, none⟩) us.length cw), (.slice (some ⟨gl, 0, none⟩) ms.length cl), .bool true], .agg #[.int .u64 0, .bool false]]) (by simp [results, Try.results41, go_sem]) rfl ⟨by rw [HLV.out]; exact ⟨_, rfl, _, _, rfl, (((HW0.out.alloc _).alloc _).alloc _).alloc _, (((HL0.out.alloc _).alloc _).alloc _).alloc _⟩, ((((Below.refl _ _).alloc (Nat.le_refl _) _).alloc (by simp) _).alloc (by simp; omega) _).alloc (by simp; omega) _⟩

end Go.Proofs.Ytcnpmkigiklnnaa
