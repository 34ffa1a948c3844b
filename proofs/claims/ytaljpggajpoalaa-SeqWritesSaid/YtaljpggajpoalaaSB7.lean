/-
  begin, of a reader of package seq.
  Conditions: the memory may be, the read may be.
-/
import Derived.Test.YtaljpggajpoalaaSB6
import Derived.RegionTactic
import Derived.Test.YtaljpggajpoalaaSB2
import Derived.Test.YtaljpggajpoalaaSB4
import Derived.MapKept
import Derived.Test.YtaljpggajpoalaaSB5
import Derived.Deep.RegionHeld3
import Derived.BigQuiet
/-
  Live and Free, of the document's answers of layer 2: the memory with so many words live, or free; what was in memory stays.
  Conditions: the memory has as many words as truth values, at most 4096, and the words are there.
-/
namespace Go.Proofs.Ytaljpggajpoalaa
open Go.RowKit Go.Shelf

/-- A memory's value reads so, whatever becomes of the blocks z and z + 1. -/
def Firm (z : Nat) (wr : World) (v : Value) (ws : List Int) (ls : List Bool) (f : Bool) : Prop := ∀ w2, Keeps (fun q => q = z ∨ q = z + 1) wr w2 → MemAt w2 v ws ls f
theorem Firm.now {z : Nat} {wr : World} {v : Value} {ws : List Int} {ls : List Bool} {f : Bool} (h : Firm z wr v ws ls f) : MemAt wr v ws ls f := h wr (Keeps.refl _ _)
theorem Firm.later {z : Nat} {wr w2 : World} {v : Value} {ws : List Int} {ls : List Bool} {f : Bool} (h : Firm z wr v ws ls f) (hk : Keeps (fun q => q = z ∨ q = z + 1) wr w2) : Firm z w2 v ws ls f := fun w3 h3 => h w3 (hk.trans h3)
theorem Firm.of_owns {z B : Nat} {w : World} {v0 v1 : Value} {ws : List Int} {ls : List Bool} {f : Bool} (h0 : w.ownsRow B 27 1 v0 ws.length (ws.map (Value.int .u64))) (h1 : w.ownsRow B 4 1 v1 ls.length (ls.map Value.bool)) (hz : z + 1 < B) : Firm z w (.agg #[v0, v1, .bool f]) ws ls f := fun w2 hk =>
  ⟨_, _, rfl, nums_of_owns rfl (hk.row' h0 (fun q hq => by rcases hq with rfl | rfl <;> omega)), bools_of_owns rfl (hk.row' h1 (fun q hq => by rcases hq with rfl | rfl <;> omega))⟩
theorem Firm.of_old {W w : World} {v : Value} {ws : List Int} {ls : List Bool} {f : Bool} (h : MemAt W v ws ls f) (hb : Below W.heap.size W w) : Firm W.heap.size w v ws ls f := fun w2 hk =>
  h.below (hb.trans (hk.below hb.size (fun q hq => by rcases hq with rfl | rfl <;> omega)))

end Go.Proofs.Ytaljpggajpoalaa
/-
  spoil, of the statements of layer 2: it writes over the two rows of a memory, and over nothing else.
  Conditions: the memory has rows of its own.
-/
namespace Go.Proofs.Ytaljpggajpoalaa
open Go.RowKit Go.Shelf

/-- What holds while the rows are written over. -/
structure SpInv (B z : Nat) (vw vl : Value) (f : Bool) (n m : Nat) (us : List Int) (ms : List Bool) (W w : World) : Prop where
  box : MBox w z vw vl f
  words : w.ownsRow B 27 1 vw n (us.map (Value.int .u64))
  lives : w.ownsRow B 4 1 vl m (ms.map Value.bool)
  keeps : Keeps (fun q => vw.ownBlock = some q ∨ vl.ownBlock = some q) W w
theorem SpInv.drew {B z : Nat} {vw vl : Value} {f : Bool} {n m : Nat} {us : List Int} {ms : List Bool} {W w : World} (h : SpInv B z vw vl f n m us ms W w) : SpInv B z vw vl f n m us ms W w.drew := ⟨h.box, h.words.drew, h.lives.drew, h.keeps.drewN 1⟩

end Go.Proofs.Ytaljpggajpoalaa
/-
  Variables that hold memories, by where they and their rows lie; the contracts of layer 2 in that form.
  Conditions: as each has them.
-/
namespace Go.Proofs.Ytaljpggajpoalaa
open Go.RowKit Go.Shelf

/-- Block z is a variable that holds a memory of its own; it and its rows lie from block lo on, ahead of hi. -/
structure PVar (w : World) (lo hi z : Nat) (x y : Value) (ws : List Int) (ls : List Bool) (f : Bool) : Prop where
  box : MBox w z x y f
  words : w.ownsRow lo 27 1 x ws.length (ws.map (Value.int .u64))
  lives : w.ownsRow lo 4 1 y ls.length (ls.map Value.bool)
  from' : lo ≤ z
  to' : z < hi
  wlt : ∀ g, x.ownBlock = some g → g < hi
  llt : ∀ g, y.ownBlock = some g → g < hi
section
variable {w w' : World} {lo hi z : Nat} {x y : Value} {ws : List Int} {ls : List Bool} {f : Bool}
theorem PVar.keeps (h : PVar w lo hi z x y ws ls f) {S : Nat → Prop} (hk : Keeps S w w') (hS : ∀ q, S q → q < lo ∨ hi ≤ q) : PVar w' lo hi z x y ws ls f :=
  ⟨h.box.keeps hk (fun hs => by have := hS _ hs; have := h.from'; have := h.to'; omega), hk.row h.words (fun g hg hs => by have := hS _ hs; have := (h.words.lt g hg).1; have := h.wlt g hg; omega),
    hk.row h.lives (fun g hg hs => by have := hS _ hs; have := (h.lives.lt g hg).1; have := h.llt g hg; omega), h.from', h.to', h.wlt, h.llt⟩
theorem PVar.below (h : PVar w lo hi z x y ws ls f) (hb : Below w.heap.size w w') : PVar w' lo hi z x y ws ls f := h.keeps (Keeps.of_below (S := fun _ => False) hb) (fun _ h => h.elim)
theorem PVar.wide (h : PVar w lo hi z x y ws ls f) {lo' hi' : Nat} (h1 : lo' ≤ lo) (h2 : hi ≤ hi') : PVar w lo' hi' z x y ws ls f :=
  ⟨h.box, h.words.mono h1, h.lives.mono h1, Nat.le_trans h1 h.from', Nat.lt_of_lt_of_le h.to' h2, fun g hg => Nat.lt_of_lt_of_le (h.wlt g hg) h2, fun g hg => Nat.lt_of_lt_of_le (h.llt g hg) h2⟩
theorem PVar.var (h : PVar w lo hi z x y ws ls f) : MVar w z x y ws ls f := ⟨h.box, nums_of_owns rfl h.words, bools_of_owns rfl h.lives⟩
theorem PVar.mem (h : PVar w lo hi z x y ws ls f) : MemAt w (.agg #[x, y, .bool f]) ws ls f := h.var.mem
theorem PVar.cells (h : PVar w lo hi z x y ws ls f) : w.cell? ⟨z, 0, none⟩ = some x ∧ w.cell? ⟨z, 1, none⟩ = some y ∧ w.cell? ⟨z, 2, none⟩ = some (.bool f) := h.var.cells
theorem PVar.free (h : PVar w lo hi z x y ws ls f) : w.frozen? ⟨z, 0, none⟩ = false ∧ w.frozen? ⟨z, 1, none⟩ = false ∧ w.frozen? ⟨z, 2, none⟩ = false := (mbox_cells h.box).2
end
theorem owns_lt {w : World} {B : Nat} {E : TypeId} {s n : Nat} {v : Value} {xs : List Value} (h : w.ownsRow B E s v n xs) : ∀ g, v.ownBlock = some g → g < w.heap.size := fun g hg => (h.lt g hg).2
theorem putM_size (w : World) (x y : Value) (f : Bool) : (putM w x y f).heap.size = w.heap.size + 1 := by simp [putM]
/-- What own answers, in a variable. -/
theorem own_putP {B : Nat} {us : List Int} {ms : List Bool} {f : Bool} {e : Ending} {w' : World} (h : GivesMem B us ms f e w') (hB : B ≤ w'.heap.size) :
    ∃ p0 c0 p1 c1, e = .returned (.agg #[.slice p0 us.length c0, .slice p1 ms.length c1, .bool f]) ∧
    ∃ w3, w3 = putM w' (.slice p0 us.length c0) (.slice p1 ms.length c1) f ∧ PVar w3 B w3.heap.size w'.heap.size (.slice p0 us.length c0) (.slice p1 ms.length c1) us ms f ∧ Below w'.heap.size w' w3 := by
  obtain ⟨v, rfl, vw, vl, rfl, h0, h1⟩ := h
  obtain ⟨p0, c0, rfl⟩ := owns_slice h0
  obtain ⟨p1, c1, rfl⟩ := owns_slice h1
  have hb := putM_below w' (.slice p0 us.length c0) (.slice p1 ms.length c1) f
  exact ⟨_, _, _, _, rfl, _, rfl, ⟨putM_box _ _ _ _, owns_below h0 hb, owns_below h1 hb, hB, by rw [putM_size]; omega, fun g hg => by have := owns_lt h0 g hg; rw [putM_size]; omega, fun g hg => by have := owns_lt h1 g hg; rw [putM_size]; omega⟩, hb⟩
/-- What Live and Free answer, in a variable. -/
theorem live_putP {B : Nat} {us : List Int} {ms : List Bool} {f : Bool} {e : Ending} {w' : World} (h : LiveOk B us ms f e w') (hB : B ≤ w'.heap.size) :
    ∃ p0 c0 p1 c1, e = .returned (.tuple #[.agg #[.slice p0 us.length c0, .slice p1 ms.length c1, .bool f], .int .i64 0]) ∧
    ∃ w3, w3 = putM w' (.slice p0 us.length c0) (.slice p1 ms.length c1) f ∧ PVar w3 B w3.heap.size w'.heap.size (.slice p0 us.length c0) (.slice p1 ms.length c1) us ms f ∧ Below w'.heap.size w' w3 := by
  obtain ⟨v, rfl, ho⟩ := h
  obtain ⟨p0, c0, p1, c1, he, w3, hw3, hp, hb⟩ := own_putP ⟨v, rfl, ho⟩ hB
  injection he with he
  subst he
  exact ⟨p0, c0, p1, c1, rfl, w3, hw3, hp, hb⟩
theorem nil_putP (B : Nat) (w : World) (hB : B ≤ w.heap.size) : PVar (putM w (.slice none 0 0) (.slice none 0 0) false) B (putM w (.slice none 0 0) (.slice none 0 0) false).heap.size w.heap.size (.slice none 0 0) (.slice none 0 0) [] [] false :=
  ⟨putM_box _ _ _ _, World.ownsRow_nil _ _ _ _, World.ownsRow_nil _ _ _ _, hB, by rw [putM_size]; omega, fun g hg => by simp [Value.ownBlock] at hg, fun g hg => by simp [Value.ownBlock] at hg⟩
theorem allB_false {ls : List Bool} {x k : Nat} (h : x + k ≤ ls.length) : allB ls x k false = decide (cnt x (x + k) 0 ls = 0) := by
  rw [Bool.eq_iff_iff, decide_eq_true_iff, allB_true, cnt_zero_iff]
  constructor
  · intro hh i hi h1 h2
    have := hh (i - x) (by omega)
    rw [show x + (i - x) = i by omega, List.getD_eq_getElem?_getD, List.getElem?_eq_getElem hi] at this
    exact this
  · intro hh i hi
    rw [List.getD_eq_getElem?_getD, List.getElem?_eq_getElem (by omega)]
    exact hh (x + i) (by omega) (by omega) (by omega)
theorem allB_live {ls : List Bool} {x k : Nat} (h : x + k ≤ ls.length) : allB ls x k true = decide (cnt x (x + k) 0 ls = k) := by
  rw [Bool.eq_iff_iff, decide_eq_true_iff, allB_true]
  have hc := cnt_full_iff x (x + k) ls 0 (Nat.zero_le _) (by omega) (by omega)
  rw [show x + k - x = k by omega] at hc
  rw [hc]
  constructor
  · intro hh i hi h1 h2
    have := hh (i - x) (by omega)
    rw [show x + (i - x) = i by omega, List.getD_eq_getElem?_getD, List.getElem?_eq_getElem hi] at this
    exact this
  · intro hh i hi
    rw [List.getD_eq_getElem?_getD, List.getElem?_eq_getElem (by omega)]
    exact hh (x + i) (by omega) (by omega) (by omega)
theorem capmax_mk {x : Value} {q : Option Addr} {n c : Nat} {b : Value} (h : n ≤ c ∧ c ≤ 9223372036854775807) : ∀ (x' y' : Value) (p : Option Addr) (n' c' : Nat), Value.agg #[x, .slice q n c, b] = .agg #[x', .slice p n' c', y'] → n' ≤ c' ∧ c' ≤ 9223372036854775807 := by
  intro x' y' p n' c' e
  injection e with e
  injection e with e
  injection e with _ e
  injection e with e _
  injection e with _ e1 e2
  subst e1
  subst e2
  exact h

theorem argr_of_owns {w : World} {B : Nat} {E : TypeId} {v : Value} {n : Nat} {xs : List Value} (h : w.ownsRow B E 1 v n xs) (hl : xs.length = n) : ArgR w v xs := by
  rcases h.2 with ⟨rfl, rfl⟩ | ⟨g, cap, cur, rfl, _⟩
  · exact ⟨_, _, _, rfl, hl.symm, .inl ⟨rfl, rfl, rfl⟩⟩
  · refine ⟨_, _, _, rfl, hl.symm, .inr ⟨_, rfl, (own_cap h).1, fun j u hj => ?_⟩⟩
    rw [addr_add_off, Nat.zero_add]
    obtain ⟨hj1, rfl⟩ := List.getElem?_eq_some_iff.1 hj
    rw [h.cellAt j (by omega), List.getElem?_eq_getElem hj1]
/-- own, of a variable's memory. -/
theorem own_p {w : World} {lo hi z : Nat} {x y : Value} {ws : List Int} {ls : List Bool} {f : Bool} (h : PVar w lo hi z x y ws ls f) (hn : ws.length ≤ 48) (hm : ls.length ≤ 48) :
    Calls Try.prog 18 #[.agg #[x, y, .bool f]] w fun e w' => GivesMem w.heap.size ws ls f e w' ∧ Below w.heap.size w w' := by
  have := own_c x y f ws ls w (argr_of_owns h.words (by simp)) (argr_of_owns h.lives (by simp)) (by omega) (by omega)
  rw [List.take_of_length_le hn, List.take_of_length_le hm] at this
  exact this
/-- A variable is given rows. -/
theorem put_back {w : World} {z lo lo0 : Nat} {a b x y : Value} {f0 f : Bool} {us : List Int} {ms : List Bool} (hz : MBox w z a b f0) (h0 : w.ownsRow lo 27 1 x us.length (us.map (Value.int .u64))) (h1 : w.ownsRow lo 4 1 y ms.length (ms.map Value.bool)) (hl : lo0 ≤ lo) (hlz : lo0 ≤ z) :
    PVar (((w.setCell ⟨z, 0, none⟩ x).setCell ⟨z, 1, none⟩ y).setCell ⟨z, 2, none⟩ (.bool f)) lo0 (((w.setCell ⟨z, 0, none⟩ x).setCell ⟨z, 1, none⟩ y).setCell ⟨z, 2, none⟩ (.bool f)).heap.size z x y us ms f := by
  have hk : Keeps (fun q => q = z) w (((w.setCell ⟨z, 0, none⟩ x).setCell ⟨z, 1, none⟩ y).setCell ⟨z, 2, none⟩ (.bool f)) :=
    ((Keeps.setCell w (S := fun q => q = z) (p := ⟨z, 0, none⟩) rfl _).trans (Keeps.setCell _ (S := fun q => q = z) (p := ⟨z, 1, none⟩) rfl _)).trans (Keeps.setCell _ (S := fun q => q = z) (p := ⟨z, 2, none⟩) rfl _)
  have hs := hk.size
  exact ⟨hz.set _ _ _, (hk.row h0 (fun g hg e => hz.row h0 (by decide) hg (show g = z from e).symm)).mono hl, (hk.row h1 (fun g hg e => hz.row h1 (by decide) hg (show g = z from e).symm)).mono hl, hlz,
    Nat.lt_of_lt_of_le hz.lt hs, fun g hg => Nat.lt_of_lt_of_le (owns_lt h0 g hg) hs, fun g hg => Nat.lt_of_lt_of_le (owns_lt h1 g hg) hs⟩
/-- Block z is a variable that holds a pair. -/
def PBox (w : World) (z : Nat) (a k : Int) : Prop := w.heap[z]? = some (.cells #[.int .i64 a, .int .i64 k] 23 (0, 0))
theorem PBox.lt {w : World} {z : Nat} {a k : Int} (h : PBox w z a k) : z < w.heap.size := (Array.getElem?_eq_some_iff.1 h).1
theorem PBox.below {w w' : World} {z : Nat} {a k : Int} (h : PBox w z a k) (hb : Below w.heap.size w w') : PBox w' z a k := (hb.block z h.lt).trans h
theorem PBox.cells {w : World} {z : Nat} {a k : Int} (h : PBox w z a k) : w.cell? ⟨z, 0, none⟩ = some (.int .i64 a) ∧ w.cell? ⟨z, 1, none⟩ = some (.int .i64 k) := by
  have h' : w.heap[z]? = _ := h
  simp [World.cell?, h']
theorem PBox.keeps {S : Nat → Prop} {w w' : World} {z : Nat} {a k : Int} (h : PBox w z a k) (hk : Keeps S w w') (hz : ¬ S z) : PBox w' z a k := (hk.block z h.lt hz).trans h
theorem MBox.cells {w : World} {z : Nat} {x y : Value} {f : Bool} (h : MBox w z x y f) : w.cell? ⟨z, 0, none⟩ = some x ∧ w.cell? ⟨z, 1, none⟩ = some y ∧ w.cell? ⟨z, 2, none⟩ = some (.bool f) := (mbox_cells h).1
theorem nil_mem (w : World) : MemAt w (.agg #[.slice none 0 0, .slice none 0 0, .bool false]) [] [] false := ⟨_, _, rfl, ⟨none, 0, rfl, fun h => absurd rfl h⟩, ⟨none, 0, rfl, fun h => absurd rfl h⟩⟩
theorem tag_cases (us : List Int) (ms : List Bool) (a k : Int) : rightB us ms = false ∨ (rightB us ms = true ∧ thereB us.length a k = false) ∨
    (rightB us ms = true ∧ thereB us.length a k = true ∧ cnt a.toNat (a.toNat + k.toNat) 0 ms = 0 ∧ cnt a.toNat (a.toNat + k.toNat) 0 ms < k.toNat) ∨
    (rightB us ms = true ∧ thereB us.length a k = true ∧ cnt a.toNat (a.toNat + k.toNat) 0 ms ≠ 0 ∧ cnt a.toNat (a.toNat + k.toNat) 0 ms = k.toNat) ∨
    (rightB us ms = true ∧ thereB us.length a k = true ∧ cnt a.toNat (a.toNat + k.toNat) 0 ms ≠ 0 ∧ cnt a.toNat (a.toNat + k.toNat) 0 ms < k.toNat) := by
  cases hr : rightB us ms with
  | false => exact .inl rfl
  | true =>
    cases ht : thereB us.length a k with
    | false => exact .inr (.inl ⟨rfl, rfl⟩)
    | true =>
      have hle := cnt_le a.toNat (a.toNat + k.toNat) ms 0
      have hk := (thereB_iff.1 ht).1
      by_cases h0 : cnt a.toNat (a.toNat + k.toNat) 0 ms = 0
      · exact .inr (.inr (.inl ⟨rfl, rfl, h0, by omega⟩))
      · by_cases h1 : cnt a.toNat (a.toNat + k.toNat) 0 ms = k.toNat
        · exact .inr (.inr (.inr (.inl ⟨rfl, rfl, h0, h1⟩)))
        · exact .inr (.inr (.inr (.inr ⟨rfl, rfl, h0, by omega⟩)))

end Go.Proofs.Ytaljpggajpoalaa
/-
  slices.Clone at a row of accesses; and Step, of the document's answers of layer 2: the memory behind an access, and what it comes to.
  Conditions: as each has them.
-/
namespace Go.Proofs.Ytaljpggajpoalaa
open Go.RowKit Go.Shelf

theorem cloneA_info : (Try.prog.info? 118).map (fun i => (i.zero, i.size, i.bytes)) = some (some (.agg #[.int .i64 0, .int .i64 0, .int .u64 0, .int .u64 0]), 4, 32) := by kernel_rfl

/-- What Step hands over. -/
def RefStep (B : Nat) (ms : List Bool) (r : List Int × Bool × (Int × Bool)) (e : Ending) (w' : World) : Prop := ∃ v', e = .returned (.tuple #[v', .agg #[.int .u64 r.2.2.1, .bool r.2.2.2]]) ∧ OwnsMem w' B v' r.1 ms r.2.1
/-- The variables for the results are given them. -/
def putR (w : World) (z : Nat) (x y : Value) (f : Bool) (g : Int) (d : Bool) : World := ((((w.setCell ⟨z, 0, none⟩ x).setCell ⟨z, 1, none⟩ y).setCell ⟨z, 2, none⟩ (.bool f)).setCell ⟨z + 1, 0, none⟩ (.int .u64 g)).setCell ⟨z + 1, 1, none⟩ (.bool d)
theorem putR_keeps (w : World) (z : Nat) (x y : Value) (f : Bool) (g : Int) (d : Bool) : Keeps (fun q => q = z ∨ q = z + 1) w (putR w z x y f g d) :=
  ((((Keeps.setCell w (S := fun q => q = z ∨ q = z + 1) (p := ⟨z, 0, none⟩) (.inl rfl) _).trans (Keeps.setCell _ (S := fun q => q = z ∨ q = z + 1) (p := ⟨z, 1, none⟩) (.inl rfl) _)).trans (Keeps.setCell _ (S := fun q => q = z ∨ q = z + 1) (p := ⟨z, 2, none⟩) (.inl rfl) _)).trans (Keeps.setCell _ (S := fun q => q = z ∨ q = z + 1) (p := ⟨z + 1, 0, none⟩) (.inr rfl) _)).trans (Keeps.setCell _ (S := fun q => q = z ∨ q = z + 1) (p := ⟨z + 1, 1, none⟩) (.inr rfl) _)
theorem putR_owns {w : World} {z B : Nat} {x y : Value} {f f0 : Bool} {g g0 : Int} {d d0 : Bool} {a b : Value} {us : List Int} {ms : List Bool} (hz : MBox w z a b f0) (hg : GBox w (z + 1) g0 d0) (h0 : w.ownsRow B 27 1 x us.length (us.map (Value.int .u64))) (h1 : w.ownsRow B 4 1 y ms.length (ms.map Value.bool)) :
    OwnsMem (putR w z x y f g d) B (.agg #[x, y, .bool f]) us ms f := by
  have hne : ∀ {E : TypeId} {n : Nat} {v : Value} {xs : List Value}, w.ownsRow B E 1 v n xs → E ≠ 44 → E ≠ 120 → ∀ q, v.ownBlock = some q → ¬ (q = z ∨ q = z + 1) := by
    intro E n v xs h hE hE2 q hq hs
    obtain ⟨c, fz, h1⟩ := Lib.ownsRow_kind h q hq
    rcases hs with rfl | rfl
    · rw [show w.heap[q]? = _ from hz] at h1
      simp at h1
      exact hE h1.2.1.symm
    · rw [show w.heap[z + 1]? = _ from hg] at h1
      simp at h1
      exact hE2 h1.2.1.symm
  exact ⟨_, _, rfl, (putR_keeps w z x y f g d).row h0 (hne h0 (by decide) (by decide)), (putR_keeps w z x y f g d).row h1 (hne h1 (by decide) (by decide))⟩

end Go.Proofs.Ytaljpggajpoalaa
/-
  Step, of the document's answers of layer 2: the memory behind an access, and what it comes to; what was in memory stays.
  Conditions: the access is of a kind, and the memory may be.
-/
namespace Go.Proofs.Ytaljpggajpoalaa
open Go.RowKit Go.Shelf

set_option maxRecDepth 100000 in
set_option maxHeartbeats 4000000 in
theorem refStep_c (B : Nat) (x y : Value) (us : List Int) (ms : List Bool) (f : Bool) (k a o n : Int) (W : World) (h0 : W.ownsRow B 27 1 x us.length (us.map (Value.int .u64))) (h1 : W.ownsRow B 4 1 y ms.length (ms.map Value.bool)) (hB : B ≤ W.heap.size)
    (hk1 : 1 ≤ k) (hk3 : k ≤ 3) (hr : rightB us ms = true) :
    Calls Try.prog 68 #[.agg #[x, y, .bool f], .agg #[.int .i64 k, .int .i64 a, .int .u64 o, .int .u64 n]] W fun e w' => RefStep B ms (accM us ms f k a o n) e w' ∧ Below W.heap.size W w' := by
  obtain ⟨hn1, hn2, hlen, -⟩ := rightB_iff.1 hr
  obtain ⟨gw, cw, rfl, hgw, _⟩ := own_form h0 (by omega)
  obtain ⟨gl, cl, rfl, hgl, _⟩ := own_form h1 (by omega)
  obtain ⟨z, hz⟩ : ∃ z, z = W.heap.size := ⟨_, rfl⟩
  obtain ⟨wo, hwo⟩ : ∃ wo : World, wo = (((W.alloc (.cells #[.slice (some ⟨gw, 0, none⟩) us.length cw, .slice (some ⟨gl, 0, none⟩) ms.length cl, .bool f] 44)).alloc (.cells #[.int .i64 k, .int .i64 a, .int .u64 o, .int .u64 n] 118)).alloc (.cells #[.slice none 0 0, .slice none 0 0, .bool false] 44)).alloc (.cells #[.int .u64 0, .bool false] 120) := ⟨_, rfl⟩
  have hbo : Below W.heap.size W wo := by rw [hwo]; exact ((((Below.refl _ _).alloc (Nat.le_refl _) _).alloc (by simp) _).alloc (by simp; omega) _).alloc (by simp; omega) _
  have HZM := Lib.hid (show MBox wo z (.slice (some ⟨gw, 0, none⟩) us.length cw) (.slice (some ⟨gl, 0, none⟩) ms.length cl) f by rw [hwo, hz]; exact (((MBox.new _ _ _ _).alloc _).alloc _).alloc _)
  have HZA := Lib.hid (show AcBox wo (z + 1) k a o n by
    have : AcBox ((W.alloc (.cells #[.slice (some ⟨gw, 0, none⟩) us.length cw, .slice (some ⟨gl, 0, none⟩) ms.length cl, .bool f] 44)).alloc (.cells #[.int .i64 k, .int .i64 a, .int .u64 o, .int .u64 n] 118)) _ k a o n := World.alloc_heap_new _ _
    rw [World.size_alloc] at this
    rw [hwo, hz]; exact (this.keeps (Keeps.alloc (fun _ => False) _ _) (fun h => h)).keeps (Keeps.alloc (fun _ => False) _ _) (fun h => h))
  have HZ4 := Lib.hid (show MBox wo (z + 1 + 1) (.slice none 0 0) (.slice none 0 0) false by
    have := MBox.new ((W.alloc (.cells #[.slice (some ⟨gw, 0, none⟩) us.length cw, .slice (some ⟨gl, 0, none⟩) ms.length cl, .bool f] 44)).alloc (.cells #[.int .i64 k, .int .i64 a, .int .u64 o, .int .u64 n] 118)) (.slice none 0 0) (.slice none 0 0) false
    rw [World.size_alloc, World.size_alloc] at this
    rw [hwo, hz]; exact this.alloc _)
  have HZ5 := Lib.hid (show GBox wo (z + 1 + 1 + 1) 0 false by
    have : GBox ((((W.alloc (.cells #[.slice (some ⟨gw, 0, none⟩) us.length cw, .slice (some ⟨gl, 0, none⟩) ms.length cl, .bool f] 44)).alloc (.cells #[.int .i64 k, .int .i64 a, .int .u64 o, .int .u64 n] 118)).alloc (.cells #[.slice none 0 0, .slice none 0 0, .bool false] 44)).alloc (.cells #[.int .u64 0, .bool false] 120)) _ 0 false := World.alloc_heap_new _ _
    rw [World.size_alloc, World.size_alloc, World.size_alloc] at this
    rw [hwo, hz]; exact this)
  have HW0 := Lib.hid h0
  have HL0 := Lib.hid h1
  have HOW := Lib.hid (owns_below h0 hbo)
  have HOL := Lib.hid (owns_below h1 hbo)
  have HBO := Lib.hid hbo
  have HZ := Lib.hid hz
  have HLEN := Lib.hid hlen
  have hdM := (mbox_cells HZM.out).1
  have hfM := (mbox_cells HZM.out).2
  obtain ⟨hdm0, hdm1, hdm2⟩ := hdM
  obtain ⟨_, _, hfm2⟩ := hfM
  obtain ⟨hda0, hda1, hda2, hda3⟩ := HZA.out.cells
  obtain ⟨⟨hd40, hd41, hd42⟩, hf40, hf41, hf42⟩ := mbox_cells HZ4.out
  obtain ⟨⟨hd50, hd51⟩, hf50, hf51⟩ := gbox_cells HZ5.out
  rw [hwo] at hdm0 hdm1 hdm2 hfm2 hda0 hda1 hda2 hda3 hd40 hd41 hd42 hf40 hf41 hf42 hd50 hd51 hf50 hf51
  have HWO := Lib.hid hwo
  clear h0 h1 hbo hlen hwo
  by_cases hin : 0 ≤ a ∧ a < (us.length : Int)
  · obtain ⟨i, rfl⟩ := Int.eq_ofNat_of_zero_le hin.1
    have hlt : i < us.length := by omega
    have hlt2 : i < ms.length := by have := HLEN.out; omega
    have hilt : (i : Int) < (us.length : Int) := hin.2
    have hilt2 : (i : Int) < (ms.length : Int) := by omega
    have hcw := HOW.out.cellAt i (by omega)
    have hcl := HOL.out.cellAt i (by omega)
    rw [List.getElem?_eq_getElem (by simpa using hlt), List.getElem_map] at hcw
    rw [List.getElem?_eq_getElem (by simpa using hlt2), List.getElem_map] at hcl
    have HGD := Lib.hid (show us.getD (i : Int).toNat 0 = us[i] by rw [Int.toNat_natCast, List.getD_eq_getElem?_getD, List.getElem?_eq_getElem hlt]; rfl)
    have HLA := Lib.hid (show liveAt us ms (i : Int) = ms[i] by rw [liveAt, Int.toNat_natCast, List.getD_eq_getElem?_getD, List.getElem?_eq_getElem hlt2, Option.getD_some, thereB_iff.2 ⟨by omega, by omega, by omega⟩, Bool.true_and])
    obtain ⟨h, hh⟩ : ∃ h, h = us[i] := ⟨_, rfl⟩
    obtain ⟨b, hb⟩ : ∃ b, b = ms[i] := ⟨_, rfl⟩
    rw [← hh] at hcw HGD
    rw [← hb] at hcl HLA
    rw [HWO.out] at hcw hcl
    clear hh hb hin
    cases b
    · have HLV := Lib.hid (accM_out HLA.out f k o n)
      clear hdm0 hdm1 hdm2 hfm2 hda0 hda1 hda2 hda3 hd40 hd41 hd42 hf40 hf41 hf42 hd50 hd51 hf50 hf51
      go_enter Try.func68, Try.ntmps68
      go_wp2
      exact bodyPost_ret (v := .tuple #[.agg #[(.slice (some ⟨gw, 0, none⟩) us.length cw), (.slice (some ⟨gl, 0, none⟩) ms.length cl), .bool true], .agg #[.int .u64 0, .bool false]]) (by simp [results, Try.results68, go_sem]) rfl ⟨by rw [HLV.out]; exact ⟨_, rfl, _, _, rfl, (((HW0.out.alloc _).alloc _).alloc _).alloc _, (((HL0.out.alloc _).alloc _).alloc _).alloc _⟩, ((((Below.refl _ _).alloc (Nat.le_refl _) _).alloc (by simp) _).alloc (by simp; omega) _).alloc (by simp; omega) _⟩
    · by_cases h1 : k = 1
      · subst h1
        have HLV := Lib.hid (show accM us ms f 1 (i : Int) o n = (us, f, h, true) by rw [accM_load HLA.out, HGD.out])
        clear hdm0 hdm1 hdm2 hfm2 hda0 hda1 hda2 hda3 hd40 hd41 hd42 hf40 hf41 hf42 hd50 hd51 hf50 hf51
        go_enter Try.func68, Try.ntmps68
        go_wp2
        exact bodyPost_ret (v := .tuple #[.agg #[(.slice (some ⟨gw, 0, none⟩) us.length cw), (.slice (some ⟨gl, 0, none⟩) ms.length cl), .bool f], .agg #[.int .u64 h, .bool true]]) (by simp [results, Try.results68, go_sem]) rfl ⟨by rw [HLV.out]; exact ⟨_, rfl, _, _, rfl, (((HW0.out.alloc _).alloc _).alloc _).alloc _, (((HL0.out.alloc _).alloc _).alloc _).alloc _⟩, ((((Below.refl _ _).alloc (Nat.le_refl _) _).alloc (by simp) _).alloc (by simp; omega) _).alloc (by simp; omega) _⟩
      · by_cases h2 : k = 2
        · subst h2
          have HMS := Lib.hid (show ms.set i true = ms by have h1 := HLA.out; rw [liveAt, Int.toNat_natCast] at h1; simp only [Bool.and_eq_true] at h1; have h2 := h1.2; rw [List.getD_eq_getElem?_getD, List.getElem?_eq_getElem hlt2, Option.getD_some] at h2; have h3 : ms.set i ms[i] = ms := List.set_getElem_self hlt2; rwa [h2] at h3)
          obtain ⟨uN, huN⟩ : ∃ u, u = us.set i n := ⟨_, rfl⟩
          have HUN := Lib.hid huN
          clear huN
          have HLV := Lib.hid (show accM us ms f 2 (i : Int) o n = (uN, f, h, true) by rw [accM_store HLA.out, HGD.out, Int.toNat_natCast, HUN.out])
          go_enter Try.func68, Try.ntmps68
          go_wp2_with fail
          rw [← HWO.out]
          clear hdm0 hdm1 hdm2 hfm2 hda0 hda1 hda2 hda3 hd40 hd41 hd42 hf40 hf41 hf42 hd50 hd51 hf50 hf51 hcw hcl
          refine (with_c _ us ms f i n true wo ⟨_, _, rfl, nums_of_owns rfl HOW.out, bools_of_owns rfl HOL.out⟩ HLEN.out hn2).mono ?_
          rintro e w1 ⟨⟨_, rfl, _, _, rfl, h0, h1⟩, hb⟩
          obtain ⟨pN, cN, rfl⟩ := owns_slice h0
          obtain ⟨qN, dN, rfl⟩ := owns_slice h1
          rw [HMS.out] at h1 ⊢
          rw [← HUN.out] at h0 ⊢
          have hz4 := HZ4.out.below hb
          have hz5 := HZ5.out.below hb
          obtain ⟨⟨hd40, hd41, hd42⟩, hf40, hf41, hf42⟩ := mbox_cells hz4
          obtain ⟨⟨hd50, hd51⟩, hf50, hf51⟩ := gbox_cells hz5
          have hBw : B ≤ wo.heap.size := Nat.le_trans hB HBO.out.size
          have HE := Lib.hid (putR_owns (f := f) (g := h) (d := true) hz4 hz5 (h0.mono hBw) (h1.mono hBw))
          have HBE := Lib.hid ((below_then HBO.out HBO.out.size hb).trans ((putR_keeps w1 (z + 1 + 1) (.slice pN uN.length cN) (.slice qN ms.length dN) f h true).below (Nat.le_trans HBO.out.size hb.size) (fun q hq => by have hq : q = z + 1 + 1 ∨ q = z + 1 + 1 + 1 := hq; have := HZ.out; omega)))
          unfold putR at HE HBE
          clear HOW HOL HZ4 HZ5 HZM HWO HLEN h0 h1 hb hz4 hz5 hBw hz
          rw [HZ.out] at hd40 hd41 hd42 hf40 hf41 hf42 hd50 hd51 hf50 hf51 HE HBE
          go_wp2
          exact bodyPost_ret (v := .tuple #[.agg #[(.slice pN uN.length cN), (.slice qN ms.length dN), .bool f], .agg #[.int .u64 h, .bool true]]) (by simp [results, Try.results68, go_sem, hd40, hd41, hd42, hd50, hd51]) rfl ⟨by rw [HLV.out]; exact ⟨_, rfl, HE.out⟩, HBE.out⟩
        · obtain rfl : k = 3 := by omega
          by_cases hho : h = o
          · subst hho
            have hho' : (h != h) = false := by simp
            have HMS := Lib.hid (show ms.set i true = ms by have h1 := HLA.out; rw [liveAt, Int.toNat_natCast] at h1; simp only [Bool.and_eq_true] at h1; have h2 := h1.2; rw [List.getD_eq_getElem?_getD, List.getElem?_eq_getElem hlt2, Option.getD_some] at h2; have h3 : ms.set i ms[i] = ms := List.set_getElem_self hlt2; rwa [h2] at h3)
            obtain ⟨uN, huN⟩ : ∃ u, u = us.set i n := ⟨_, rfl⟩
            have HUN := Lib.hid huN
            clear huN
            have HLV := Lib.hid (show accM us ms f 3 (i : Int) h n = (uN, f, h, true) by rw [accM_yes HLA.out f h n HGD.out, HGD.out, Int.toNat_natCast, HUN.out])
            go_enter Try.func68, Try.ntmps68
            go_wp2_with fail
            rw [← HWO.out]
            clear hdm0 hdm1 hdm2 hfm2 hda0 hda1 hda2 hda3 hd40 hd41 hd42 hf40 hf41 hf42 hd50 hd51 hf50 hf51 hcw hcl
            refine (with_c _ us ms f i n true wo ⟨_, _, rfl, nums_of_owns rfl HOW.out, bools_of_owns rfl HOL.out⟩ HLEN.out hn2).mono ?_
            rintro e w1 ⟨⟨_, rfl, _, _, rfl, h0, h1⟩, hb⟩
            obtain ⟨pN, cN, rfl⟩ := owns_slice h0
            obtain ⟨qN, dN, rfl⟩ := owns_slice h1
            rw [HMS.out] at h1 ⊢
            rw [← HUN.out] at h0 ⊢
            have hz4 := HZ4.out.below hb
            have hz5 := HZ5.out.below hb
            obtain ⟨⟨hd40, hd41, hd42⟩, hf40, hf41, hf42⟩ := mbox_cells hz4
            obtain ⟨⟨hd50, hd51⟩, hf50, hf51⟩ := gbox_cells hz5
            have hBw : B ≤ wo.heap.size := Nat.le_trans hB HBO.out.size
            have HE := Lib.hid (putR_owns (f := f) (g := h) (d := true) hz4 hz5 (h0.mono hBw) (h1.mono hBw))
            have HBE := Lib.hid ((below_then HBO.out HBO.out.size hb).trans ((putR_keeps w1 (z + 1 + 1) (.slice pN uN.length cN) (.slice qN ms.length dN) f h true).below (Nat.le_trans HBO.out.size hb.size) (fun q hq => by have hq : q = z + 1 + 1 ∨ q = z + 1 + 1 + 1 := hq; have := HZ.out; omega)))
            unfold putR at HE HBE
            clear HOW HOL HZ4 HZ5 HZM HWO HLEN h0 h1 hb hz4 hz5 hBw hz
            rw [HZ.out] at hd40 hd41 hd42 hf40 hf41 hf42 hd50 hd51 hf50 hf51 HE HBE
            go_wp2
            exact bodyPost_ret (v := .tuple #[.agg #[(.slice pN uN.length cN), (.slice qN ms.length dN), .bool f], .agg #[.int .u64 h, .bool true]]) (by simp [results, Try.results68, go_sem, hd40, hd41, hd42, hd50, hd51]) rfl ⟨by rw [HLV.out]; exact ⟨_, rfl, HE.out⟩, HBE.out⟩
          · have HLV := Lib.hid (show accM us ms f 3 (i : Int) o n = (us, f, h, false) by rw [accM_no HLA.out f o n (by rw [HGD.out]; exact hho), HGD.out])
            have hho' : (h != o) = true := by simpa using hho
            clear hdm0 hdm1 hdm2 hfm2 hda0 hda1 hda2 hda3 hd40 hd41 hd42 hf40 hf41 hf42 hd50 hd51 hf50 hf51
            go_enter Try.func68, Try.ntmps68
            go_wp2
            exact bodyPost_ret (v := .tuple #[.agg #[(.slice (some ⟨gw, 0, none⟩) us.length cw), (.slice (some ⟨gl, 0, none⟩) ms.length cl), .bool f], .agg #[.int .u64 h, .bool false]]) (by simp [results, Try.results68, go_sem]) rfl ⟨by rw [HLV.out]; exact ⟨_, rfl, _, _, rfl, (((HW0.out.alloc _).alloc _).alloc _).alloc _, (((HL0.out.alloc _).alloc _).alloc _).alloc _⟩, ((((Below.refl _ _).alloc (Nat.le_refl _) _).alloc (by simp) _).alloc (by simp; omega) _).alloc (by simp; omega) _⟩
  · have HLV := Lib.hid (accM_out (show liveAt us ms a = false by rw [liveAt, show thereB us.length a 1 = false by simp [thereB]; omega, Bool.false_and]) f k o n)
    clear hdm0 hdm1 hdm2 hfm2 hda0 hda1 hda2 hda3 hd40 hd41 hd42 hf40 hf41 hf42 hd50 hd51 hf50 hf51
    by_cases hneg : a < 0
    all_goals
      go_enter Try.func68, Try.ntmps68
      go_wp2
      exact bodyPost_ret (v := .tuple #[.agg #[(.slice (some ⟨gw, 0, none⟩) us.length cw), (.slice (some ⟨gl, 0, none⟩) ms.length cl), .bool true], .agg #[.int .u64 0, .bool false]]) (by simp [results, Try.results68, go_sem]) rfl ⟨by rw [HLV.out]; exact ⟨_, rfl, _, _, rfl, (((HW0.out.alloc _).alloc _).alloc _).alloc _, (((HL0.out.alloc _).alloc _).alloc _).alloc _⟩, ((((Below.refl _ _).alloc (Nat.le_refl _) _).alloc (by simp) _).alloc (by simp; omega) _).alloc (by simp; omega) _⟩

end Go.Proofs.Ytaljpggajpoalaa
/-
  load and store, of the document's answers of layer 6.
  Conditions: the memory may be, and lies in rows of its own.
-/
namespace Go.Proofs.Ytaljpggajpoalaa
open Go.RowKit Go.Shelf
attribute [local go_sem] Oper.semAt_some

/-- What load answers. -/
def LoadRes (B : Nat) (ms : List Bool) (r : List Int × Bool × (Int × Bool)) (e : Ending) (w' : World) : Prop := ∃ x y, e = .returned (.tuple #[.agg #[x, y, .bool r.2.1], .int .u64 r.2.2.1, .bool r.2.2.2]) ∧ w'.ownsRow B 27 1 x r.1.length (r.1.map (Value.int .u64)) ∧ w'.ownsRow B 4 1 y ms.length (ms.map Value.bool)

set_option maxRecDepth 100000 in
set_option maxHeartbeats 8000000 in
theorem eload (B : Nat) (x y : Value) (us : List Int) (ms : List Bool) (f : Bool) (a : Int) (W : World) (h0 : W.ownsRow B 27 1 x us.length (us.map (Value.int .u64))) (h1 : W.ownsRow B 4 1 y ms.length (ms.map Value.bool)) (hB : B ≤ W.heap.size) (hr : rightB us ms = true) :
    Calls Try.prog 50 #[.agg #[x, y, .bool f], .int .i64 a] W fun e w' => LoadRes B ms (accM us ms f 1 a 0 0) e w' ∧ Below W.heap.size W w' := by
  have HST := Lib.hid (fun (Z : World) (hb : Below W.heap.size W Z) => refStep_c B x y us ms f 1 a 0 0 Z (owns_below h0 hb) (owns_below h1 hb) (Nat.le_trans hB hb.size) (by omega) (by omega) hr)
  clear h0 h1
  obtain ⟨w0, hw0⟩ : ∃ X : World, X = (W.alloc (.cells #[x, y, .bool f] 44)).alloc (.cells #[.slice none 0 0, .slice none 0 0, .bool false] 44) := ⟨_, rfl⟩
  have HZ0 := Lib.hid (show MBox w0 W.heap.size x y f by rw [hw0]; exact (MBox.new W _ _ f).below ((Below.refl _ _).alloc (Nat.le_refl _) _))
  have HR0 := Lib.hid (show MBox w0 (W.heap.size + 1) (.slice none 0 0) (.slice none 0 0) false by rw [hw0]; have e := MBox.new (W.alloc (.cells #[x, y, .bool f] 44)) (.slice none 0 0) (.slice none 0 0) false; rw [World.size_alloc] at e; exact e)
  have HB0 := Lib.hid (show Below W.heap.size W w0 by rw [hw0]; exact below2 _ _ _)
  obtain ⟨⟨us', f', h', d'⟩, hq⟩ : ∃ q, q = accM us ms f 1 a 0 0 := ⟨_, rfl⟩
  rw [← hq] at HST ⊢
  clear hq hr
  go_enter Try.func50, Try.ntmps50
  go_wp2_with fail
  rw [← hw0]
  clear hw0
  refine (HST.out _ HB0.out).mono ?_
  rintro e w1 ⟨⟨v', rfl, x', y', rfl, ho0, ho1⟩, hb1⟩
  simp only at ho0 ho1 ⊢
  obtain ⟨px, cx, rfl⟩ := owns_slice ho0
  obtain ⟨py, cy, rfl⟩ := owns_slice ho1
  have HZ1 := Lib.hid (HZ0.out.below hb1)
  have HR1 := Lib.hid (HR0.out.below hb1)
  have HB1 := Lib.hid (below_then HB0.out HB0.out.size hb1)
  have HO0 := Lib.hid ho0
  have HO1 := Lib.hid ho1
  clear hb1 HST HZ0 HR0 ho0 ho1
  obtain ⟨⟨hd0, hd1, hd2⟩, he0, he1, he2⟩ := mbox_cells HZ1.out
  obtain ⟨⟨hr0, hr1, hr2⟩, hs0, hs1, hs2⟩ := mbox_cells HR1.out
  have hz1 : W.heap.size < w1.heap.size := HZ1.out.lt
  have hz2 : W.heap.size + 1 < w1.heap.size := HR1.out.lt
  obtain ⟨wm, hwm⟩ : ∃ X : World, X = ((w1.setCell ⟨W.heap.size, 0, none⟩ (.slice px us'.length cx)).setCell ⟨W.heap.size, 1, none⟩ (.slice py ms.length cy)).setCell ⟨W.heap.size, 2, none⟩ (.bool f') := ⟨_, rfl⟩
  have hk1 : Keeps (fun k => k = W.heap.size) w1 wm := by
    rw [hwm]
    exact ((Keeps.setCell w1 (S := (· = W.heap.size)) (p := ⟨W.heap.size, 0, none⟩) rfl _).trans (Keeps.setCell _ (S := (· = W.heap.size)) (p := ⟨W.heap.size, 1, none⟩) rfl _)).trans (Keeps.setCell _ (S := (· = W.heap.size)) (p := ⟨W.heap.size, 2, none⟩) rfl _)
  have hzm : MBox wm W.heap.size (.slice px us'.length cx) (.slice py ms.length cy) f' := by rw [hwm]; exact HZ1.out.set _ _ _
  have hrm : MBox wm (W.heap.size + 1) (.slice none 0 0) (.slice none 0 0) false := (hk1.block (W.heap.size + 1) HR1.out.lt (by simp)).trans HR1.out
  have hom : wm.ownsRow B 27 1 (.slice px us'.length cx) us'.length (us'.map (Value.int .u64)) := hk1.row HO0.out fun g hg e => HZ1.out.row HO0.out (by decide) hg e.symm
  have hol : wm.ownsRow B 4 1 (.slice py ms.length cy) ms.length (ms.map Value.bool) := hk1.row HO1.out fun g hg e => HZ1.out.row HO1.out (by decide) hg e.symm
  have hbm : Below W.heap.size W wm := HB1.out.trans (hk1.below HB1.out.size (fun q hq => by rw [hq]; exact Nat.le_refl _))
  obtain ⟨w2, hw2⟩ : ∃ X : World, X = wm.alloc (.cells #[.int .u64 h', .bool d'] 120) := ⟨_, rfl⟩
  obtain ⟨y2, hy2⟩ : ∃ y, y = w1.heap.size := ⟨_, rfl⟩
  have hsm : wm.heap.size = w1.heap.size := by rw [hwm]; simp [World.setCell]
  have HG := Lib.hid (show w2.heap[y2]? = some (.cells #[.int .u64 h', .bool d'] 120 (0, 0)) by rw [hw2, hy2, ← hsm]; exact World.alloc_heap_new _ _)
  have HZ2 := Lib.hid (show MBox w2 W.heap.size (.slice px us'.length cx) (.slice py ms.length cy) f' by rw [hw2]; exact hzm.alloc _)
  have HR2 := Lib.hid (show MBox w2 (W.heap.size + 1) (.slice none 0 0) (.slice none 0 0) false by rw [hw2]; exact hrm.alloc _)
  have HO2 := Lib.hid (show w2.ownsRow B 27 1 (.slice px us'.length cx) us'.length (us'.map (Value.int .u64)) by rw [hw2]; exact hom.alloc _)
  have HL2 := Lib.hid (show w2.ownsRow B 4 1 (.slice py ms.length cy) ms.length (ms.map Value.bool) by rw [hw2]; exact hol.alloc _)
  have HB2 := Lib.hid (show Below W.heap.size W w2 by rw [hw2]; exact hbm.alloc hbm.size _)
  have HWM := Lib.hid hwm
  have HW2 := Lib.hid hw2
  have HY2 := Lib.hid hy2
  have hyn : y2 ≠ W.heap.size + 1 := by omega
  have hyn' : W.heap.size + 1 ≠ y2 := by omega
  clear hk1 hzm hrm hom hol hbm hwm hw2 hy2 hsm
  go_wp2
  rw [← HWM.out, ← HW2.out, ← HY2.out]
  clear hd0 hd1 hd2 he0 he1 he2 hr0 hr1 hr2 hs0 hs1 hs2 hz1 hz2 HWM HW2 HY2 HZ1 HR1 HB1 HO0 HO1
  obtain ⟨⟨hd0, hd1, hd2⟩, he0, he1, he2⟩ := mbox_cells HZ2.out
  obtain ⟨⟨hr0, hr1, hr2⟩, hs0, hs1, hs2⟩ := mbox_cells HR2.out
  obtain ⟨⟨hg0, hg1⟩, -, -⟩ := gbox_cells (show GBox w2 y2 h' d' from HG.out)
  have HP := Lib.hid (HR2.out.set (.slice px us'.length cx) (.slice py ms.length cy) f')
  have HKP := Lib.hid (((Keeps.setCell w2 (S := (· = W.heap.size + 1)) (p := ⟨W.heap.size + 1, 0, none⟩) rfl (.slice px us'.length cx)).trans (Keeps.setCell _ (S := (· = W.heap.size + 1)) (p := ⟨W.heap.size + 1, 1, none⟩) rfl (.slice py ms.length cy))).trans (Keeps.setCell _ (S := (· = W.heap.size + 1)) (p := ⟨W.heap.size + 1, 2, none⟩) rfl (.bool f')))
  go_region
  all_goals go_wp2
  all_goals
    revert HP HKP
    generalize World.setCell _ ⟨W.heap.size + 1, 2, none⟩ _ = w3
    intro HP HKP
    obtain ⟨⟨hr0, hr1, hr2⟩, -, -, -⟩ := mbox_cells HP.out
    exact bodyPost_ret (v := .tuple #[.agg #[(.slice px us'.length cx), (.slice py ms.length cy), .bool f'], .int .u64 h', .bool d']) (by simp [results, Try.results50, go_sem, hr0, hr1, hr2]) rfl ⟨⟨_, _, rfl, (HKP.out.row HO2.out fun g hg e => HR2.out.row HO2.out (by decide) hg e.symm).drew, (HKP.out.row HL2.out fun g hg e => HR2.out.row HL2.out (by decide) hg e.symm).drew⟩, (HB2.out.trans (HKP.out.below HB2.out.size (fun q hq => by rw [hq]; exact Nat.le_succ _))).drew⟩

end Go.Proofs.Ytaljpggajpoalaa
/-
  store, of the document's answers of layer 6.
  Conditions: the memory may be, and lies in rows of its own.
-/
namespace Go.Proofs.Ytaljpggajpoalaa
open Go.RowKit Go.Shelf
attribute [local go_sem] Oper.semAt_some

/-- What store answers. -/
def StoreRes (B : Nat) (ms : List Bool) (r : List Int × Bool × (Int × Bool)) (e : Ending) (w' : World) : Prop := ∃ x y, e = .returned (.tuple #[.agg #[x, y, .bool r.2.1], .bool r.2.2.2]) ∧ w'.ownsRow B 27 1 x r.1.length (r.1.map (Value.int .u64)) ∧ w'.ownsRow B 4 1 y ms.length (ms.map Value.bool)

set_option maxRecDepth 100000 in
set_option maxHeartbeats 8000000 in
theorem estore (B : Nat) (x y : Value) (us : List Int) (ms : List Bool) (f : Bool) (a n : Int) (W : World) (h0 : W.ownsRow B 27 1 x us.length (us.map (Value.int .u64))) (h1 : W.ownsRow B 4 1 y ms.length (ms.map Value.bool)) (hB : B ≤ W.heap.size) (hr : rightB us ms = true) :
    Calls Try.prog 54 #[.agg #[x, y, .bool f], .int .i64 a, .int .u64 n] W fun e w' => StoreRes B ms (accM us ms f 2 a 0 n) e w' ∧ Below W.heap.size W w' := by
  have HST := Lib.hid (fun (Z : World) (hb : Below W.heap.size W Z) => refStep_c B x y us ms f 2 a 0 n Z (owns_below h0 hb) (owns_below h1 hb) (Nat.le_trans hB hb.size) (by omega) (by omega) hr)
  clear h0 h1
  obtain ⟨w0, hw0⟩ : ∃ X : World, X = (W.alloc (.cells #[x, y, .bool f] 44)).alloc (.cells #[.slice none 0 0, .slice none 0 0, .bool false] 44) := ⟨_, rfl⟩
  have HZ0 := Lib.hid (show MBox w0 W.heap.size x y f by rw [hw0]; exact (MBox.new W _ _ f).below ((Below.refl _ _).alloc (Nat.le_refl _) _))
  have HR0 := Lib.hid (show MBox w0 (W.heap.size + 1) (.slice none 0 0) (.slice none 0 0) false by rw [hw0]; have e := MBox.new (W.alloc (.cells #[x, y, .bool f] 44)) (.slice none 0 0) (.slice none 0 0) false; rw [World.size_alloc] at e; exact e)
  have HB0 := Lib.hid (show Below W.heap.size W w0 by rw [hw0]; exact below2 _ _ _)
  obtain ⟨⟨us', f', h', d'⟩, hq⟩ : ∃ q, q = accM us ms f 2 a 0 n := ⟨_, rfl⟩
  rw [← hq] at HST ⊢
  clear hq hr
  go_enter Try.func54, Try.ntmps54
  go_wp2_with fail
  rw [← hw0]
  clear hw0
  refine (HST.out _ HB0.out).mono ?_
  rintro e w1 ⟨⟨v', rfl, x', y', rfl, ho0, ho1⟩, hb1⟩
  simp only at ho0 ho1 ⊢
  obtain ⟨px, cx, rfl⟩ := owns_slice ho0
  obtain ⟨py, cy, rfl⟩ := owns_slice ho1
  have HZ1 := Lib.hid (HZ0.out.below hb1)
  have HR1 := Lib.hid (HR0.out.below hb1)
  have HB1 := Lib.hid (below_then HB0.out HB0.out.size hb1)
  have HO0 := Lib.hid ho0
  have HO1 := Lib.hid ho1
  clear hb1 HST HZ0 HR0 ho0 ho1
  obtain ⟨⟨hd0, hd1, hd2⟩, he0, he1, he2⟩ := mbox_cells HZ1.out
  obtain ⟨⟨hr0, hr1, hr2⟩, hs0, hs1, hs2⟩ := mbox_cells HR1.out
  have hz1 : W.heap.size < w1.heap.size := HZ1.out.lt
  have hz2 : W.heap.size + 1 < w1.heap.size := HR1.out.lt
  obtain ⟨wm, hwm⟩ : ∃ X : World, X = ((w1.setCell ⟨W.heap.size, 0, none⟩ (.slice px us'.length cx)).setCell ⟨W.heap.size, 1, none⟩ (.slice py ms.length cy)).setCell ⟨W.heap.size, 2, none⟩ (.bool f') := ⟨_, rfl⟩
  have hk1 : Keeps (fun k => k = W.heap.size) w1 wm := by
    rw [hwm]
    exact ((Keeps.setCell w1 (S := (· = W.heap.size)) (p := ⟨W.heap.size, 0, none⟩) rfl _).trans (Keeps.setCell _ (S := (· = W.heap.size)) (p := ⟨W.heap.size, 1, none⟩) rfl _)).trans (Keeps.setCell _ (S := (· = W.heap.size)) (p := ⟨W.heap.size, 2, none⟩) rfl _)
  have hzm : MBox wm W.heap.size (.slice px us'.length cx) (.slice py ms.length cy) f' := by rw [hwm]; exact HZ1.out.set _ _ _
  have hrm : MBox wm (W.heap.size + 1) (.slice none 0 0) (.slice none 0 0) false := (hk1.block (W.heap.size + 1) HR1.out.lt (by simp)).trans HR1.out
  have hom : wm.ownsRow B 27 1 (.slice px us'.length cx) us'.length (us'.map (Value.int .u64)) := hk1.row HO0.out fun g hg e => HZ1.out.row HO0.out (by decide) hg e.symm
  have hol : wm.ownsRow B 4 1 (.slice py ms.length cy) ms.length (ms.map Value.bool) := hk1.row HO1.out fun g hg e => HZ1.out.row HO1.out (by decide) hg e.symm
  have hbm : Below W.heap.size W wm := HB1.out.trans (hk1.below HB1.out.size (fun q hq => by rw [hq]; exact Nat.le_refl _))
  obtain ⟨w2, hw2⟩ : ∃ X : World, X = wm.alloc (.cells #[.int .u64 h', .bool d'] 120) := ⟨_, rfl⟩
  obtain ⟨y2, hy2⟩ : ∃ y, y = w1.heap.size := ⟨_, rfl⟩
  have hsm : wm.heap.size = w1.heap.size := by rw [hwm]; simp [World.setCell]
  have HG := Lib.hid (show w2.heap[y2]? = some (.cells #[.int .u64 h', .bool d'] 120 (0, 0)) by rw [hw2, hy2, ← hsm]; exact World.alloc_heap_new _ _)
  have HZ2 := Lib.hid (show MBox w2 W.heap.size (.slice px us'.length cx) (.slice py ms.length cy) f' by rw [hw2]; exact hzm.alloc _)
  have HR2 := Lib.hid (show MBox w2 (W.heap.size + 1) (.slice none 0 0) (.slice none 0 0) false by rw [hw2]; exact hrm.alloc _)
  have HO2 := Lib.hid (show w2.ownsRow B 27 1 (.slice px us'.length cx) us'.length (us'.map (Value.int .u64)) by rw [hw2]; exact hom.alloc _)
  have HL2 := Lib.hid (show w2.ownsRow B 4 1 (.slice py ms.length cy) ms.length (ms.map Value.bool) by rw [hw2]; exact hol.alloc _)
  have HB2 := Lib.hid (show Below W.heap.size W w2 by rw [hw2]; exact hbm.alloc hbm.size _)
  have HWM := Lib.hid hwm
  have HW2 := Lib.hid hw2
  have HY2 := Lib.hid hy2
  have hyn : y2 ≠ W.heap.size + 1 := by omega
  have hyn' : W.heap.size + 1 ≠ y2 := by omega
  clear hk1 hzm hrm hom hol hbm hwm hw2 hy2 hsm
  go_wp2
  rw [← HWM.out, ← HW2.out, ← HY2.out]
  clear hd0 hd1 hd2 he0 he1 he2 hr0 hr1 hr2 hs0 hs1 hs2 hz1 hz2 HWM HW2 HY2 HZ1 HR1 HB1 HO0 HO1
  obtain ⟨⟨hd0, hd1, hd2⟩, he0, he1, he2⟩ := mbox_cells HZ2.out
  obtain ⟨⟨hr0, hr1, hr2⟩, hs0, hs1, hs2⟩ := mbox_cells HR2.out
  obtain ⟨⟨hg0, hg1⟩, -, -⟩ := gbox_cells (show GBox w2 y2 h' d' from HG.out)
  have HP := Lib.hid (HR2.out.set (.slice px us'.length cx) (.slice py ms.length cy) f')
  have HKP := Lib.hid (((Keeps.setCell w2 (S := (· = W.heap.size + 1)) (p := ⟨W.heap.size + 1, 0, none⟩) rfl (.slice px us'.length cx)).trans (Keeps.setCell _ (S := (· = W.heap.size + 1)) (p := ⟨W.heap.size + 1, 1, none⟩) rfl (.slice py ms.length cy))).trans (Keeps.setCell _ (S := (· = W.heap.size + 1)) (p := ⟨W.heap.size + 1, 2, none⟩) rfl (.bool f')))
  go_region
  all_goals go_wp2
  all_goals
    revert HP HKP
    generalize World.setCell _ ⟨W.heap.size + 1, 2, none⟩ _ = w3
    intro HP HKP
    obtain ⟨⟨hr0, hr1, hr2⟩, -, -, -⟩ := mbox_cells HP.out
    exact bodyPost_ret (v := .tuple #[.agg #[(.slice px us'.length cx), (.slice py ms.length cy), .bool f'], .bool d']) (by simp [results, Try.results54, go_sem, hr0, hr1, hr2]) rfl ⟨⟨_, _, rfl, (HKP.out.row HO2.out fun g hg e => HR2.out.row HO2.out (by decide) hg e.symm).drew, (HKP.out.row HL2.out fun g hg e => HR2.out.row HL2.out (by decide) hg e.symm).drew⟩, (HB2.out.trans (HKP.out.below HB2.out.size (fun q hq => by rw [hq]; exact Nat.le_succ _))).drew⟩

end Go.Proofs.Ytaljpggajpoalaa
/-
  A step of a read, of a write, as plain mathematics.
-/
namespace Go.Proofs.Ytaljpggajpoalaa
open Go.RowKit Go.Shelf

/-- Where a read is when that many are read. -/
def phR (m : Int) (n : Nat) : Int := if (n : Int) = m then 3 else 2
/-- A memory's words, its fault, a read, and what it has read, behind its step. -/
def stepR (ms : List Bool) (us : List Int) (f : Bool) (s : RdM) (vs : List Int) : (List Int × Bool) × RdM × List Int :=
  if 4 ≤ s.p then ((us, f), s, vs) else
  let r := accM us ms f 1 (if s.p = 2 then s.f + vs.length else s.a) 0 0
  ((r.1, r.2.1),
    if r.2.2.2 = false then ({ s with p := 5 }, vs)
    else if s.p = 0 then (if r.2.2.1 % 2 = 0 then ({ s with b := r.2.2.1, p := phR s.m 0 }, []) else (s, vs))
    else if s.p = 2 then ({ s with p := phR s.m (vs.length + 1) }, vs ++ [r.2.2.1])
    else if r.2.2.1 = s.b then ({ s with p := 4 }, vs)
    else ({ s with p := 0, t := if s.t < 1073741824 then s.t + 1 else s.t }, vs))
/-- A memory's words, its fault, and a write, behind its step. -/
def stepW (ms : List Bool) (us : List Int) (f : Bool) (s : WrM) (vs : List Int) : (List Int × Bool) × WrM :=
  if 4 ≤ s.p then ((us, f), s) else
  let r := if s.p = 0 then accM us ms f 1 s.a 0 0 else accM us ms f 2 (if s.p = 2 then s.f + s.w else s.a) 0 (if s.p = 1 then IntKind.u64.wrap (s.b + 1) else if s.p = 2 then vs.getD s.w.toNat 0 else IntKind.u64.wrap (s.b + 2))
  ((r.1, r.2.1),
    if r.2.2.2 = false then { s with p := 5 }
    else if s.p = 0 then (if r.2.2.1 % 2 = 0 then { s with b := r.2.2.1, p := 1 } else s)
    else if s.p = 1 then { s with p := 2 }
    else if s.p = 2 then { s with w := s.w + 1, p := if s.w + 1 = vs.length then 3 else 2 }
    else { s with p := 4 })

theorem accM_words (us : List Int) (ms : List Bool) (f : Bool) (k a o n : Int) : (accM us ms f k a o n).1.length = us.length := by
  unfold accM
  split
  · split
    · rfl
    · split
      · exact List.length_set
      · rfl
  · rfl
theorem stepR_words (ms : List Bool) (us : List Int) (f : Bool) (s : RdM) (vs : List Int) : (stepR ms us f s vs).1.1.length = us.length := by
  unfold stepR
  split
  · rfl
  · exact accM_words _ _ _ _ _ _ _
theorem stepW_words (ms : List Bool) (us : List Int) (f : Bool) (s : WrM) (vs : List Int) : (stepW ms us f s vs).1.1.length = us.length := by
  unfold stepW
  split
  · rfl
  · dsimp only
    split <;> exact accM_words _ _ _ _ _ _ _
theorem accM_keep (us : List Int) (ms : List Bool) (f : Bool) (a o n : Int) : (accM us ms f 1 a o n).1 = us := by
  unfold accM
  split
  · rw [if_pos rfl]
  · rfl
/-- A read's load changes no word. -/
theorem stepR_same (ms : List Bool) (us : List Int) (f : Bool) (s : RdM) (vs : List Int) : (stepR ms us f s vs).1.1 = us := by
  unfold stepR
  split
  · rfl
  · exact accM_keep _ _ _ _ _ _
theorem fits_ph (t m : Int) (n : Nat) (h : (n : Int) ≤ m) : fitsRB (phR m n) t m n = true := by
  unfold phR
  split
  · rename_i e
    unfold fitsRB
    rw [if_neg (by omega), if_neg (by omega), if_pos (by omega)]
    exact decide_eq_true e
  · rename_i e
    unfold fitsRB
    rw [if_neg (by omega), if_pos rfl]
    exact decide_eq_true (by omega)
theorem rightRB_of {s s' : RdM} {n n' : Nat} (h : rightRB s n = true) (ha : s'.a = s.a) (hf : s'.f = s.f) (hm : s'.m = s.m) (hb : s'.b % 2 = 0) (ht : 0 ≤ s'.t ∧ s'.t ≤ 1073741824) (hF : fitsRB s'.p s'.t s'.m n' = true) : rightRB s' n' = true := by
  unfold rightRB at h ⊢
  simp only [Bool.and_eq_true, decide_eq_true_eq] at h ⊢
  obtain ⟨⟨⟨⟨⟨⟨h1, h2⟩, h3⟩, h4⟩, h5⟩, h6⟩, h7⟩ := h
  exact ⟨⟨⟨⟨⟨⟨by rw [hm]; exact h1, by rw [hm]; exact h2⟩, by rw [ha, hf, hm]; exact h3⟩, hb⟩, ht.1⟩, ht.2⟩, hF⟩
theorem rightRB_parts {s : RdM} {n : Nat} (h : rightRB s n = true) : (0 ≤ s.m ∧ s.m ≤ 16) ∧ s.b % 2 = 0 ∧ (0 ≤ s.t ∧ s.t ≤ 1073741824) ∧ fitsRB s.p s.t s.m n = true := by
  unfold rightRB at h
  simp only [Bool.and_eq_true, decide_eq_true_eq] at h
  obtain ⟨⟨⟨⟨⟨⟨h1, h2⟩, h3⟩, h4⟩, h5⟩, h6⟩, h7⟩ := h
  exact ⟨⟨h1, h2⟩, h4, ⟨h5, h6⟩, h7⟩
theorem fits_le {p t m : Int} {n : Nat} (hm : 0 ≤ m) (h : fitsRB p t m n = true) : (n : Int) ≤ m ∧ (p = 2 → (n : Int) < m) ∧ (p = 3 → (n : Int) = m) ∧ (p = 0 ∨ p = 2 ∨ p = 3 ∨ p = 4 ∨ p = 5) := by
  unfold fitsRB at h
  repeat' split at h
  all_goals first
    | (have h := of_decide_eq_true h; omega)
    | exact absurd h (by simp)
/-- What may be may be behind its step. -/
theorem stepR_right (ms : List Bool) (us : List Int) (f : Bool) (s : RdM) (vs : List Int) (h : rightRB s vs.length = true) : rightRB (stepR ms us f s vs).2.1 (stepR ms us f s vs).2.2.length = true := by
  obtain ⟨⟨hm0, hm1⟩, hb, ht, hF⟩ := rightRB_parts h
  obtain ⟨hl, h2, h3, hp⟩ := fits_le hm0 hF
  unfold stepR
  split
  · exact h
  · rename_i h4
    generalize accM us ms f 1 (if s.p = 2 then s.f + (vs.length : Int) else s.a) 0 0 = r
    dsimp only
    split
    · exact rightRB_of h rfl rfl rfl hb ht (by dsimp only; unfold fitsRB; rw [if_neg (by omega), if_neg (by omega), if_neg (by omega), if_pos rfl]; exact decide_eq_true hl)
    · split
      · split
        · rename_i he
          exact rightRB_of h rfl rfl rfl he ht (fits_ph _ _ 0 (by simpa using hm0))
        · exact h
      · split
        · rename_i e2
          have := h2 e2
          refine rightRB_of h rfl rfl rfl hb ht ?_
          rw [List.length_append]
          exact fits_ph _ _ _ (by simp; omega)
        · have e3 : s.p = 3 := by omega
          have := h3 e3
          split
          · exact rightRB_of h rfl rfl rfl hb ht (by dsimp only; unfold fitsRB; rw [if_neg (by omega), if_neg (by omega), if_pos (by omega)]; exact decide_eq_true this)
          · refine rightRB_of h rfl rfl rfl hb ⟨?_, ?_⟩ ?_
            · dsimp only; split <;> omega
            · dsimp only; split <;> omega
            · dsimp only; unfold fitsRB; rw [if_pos rfl, if_neg (by split <;> omega)]; exact decide_eq_true this

end Go.Proofs.Ytaljpggajpoalaa
/-
  What may be may be behind its step: of a write.
-/
namespace Go.Proofs.Ytaljpggajpoalaa
open Go.RowKit Go.Shelf

theorem rightWB_of {s s' : WrM} {n : Nat} (h : rightWB s n = true) (ha : s'.a = s.a) (hf : s'.f = s.f) (hb : s'.b % 2 = 0) (hF : fitsWB s'.p s'.w n = true) : rightWB s' n = true := by
  unfold rightWB at h ⊢
  simp only [Bool.and_eq_true, decide_eq_true_eq] at h ⊢
  obtain ⟨⟨⟨⟨h1, h2⟩, h3⟩, h4⟩, h5⟩ := h
  exact ⟨⟨⟨⟨h1, h2⟩, by rw [ha, hf]; exact h3⟩, hb⟩, hF⟩
theorem rightWB_parts {s : WrM} {n : Nat} (h : rightWB s n = true) : (1 ≤ n ∧ n ≤ 16) ∧ s.b % 2 = 0 ∧ fitsWB s.p s.w n = true := by
  unfold rightWB at h
  simp only [Bool.and_eq_true, decide_eq_true_eq] at h
  obtain ⟨⟨⟨⟨h1, h2⟩, h3⟩, h4⟩, h5⟩ := h
  exact ⟨⟨h1, h2⟩, h4, h5⟩
theorem fitsW_parts {p w : Int} {n : Nat} (h : fitsWB p w n = true) : (p = 0 ∨ p = 1 → w = 0) ∧ (p = 2 → 0 ≤ w ∧ w < n) ∧ (p = 3 ∨ p = 4 → w = n) ∧ (0 ≤ w ∧ w ≤ n) ∧ (p = 0 ∨ p = 1 ∨ p = 2 ∨ p = 3 ∨ p = 4 ∨ p = 5) := by
  unfold fitsWB at h
  repeat' split at h
  all_goals first
    | (simp only [Bool.and_eq_true, decide_eq_true_eq] at h; omega)
    | exact absurd h (by simp)
theorem fitsW_of {p w : Int} {n : Nat} (h : (p = 0 ∨ p = 1) ∧ w = 0 ∨ p = 2 ∧ 0 ≤ w ∧ w < n ∨ (p = 3 ∨ p = 4) ∧ w = n ∨ p = 5 ∧ 0 ≤ w ∧ w ≤ n) : fitsWB p w n = true := by
  unfold fitsWB
  repeat' split
  all_goals first
    | (simp only [Bool.and_eq_true, decide_eq_true_eq]; omega)
    | omega
theorem stepW_right (ms : List Bool) (us : List Int) (f : Bool) (s : WrM) (vs : List Int) (h : rightWB s vs.length = true) : rightWB (stepW ms us f s vs).2 vs.length = true := by
  obtain ⟨hn, hb, hF⟩ := rightWB_parts h
  obtain ⟨h0, h2, h3, hw, hp⟩ := fitsW_parts hF
  unfold stepW
  split
  · exact h
  · rename_i h4
    dsimp only
    generalize (if s.p = 0 then accM us ms f 1 s.a 0 0 else _) = r
    split
    · exact rightWB_of h rfl rfl hb (fitsW_of (by dsimp only; omega))
    · split
      · split
        · rename_i e _ he
          exact rightWB_of h rfl rfl he (fitsW_of (by have := h0 (Or.inl (by assumption)); dsimp only; omega))
        · exact h
      · split
        · have := h0 (Or.inr (by assumption))
          exact rightWB_of h rfl rfl hb (fitsW_of (by dsimp only; omega))
        · split
          · have := h2 (by assumption)
            refine rightWB_of h rfl rfl hb (fitsW_of ?_)
            dsimp only
            split <;> omega
          · exact rightWB_of h rfl rfl hb (fitsW_of (by have := h3 (by omega); dsimp only; omega))

end Go.Proofs.Ytaljpggajpoalaa
/-
  The map of method values by phases, of package seq: laid by does, looked up by step.
  Conditions: none.
-/
namespace Go.Proofs.Ytaljpggajpoalaa
open Go.RowKit Go.Shelf
attribute [local go_sem] Oper.semAt_some

/-- A world whose block r is another object. -/
def objSet (w : World) (r : Nat) (o : Obj) : World := { w with heap := w.heap.setIfInBounds r o }
theorem objSet_get {w : World} {r : Nat} (h : r < w.heap.size) (o : Obj) : (objSet w r o).heap[r]? = some o := by simp [objSet, h]
theorem objSet_below {B : Nat} {W w : World} {r : Nat} (h : Below B W w) (hr : B ≤ r) (o : Obj) : Below B W (objSet w r o) :=
  ⟨h.os, h.tape, h.output, by simp [objSet]; exact h.size, fun k hk => by
    have e : (w.heap.setIfInBounds r o)[k]? = w.heap[k]? := by simp [Array.getElem?_setIfInBounds_ne (show r ≠ k by omega)]
    exact e.trans (h.block k hk)⟩
theorem emap_type : Try.prog.underlying 95 = some (.map 3 25) := by kernel_rfl
theorem eint_type : Try.prog.underlying 3 = some (.int .i64) := by kernel_rfl
theorem emap_put (w : World) (r clock : Nat) (k : Int) (es : Array MapEntry) (val : Value) (hb : w.heap[r]? = some (.map es clock)) (hnf : Instr.findNow (.int .i64) (.int .i64 k) es.toList 0 = some none) :
    (Instr.mapUpdate 95 (.map (some r)) (.int .i64 k) val).run Try.prog w = .ok () (objSet w r (.map (es.push { key := .int .i64 k, val := val, born := clock }) (clock + 1))) := by
  have hc : (Instr.checkKey false 10000 3 (.int .i64 k)).run Try.prog w = .ok () w := MapKept.run_checkKey (k := .int .i64 k) eint_type (by simp [MapKept.IsKey]) false 9999
  simp [Instr.mapUpdate, run_underlying emap_type, MapKept.run_getObj_map hb, hc, MapKept.run_findKey eint_type hnf, MapKept.run_setObj_map _ hb, Result.andThen, objSet]
theorem emap_get (w : World) (r clock : Nat) (k : Int) (es : Array MapEntry) (val : Value) (i : Nat) (hb : w.heap[r]? = some (.map es clock)) (hf : Instr.findNow (.int .i64) (.int .i64 k) es.toList 0 = some (some (i, val))) :
    (Instr.lookup 95 (.map (some r)) (.int .i64 k) true).run Try.prog w = .ok (.tuple #[val, .bool true]) w := by
  have hc : ∀ b, (Instr.checkKey b 10000 3 (.int .i64 k)).run Try.prog w = .ok () w := fun b => MapKept.run_checkKey (k := .int .i64 k) eint_type (by simp [MapKept.IsKey]) b 9999
  simp [Instr.lookup, run_underlying emap_type, MapKept.run_getObj_map hb, hc, MapKept.run_findKey eint_type hf, Result.andThen]
theorem efunc_info : (Try.prog.info? 25).map (fun i => i.zero) = some (some .nilFunc) := by kernel_rfl
theorem emap_miss (w : World) (r clock : Nat) (k : Int) (es : Array MapEntry) (hb : w.heap[r]? = some (.map es clock)) (hf : Instr.findNow (.int .i64) (.int .i64 k) es.toList 0 = some none) :
    (Instr.lookup 95 (.map (some r)) (.int .i64 k) true).run Try.prog w = .ok (.tuple #[.nilFunc, .bool false]) w := by
  have hc : ∀ b, (Instr.checkKey b 10000 3 (.int .i64 k)).run Try.prog w = .ok () w := fun b => MapKept.run_checkKey (k := .int .i64 k) eint_type (by simp [MapKept.IsKey]) b 9999
  have hz : (zeroValue 25).run Try.prog w = .ok .nilFunc w := by go_simp
  simp [Instr.lookup, run_underlying emap_type, MapKept.run_getObj_map hb, hc, MapKept.run_findKey eint_type hf, Result.andThen, hz]

/-- The method values of three, of four phases. -/
def map3 (x y z : Value) : Obj := .map #[⟨.int .i64 0, x, 0⟩, ⟨.int .i64 2, y, 1⟩, ⟨.int .i64 3, z, 2⟩] 3
def map4 (x y z u : Value) : Obj := .map #[⟨.int .i64 0, x, 0⟩, ⟨.int .i64 1, y, 1⟩, ⟨.int .i64 2, z, 2⟩, ⟨.int .i64 3, u, 3⟩] 4
set_option maxRecDepth 100000 in
set_option maxHeartbeats 4000000 in
theorem rdoes_c (r : Nat) (W : World) : Calls Try.prog 48 #[.pointer (some ⟨r, 0, none⟩)] W fun e w' => (e = .returned (.map (some W.heap.size)) ∧ w'.heap[W.heap.size]? = some (map3 (.func (.func 65) #[.pointer (some ⟨r, 0, none⟩)] #[]) (.func (.func 66) #[.pointer (some ⟨r, 0, none⟩)] #[]) (.func (.func 67) #[.pointer (some ⟨r, 0, none⟩)] #[]))) ∧ Below W.heap.size W w' := by
  have hb0 : (W.alloc (.map #[] 0)).heap[W.heap.size]? = some (.map #[] 0) := World.alloc_heap_new W _
  have hl0 : W.heap.size < (W.alloc (.map #[] 0)).heap.size := by simp
  have hB0 : Below W.heap.size W (W.alloc (.map #[] 0)) := (Below.refl _ _).alloc (Nat.le_refl _) _
  have hi1 : (Instr.mapUpdate 95 (.map (some W.heap.size)) (.int .i64 0) (.func (.func 65) #[.pointer (some ⟨r, 0, none⟩)] #[])).run Try.prog (W.alloc (.map #[] 0)) = .ok () (objSet (W.alloc (.map #[] 0)) W.heap.size (.map #[⟨.int .i64 0, (.func (.func 65) #[.pointer (some ⟨r, 0, none⟩)] #[]), 0⟩] 1)) := emap_put _ W.heap.size 0 0 #[] _ hb0 rfl
  obtain ⟨w1, hw1⟩ : ∃ X, X = objSet (W.alloc (.map #[] 0)) W.heap.size (.map #[⟨.int .i64 0, (.func (.func 65) #[.pointer (some ⟨r, 0, none⟩)] #[]), 0⟩] 1) := ⟨_, rfl⟩
  have hb1 : w1.heap[W.heap.size]? = some (.map #[⟨.int .i64 0, (.func (.func 65) #[.pointer (some ⟨r, 0, none⟩)] #[]), 0⟩] 1) := by rw [hw1]; exact objSet_get hl0 _
  have hl1 : W.heap.size < w1.heap.size := (Array.getElem?_eq_some_iff.1 hb1).1
  have hB1 : Below W.heap.size W w1 := by rw [hw1]; exact objSet_below hB0 (Nat.le_refl _) _
  rw [← hw1] at hi1
  have hi2 : (Instr.mapUpdate 95 (.map (some W.heap.size)) (.int .i64 2) (.func (.func 66) #[.pointer (some ⟨r, 0, none⟩)] #[])).run Try.prog w1 = .ok () (objSet w1 W.heap.size (.map #[⟨.int .i64 0, (.func (.func 65) #[.pointer (some ⟨r, 0, none⟩)] #[]), 0⟩, ⟨.int .i64 2, (.func (.func 66) #[.pointer (some ⟨r, 0, none⟩)] #[]), 1⟩] 2)) := emap_put _ W.heap.size 1 2 #[⟨.int .i64 0, (.func (.func 65) #[.pointer (some ⟨r, 0, none⟩)] #[]), 0⟩] _ hb1 rfl
  obtain ⟨w2, hw2⟩ : ∃ X, X = objSet w1 W.heap.size (.map #[⟨.int .i64 0, (.func (.func 65) #[.pointer (some ⟨r, 0, none⟩)] #[]), 0⟩, ⟨.int .i64 2, (.func (.func 66) #[.pointer (some ⟨r, 0, none⟩)] #[]), 1⟩] 2) := ⟨_, rfl⟩
  have hb2 : w2.heap[W.heap.size]? = some (.map #[⟨.int .i64 0, (.func (.func 65) #[.pointer (some ⟨r, 0, none⟩)] #[]), 0⟩, ⟨.int .i64 2, (.func (.func 66) #[.pointer (some ⟨r, 0, none⟩)] #[]), 1⟩] 2) := by rw [hw2]; exact objSet_get hl1 _
  have hl2 : W.heap.size < w2.heap.size := (Array.getElem?_eq_some_iff.1 hb2).1
  have hB2 : Below W.heap.size W w2 := by rw [hw2]; exact objSet_below hB1 (Nat.le_refl _) _
  rw [← hw2] at hi2
  have hi3 : (Instr.mapUpdate 95 (.map (some W.heap.size)) (.int .i64 3) (.func (.func 67) #[.pointer (some ⟨r, 0, none⟩)] #[])).run Try.prog w2 = .ok () (objSet w2 W.heap.size (.map #[⟨.int .i64 0, (.func (.func 65) #[.pointer (some ⟨r, 0, none⟩)] #[]), 0⟩, ⟨.int .i64 2, (.func (.func 66) #[.pointer (some ⟨r, 0, none⟩)] #[]), 1⟩, ⟨.int .i64 3, (.func (.func 67) #[.pointer (some ⟨r, 0, none⟩)] #[]), 2⟩] 3)) := emap_put _ W.heap.size 2 3 #[⟨.int .i64 0, (.func (.func 65) #[.pointer (some ⟨r, 0, none⟩)] #[]), 0⟩, ⟨.int .i64 2, (.func (.func 66) #[.pointer (some ⟨r, 0, none⟩)] #[]), 1⟩] _ hb2 rfl
  obtain ⟨w3, hw3⟩ : ∃ X, X = objSet w2 W.heap.size (.map #[⟨.int .i64 0, (.func (.func 65) #[.pointer (some ⟨r, 0, none⟩)] #[]), 0⟩, ⟨.int .i64 2, (.func (.func 66) #[.pointer (some ⟨r, 0, none⟩)] #[]), 1⟩, ⟨.int .i64 3, (.func (.func 67) #[.pointer (some ⟨r, 0, none⟩)] #[]), 2⟩] 3) := ⟨_, rfl⟩
  have hb3 : w3.heap[W.heap.size]? = some (.map #[⟨.int .i64 0, (.func (.func 65) #[.pointer (some ⟨r, 0, none⟩)] #[]), 0⟩, ⟨.int .i64 2, (.func (.func 66) #[.pointer (some ⟨r, 0, none⟩)] #[]), 1⟩, ⟨.int .i64 3, (.func (.func 67) #[.pointer (some ⟨r, 0, none⟩)] #[]), 2⟩] 3) := by rw [hw3]; exact objSet_get hl2 _
  have hl3 : W.heap.size < w3.heap.size := (Array.getElem?_eq_some_iff.1 hb3).1
  have hB3 : Below W.heap.size W w3 := by rw [hw3]; exact objSet_below hB2 (Nat.le_refl _) _
  rw [← hw3] at hi3
  have H4 := Lib.hid hb3
  have HB4 := Lib.hid hB3
  clear hb0 hl0 hB0 hb1 hl1 hB1 hb2 hl2 hB2 hb3 hl3 hB3 hw1 hw2 hw3
  have hmk : (Instr.makeMap 95 none).run Try.prog W = .ok (.map (some W.heap.size)) (W.alloc (.map #[] 0)) := by simp [Instr.makeMap]
  go_enter Try.func48, Try.ntmps48
  go_wp2
  go_ret
  exact ⟨⟨rfl, H4.out⟩, HB4.out⟩
set_option maxRecDepth 100000 in
set_option maxHeartbeats 4000000 in
theorem wdoes_c (r : Nat) (W : World) : Calls Try.prog 52 #[.pointer (some ⟨r, 0, none⟩)] W fun e w' => (e = .returned (.map (some W.heap.size)) ∧ w'.heap[W.heap.size]? = some (map4 (.func (.func 69) #[.pointer (some ⟨r, 0, none⟩)] #[]) (.func (.func 70) #[.pointer (some ⟨r, 0, none⟩)] #[]) (.func (.func 71) #[.pointer (some ⟨r, 0, none⟩)] #[]) (.func (.func 72) #[.pointer (some ⟨r, 0, none⟩)] #[]))) ∧ Below W.heap.size W w' := by
  have hb0 : (W.alloc (.map #[] 0)).heap[W.heap.size]? = some (.map #[] 0) := World.alloc_heap_new W _
  have hl0 : W.heap.size < (W.alloc (.map #[] 0)).heap.size := by simp
  have hB0 : Below W.heap.size W (W.alloc (.map #[] 0)) := (Below.refl _ _).alloc (Nat.le_refl _) _
  have hi1 : (Instr.mapUpdate 95 (.map (some W.heap.size)) (.int .i64 0) (.func (.func 69) #[.pointer (some ⟨r, 0, none⟩)] #[])).run Try.prog (W.alloc (.map #[] 0)) = .ok () (objSet (W.alloc (.map #[] 0)) W.heap.size (.map #[⟨.int .i64 0, (.func (.func 69) #[.pointer (some ⟨r, 0, none⟩)] #[]), 0⟩] 1)) := emap_put _ W.heap.size 0 0 #[] _ hb0 rfl
  obtain ⟨w1, hw1⟩ : ∃ X, X = objSet (W.alloc (.map #[] 0)) W.heap.size (.map #[⟨.int .i64 0, (.func (.func 69) #[.pointer (some ⟨r, 0, none⟩)] #[]), 0⟩] 1) := ⟨_, rfl⟩
  have hb1 : w1.heap[W.heap.size]? = some (.map #[⟨.int .i64 0, (.func (.func 69) #[.pointer (some ⟨r, 0, none⟩)] #[]), 0⟩] 1) := by rw [hw1]; exact objSet_get hl0 _
  have hl1 : W.heap.size < w1.heap.size := (Array.getElem?_eq_some_iff.1 hb1).1
  have hB1 : Below W.heap.size W w1 := by rw [hw1]; exact objSet_below hB0 (Nat.le_refl _) _
  rw [← hw1] at hi1
  have hi2 : (Instr.mapUpdate 95 (.map (some W.heap.size)) (.int .i64 1) (.func (.func 70) #[.pointer (some ⟨r, 0, none⟩)] #[])).run Try.prog w1 = .ok () (objSet w1 W.heap.size (.map #[⟨.int .i64 0, (.func (.func 69) #[.pointer (some ⟨r, 0, none⟩)] #[]), 0⟩, ⟨.int .i64 1, (.func (.func 70) #[.pointer (some ⟨r, 0, none⟩)] #[]), 1⟩] 2)) := emap_put _ W.heap.size 1 1 #[⟨.int .i64 0, (.func (.func 69) #[.pointer (some ⟨r, 0, none⟩)] #[]), 0⟩] _ hb1 rfl
  obtain ⟨w2, hw2⟩ : ∃ X, X = objSet w1 W.heap.size (.map #[⟨.int .i64 0, (.func (.func 69) #[.pointer (some ⟨r, 0, none⟩)] #[]), 0⟩, ⟨.int .i64 1, (.func (.func 70) #[.pointer (some ⟨r, 0, none⟩)] #[]), 1⟩] 2) := ⟨_, rfl⟩
  have hb2 : w2.heap[W.heap.size]? = some (.map #[⟨.int .i64 0, (.func (.func 69) #[.pointer (some ⟨r, 0, none⟩)] #[]), 0⟩, ⟨.int .i64 1, (.func (.func 70) #[.pointer (some ⟨r, 0, none⟩)] #[]), 1⟩] 2) := by rw [hw2]; exact objSet_get hl1 _
  have hl2 : W.heap.size < w2.heap.size := (Array.getElem?_eq_some_iff.1 hb2).1
  have hB2 : Below W.heap.size W w2 := by rw [hw2]; exact objSet_below hB1 (Nat.le_refl _) _
  rw [← hw2] at hi2
  have hi3 : (Instr.mapUpdate 95 (.map (some W.heap.size)) (.int .i64 2) (.func (.func 71) #[.pointer (some ⟨r, 0, none⟩)] #[])).run Try.prog w2 = .ok () (objSet w2 W.heap.size (.map #[⟨.int .i64 0, (.func (.func 69) #[.pointer (some ⟨r, 0, none⟩)] #[]), 0⟩, ⟨.int .i64 1, (.func (.func 70) #[.pointer (some ⟨r, 0, none⟩)] #[]), 1⟩, ⟨.int .i64 2, (.func (.func 71) #[.pointer (some ⟨r, 0, none⟩)] #[]), 2⟩] 3)) := emap_put _ W.heap.size 2 2 #[⟨.int .i64 0, (.func (.func 69) #[.pointer (some ⟨r, 0, none⟩)] #[]), 0⟩, ⟨.int .i64 1, (.func (.func 70) #[.pointer (some ⟨r, 0, none⟩)] #[]), 1⟩] _ hb2 rfl
  obtain ⟨w3, hw3⟩ : ∃ X, X = objSet w2 W.heap.size (.map #[⟨.int .i64 0, (.func (.func 69) #[.pointer (some ⟨r, 0, none⟩)] #[]), 0⟩, ⟨.int .i64 1, (.func (.func 70) #[.pointer (some ⟨r, 0, none⟩)] #[]), 1⟩, ⟨.int .i64 2, (.func (.func 71) #[.pointer (some ⟨r, 0, none⟩)] #[]), 2⟩] 3) := ⟨_, rfl⟩
  have hb3 : w3.heap[W.heap.size]? = some (.map #[⟨.int .i64 0, (.func (.func 69) #[.pointer (some ⟨r, 0, none⟩)] #[]), 0⟩, ⟨.int .i64 1, (.func (.func 70) #[.pointer (some ⟨r, 0, none⟩)] #[]), 1⟩, ⟨.int .i64 2, (.func (.func 71) #[.pointer (some ⟨r, 0, none⟩)] #[]), 2⟩] 3) := by rw [hw3]; exact objSet_get hl2 _
  have hl3 : W.heap.size < w3.heap.size := (Array.getElem?_eq_some_iff.1 hb3).1
  have hB3 : Below W.heap.size W w3 := by rw [hw3]; exact objSet_below hB2 (Nat.le_refl _) _
  rw [← hw3] at hi3
  have hi4 : (Instr.mapUpdate 95 (.map (some W.heap.size)) (.int .i64 3) (.func (.func 72) #[.pointer (some ⟨r, 0, none⟩)] #[])).run Try.prog w3 = .ok () (objSet w3 W.heap.size (.map #[⟨.int .i64 0, (.func (.func 69) #[.pointer (some ⟨r, 0, none⟩)] #[]), 0⟩, ⟨.int .i64 1, (.func (.func 70) #[.pointer (some ⟨r, 0, none⟩)] #[]), 1⟩, ⟨.int .i64 2, (.func (.func 71) #[.pointer (some ⟨r, 0, none⟩)] #[]), 2⟩, ⟨.int .i64 3, (.func (.func 72) #[.pointer (some ⟨r, 0, none⟩)] #[]), 3⟩] 4)) := emap_put _ W.heap.size 3 3 #[⟨.int .i64 0, (.func (.func 69) #[.pointer (some ⟨r, 0, none⟩)] #[]), 0⟩, ⟨.int .i64 1, (.func (.func 70) #[.pointer (some ⟨r, 0, none⟩)] #[]), 1⟩, ⟨.int .i64 2, (.func (.func 71) #[.pointer (some ⟨r, 0, none⟩)] #[]), 2⟩] _ hb3 rfl
  obtain ⟨w4, hw4⟩ : ∃ X, X = objSet w3 W.heap.size (.map #[⟨.int .i64 0, (.func (.func 69) #[.pointer (some ⟨r, 0, none⟩)] #[]), 0⟩, ⟨.int .i64 1, (.func (.func 70) #[.pointer (some ⟨r, 0, none⟩)] #[]), 1⟩, ⟨.int .i64 2, (.func (.func 71) #[.pointer (some ⟨r, 0, none⟩)] #[]), 2⟩, ⟨.int .i64 3, (.func (.func 72) #[.pointer (some ⟨r, 0, none⟩)] #[]), 3⟩] 4) := ⟨_, rfl⟩
  have hb4 : w4.heap[W.heap.size]? = some (.map #[⟨.int .i64 0, (.func (.func 69) #[.pointer (some ⟨r, 0, none⟩)] #[]), 0⟩, ⟨.int .i64 1, (.func (.func 70) #[.pointer (some ⟨r, 0, none⟩)] #[]), 1⟩, ⟨.int .i64 2, (.func (.func 71) #[.pointer (some ⟨r, 0, none⟩)] #[]), 2⟩, ⟨.int .i64 3, (.func (.func 72) #[.pointer (some ⟨r, 0, none⟩)] #[]), 3⟩] 4) := by rw [hw4]; exact objSet_get hl3 _
  have hl4 : W.heap.size < w4.heap.size := (Array.getElem?_eq_some_iff.1 hb4).1
  have hB4 : Below W.heap.size W w4 := by rw [hw4]; exact objSet_below hB3 (Nat.le_refl _) _
  rw [← hw4] at hi4
  have H4 := Lib.hid hb4
  have HB4 := Lib.hid hB4
  clear hb0 hl0 hB0 hb1 hl1 hB1 hb2 hl2 hB2 hb3 hl3 hB3 hb4 hl4 hB4 hw1 hw2 hw3 hw4
  have hmk : (Instr.makeMap 95 none).run Try.prog W = .ok (.map (some W.heap.size)) (W.alloc (.map #[] 0)) := by simp [Instr.makeMap]
  go_enter Try.func52, Try.ntmps52
  go_wp2
  go_ret
  exact ⟨⟨rfl, H4.out⟩, HB4.out⟩

end Go.Proofs.Ytaljpggajpoalaa
/-
  The methods of a reader of package seq: begin, next, close, goOn.
  Conditions: the memory may be, the read may be.
-/
namespace Go.Proofs.Ytaljpggajpoalaa
open Go.RowKit Go.Shelf
attribute [local go_sem] Oper.semAt_some

/-- Block r is a reader. -/
def RBox (W : World) (r : Nat) (s : RdM) (v : Value) (q : Nat) : Prop := W.heap[r]? = some (.cells #[.int .i64 s.a, .int .i64 s.f, .int .i64 s.m, .int .i64 s.p, .int .u64 s.b, v, .int .i64 s.t, accV q] 92 (0, 0))
theorem RBox.lt {w : World} {z : Nat} {s : RdM} {v : Value} {q : Nat} (h : RBox w z s v q) : z < w.heap.size := (Array.getElem?_eq_some_iff.1 h).1
theorem RBox.keeps {S : Nat → Prop} {w w' : World} {z : Nat} {s : RdM} {v : Value} {q : Nat} (h : RBox w z s v q) (hk : Keeps S w w') (hz : ¬ S z) : RBox w' z s v q := (hk.block z h.lt hz).trans h
theorem RBox.below {w w' : World} {z : Nat} {s : RdM} {v : Value} {q : Nat} (h : RBox w z s v q) (hb : Below w.heap.size w w') : RBox w' z s v q := (hb.block z h.lt).trans h
theorem RBox.cells {w : World} {z : Nat} {s : RdM} {v : Value} {q : Nat} (h : RBox w z s v q) : (w.cell? ⟨z, 0, none⟩ = some (.int .i64 s.a) ∧ w.cell? ⟨z, 1, none⟩ = some (.int .i64 s.f) ∧ w.cell? ⟨z, 2, none⟩ = some (.int .i64 s.m) ∧ w.cell? ⟨z, 3, none⟩ = some (.int .i64 s.p)) ∧ w.cell? ⟨z, 4, none⟩ = some (.int .u64 s.b) ∧ w.cell? ⟨z, 5, none⟩ = some v ∧ w.cell? ⟨z, 6, none⟩ = some (.int .i64 s.t) ∧ w.cell? ⟨z, 7, none⟩ = some (accV q) := by
  have h' : w.heap[z]? = _ := h
  simp [World.cell?, h']
theorem RBox.marks {w : World} {z : Nat} {s : RdM} {v : Value} {q : Nat} (h : RBox w z s v q) (i : Nat) : w.frozen? ⟨z, i, none⟩ = false := by
  have h' : w.heap[z]? = _ := h
  simp [World.frozen?, h']
theorem RBox.setP {w : World} {z : Nat} {s : RdM} {v : Value} {q : Nat} (h : RBox w z s v q) (p : Int) : RBox (w.setCell ⟨z, 3, none⟩ (.int .i64 p)) z { s with p := p } v q := by
  have h' : w.heap[z]? = _ := h
  simp [RBox, World.setCell, Array.getElem?_modify, h']
theorem RBox.setT {w : World} {z : Nat} {s : RdM} {v : Value} {q : Nat} (h : RBox w z s v q) (p : Int) : RBox (w.setCell ⟨z, 6, none⟩ (.int .i64 p)) z { s with t := p } v q := by
  have h' : w.heap[z]? = _ := h
  simp [RBox, World.setCell, Array.getElem?_modify, h']
theorem RBox.setB {w : World} {z : Nat} {s : RdM} {v : Value} {q : Nat} (h : RBox w z s v q) (p : Int) : RBox (w.setCell ⟨z, 4, none⟩ (.int .u64 p)) z { s with b := p } v q := by
  have h' : w.heap[z]? = _ := h
  simp [RBox, World.setCell, Array.getElem?_modify, h']
theorem RBox.setV {w : World} {z : Nat} {s : RdM} {v : Value} {q : Nat} (h : RBox w z s v q) (p : Value) : RBox (w.setCell ⟨z, 5, none⟩ p) z s p q := by
  have h' : w.heap[z]? = _ := h
  simp [RBox, World.setCell, Array.getElem?_modify, h']

/-- Values that lie in none of the blocks of S. -/
def VV (S : Nat → Prop) (W : World) (v : Value) (vs : List Int) : Prop := ∃ p c, v = .slice p vs.length c ∧ (vs.length ≤ c ∧ c ≤ 9223372036854775807) ∧ ((p = none ∧ vs = [] ∧ c = 0) ∨ ∃ b off, p = some ⟨b, off, none⟩ ∧ ¬ S b ∧ ∀ i (h : i < vs.length), W.cell? ⟨b, off + i, none⟩ = some (.int .u64 vs[i]))
theorem VV.keeps {S T : Nat → Prop} {W W' : World} {v : Value} {vs : List Int} (h : VV S W v vs) (hk : Keeps T W W') (hT : ∀ k, T k → S k) : VV S W' v vs := by
  obtain ⟨p, c, rfl, hn, hc⟩ := h
  refine ⟨p, c, rfl, hn, ?_⟩
  rcases hc with hc | ⟨b, off, rfl, hS, hcs⟩
  · exact .inl hc
  · exact .inr ⟨b, off, rfl, hS, fun i hi => hk.cell (hcs i hi) (fun h => hS (hT _ h))⟩
theorem VV.nums {S : Nat → Prop} {W : World} {v : Value} {vs : List Int} (h : VV S W v vs) : NumsAt W .u64 v vs := by
  obtain ⟨p, c, rfl, hn, hc⟩ := h
  refine ⟨p, c, rfl, fun hne => ?_⟩
  rcases hc with ⟨_, hc, _⟩ | ⟨b, off, rfl, hS, hcs⟩
  · exact absurd hc hne
  · exact ⟨b, off, rfl, hcs⟩
theorem VV.nil (S : Nat → Prop) (W : World) : VV S W (.slice none 0 0) [] := ⟨none, 0, rfl, ⟨Nat.le_refl _, by decide⟩, .inl ⟨rfl, rfl, rfl⟩⟩
theorem VV.owns {S : Nat → Prop} {W : World} {B : Nat} {v : Value} {vs : List Int} {n : Nat} (h : W.ownsRow B 27 1 v n (vs.map (Value.int .u64))) (hn : n = vs.length) (hS : ∀ k, S k → k < B) : VV S W v vs := by
  subst hn
  rcases h.2 with ⟨rfl, h0⟩ | ⟨g, cap, cur, rfl, hB, hb, h1, h2, _⟩
  · obtain rfl : vs = [] := List.eq_nil_of_length_eq_zero h0
    exact VV.nil S W
  · refine ⟨_, _, rfl, ⟨h1, by unfold maxLen at h2; omega⟩, .inr ⟨g, 0, rfl, fun hs => by have := hS g hs; omega, fun i hi => ?_⟩⟩
    have h3 := h.cellAt i (by omega)
    rw [List.getElem?_eq_getElem (by simpa using hi)] at h3
    simpa using h3

set_option maxRecDepth 100000 in
set_option maxHeartbeats 4000000 in
theorem goOn_eq (r q : Nat) (a f m ph b t : Int) (p : Option Addr) (n c : Nat) (W : World) (hR : RBox W r ⟨a, f, m, ph, b, t⟩ (.slice p n c) q) (hm : m = (n : Int)) :
    Calls Try.prog 83 #[.pointer (some ⟨r, 0, none⟩)] W fun e w' => e = .returned (.tuple #[]) ∧ RBox w' r ⟨a, f, m, 3, b, t⟩ (.slice p n c) q ∧ Keeps (fun k => k = r) W w' := by
  subst hm
  have hR2 := hR.setP 2
  have HK2 := Lib.hid (Keeps.setCell W (S := fun k => k = r) (p := ⟨r, 3, none⟩) rfl (.int .i64 2))
  obtain ⟨w1, hw1⟩ : ∃ X : World, X = W.setCell ⟨r, 3, none⟩ (.int .i64 2) := ⟨_, rfl⟩
  rw [← hw1] at hR2 HK2
  obtain ⟨⟨h0, h1, h2, h3⟩, h4, h5, h6, h7⟩ := hR.cells
  have hf3 := hR.marks 3
  obtain ⟨⟨k0, k1, k2, k3⟩, k4, k5, k6, k7⟩ := hR2.cells
  have kf3 := hR2.marks 3
  have HR2 := Lib.hid hR2
  have HW1 := Lib.hid hw1
  dsimp only at h3 k2 k3
  clear hR hw1 hR2 h0 h1 h2 h4 h5 h6 h7 k0 k1 k4 k6 k7
  go_enter Try.func83, Try.ntmps83
  go_upto_region 1 with fail
  rw [← HW1.out]
  clear h3 hf3 HW1
  go_quiet (fail)
  go_wp2
  exact bodyPost_end (v := .tuple #[]) (by simp [results, Try.results83, go_sem]) rfl ⟨rfl, RBox.setP (w := w1.drewN _) (show RBox (w1.drewN _) r _ _ q from HR2.out) 3, (HK2.out.drewN _).trans (Keeps.setCell _ (S := fun k => k = r) (p := ⟨r, 3, none⟩) rfl _)⟩
set_option maxRecDepth 100000 in
set_option maxHeartbeats 4000000 in
theorem goOn_ne (r q : Nat) (a f m ph b t : Int) (p : Option Addr) (n c : Nat) (W : World) (hR : RBox W r ⟨a, f, m, ph, b, t⟩ (.slice p n c) q) (hm : ¬ (n : Int) = m) :
    Calls Try.prog 83 #[.pointer (some ⟨r, 0, none⟩)] W fun e w' => e = .returned (.tuple #[]) ∧ RBox w' r ⟨a, f, m, 2, b, t⟩ (.slice p n c) q ∧ Keeps (fun k => k = r) W w' := by
  have hb : ((n : Int) == m) = false := by simpa using hm
  have hR2 := hR.setP 2
  have HK2 := Lib.hid (Keeps.setCell W (S := fun k => k = r) (p := ⟨r, 3, none⟩) rfl (.int .i64 2))
  obtain ⟨w1, hw1⟩ : ∃ X : World, X = W.setCell ⟨r, 3, none⟩ (.int .i64 2) := ⟨_, rfl⟩
  rw [← hw1] at hR2 HK2
  obtain ⟨⟨h0, h1, h2, h3⟩, h4, h5, h6, h7⟩ := hR.cells
  have hf3 := hR.marks 3
  obtain ⟨⟨k0, k1, k2, k3⟩, k4, k5, k6, k7⟩ := hR2.cells
  have kf3 := hR2.marks 3
  have HR2 := Lib.hid hR2
  have HW1 := Lib.hid hw1
  dsimp only at h3 k2 k3
  clear hR hw1 hR2 h0 h1 h2 h4 h5 h6 h7 k0 k1 k4 k6 k7
  go_enter Try.func83, Try.ntmps83
  go_upto_region 1 with fail
  rw [← HW1.out]
  clear h3 hf3 HW1
  go_quiet (fail)
  go_wp2
  exact bodyPost_end (v := .tuple #[]) (by simp [results, Try.results83, go_sem]) rfl ⟨rfl, HR2.out, HK2.out.drewN _⟩

end Go.Proofs.Ytaljpggajpoalaa
namespace Go.Proofs.Ytaljpggajpoalaa
open Go.RowKit Go.Shelf
attribute [local go_sem] Oper.semAt_some

/-- What a method of a reader leaves. -/
def MDone (B q z gw gl cw cl r : Nat) (us : List Int) (ms : List Bool) (u d : Bool) (s : RdM) (v : Value) (W : World) (e : Ending) (w' : World) : Prop :=
  e = .returned (.bool d) ∧ AccF B q z gw gl cw cl us ms u w' ∧ RBox w' r s v q ∧ Keeps (fun k => k = z ∨ k = gw ∨ k = r) W w'
theorem AccF.drewN {B q z gw gl cw cl : Nat} {us : List Int} {ms : List Bool} {u : Bool} {W : World} (h : AccF B q z gw gl cw cl us ms u W) (n : Nat) : AccF B q z gw gl cw cl us ms u (W.drewN n) := h.below (below_drewN (Below.refl _ _) n)
theorem AccF.drew {B q z gw gl cw cl : Nat} {us : List Int} {ms : List Bool} {u : Bool} {W : World} (h : AccF B q z gw gl cw cl us ms u W) : AccF B q z gw gl cw cl us ms u W.drew := h.below (Below.refl _ _).drew
theorem AccF.apart {B q z gw gl cw cl r : Nat} {us : List Int} {ms : List Bool} {u : Bool} {W : World} {s : RdM} {v : Value} (h : AccF B q z gw gl cw cl us ms u W) (hR : RBox W r s v q) : r ≠ q ∧ r ≠ z ∧ r ≠ gw ∧ r ≠ gl := by
  have hq : W.heap[q]? = _ := h.x
  have hz : W.heap[z]? = _ := h.box
  have hr : W.heap[r]? = _ := hR
  obtain ⟨c1, f1, h1⟩ := Lib.ownsRow_kind h.words gw rfl
  obtain ⟨c2, f2, h2⟩ := Lib.ownsRow_kind h.lives gl rfl
  refine ⟨?_, ?_, ?_, ?_⟩ <;> rintro rfl <;> simp_all
theorem goOn_c (r q : Nat) (a f m ph b t : Int) (p : Option Addr) (n c : Nat) (W : World) (hR : RBox W r ⟨a, f, m, ph, b, t⟩ (.slice p n c) q) :
    Calls Try.prog 83 #[.pointer (some ⟨r, 0, none⟩)] W fun e w' => e = .returned (.tuple #[]) ∧ RBox w' r ⟨a, f, m, phR m n, b, t⟩ (.slice p n c) q ∧ Keeps (fun k => k = r) W w' := by
  by_cases hm : (n : Int) = m
  · have e : phR m n = 3 := by unfold phR; rw [if_pos hm]
    rw [e]
    exact goOn_eq r q a f m ph b t p n c W hR hm.symm
  · have e : phR m n = 2 := by unfold phR; rw [if_neg hm]
    rw [e]
    exact goOn_ne r q a f m ph b t p n c W hR hm
set_option maxRecDepth 100000 in
set_option maxHeartbeats 4000000 in
theorem rbegin_no (B q z gw gl cw cl r : Nat) (us : List Int) (ms : List Bool) (u : Bool) (a f m ph b t : Int) (v : Value) (W : World) (hF : AccF B q z gw gl cw cl us ms u W) (hR : RBox W r ⟨a, f, m, ph, b, t⟩ v q) (hr : rightB us ms = true) (ha : 0 ≤ a) (hm : a ≤ 4096) (us' : List Int) (u' : Bool) (h : Int)  (hacc : accM us ms u 1 (a) 0 0 = (us', u', h, false)) :
    Calls Try.prog 65 #[.pointer (some ⟨r, 0, none⟩)] W fun e w' => MDone B q z gw gl cw cl r us' ms u' false ⟨a, f, m, ph, b, t⟩ v W e w' := by
  obtain ⟨nq, nz, nw, nl⟩ := hF.apart hR
  have HC := Lib.hid (fun (Z : World) (hz : AccF B q z gw gl cw cl us ms u Z) => hacc ▸ qload_c B q z gw gl cw cl us ms u (a) Z hz hr (by omega) (by omega))
  have HF := Lib.hid hF
  have HR := Lib.hid hR
  obtain ⟨⟨h0, h1, h2, h3⟩, h4, h5, h6, h7⟩ := hR.cells
  dsimp only at h0 h1 h2 h3 h4 h6
  clear hF hR hr hacc h1 h2 h3 h4 h5 h6
  go_enter Try.func65, Try.ntmps65
  go_upto_region 1 with fail
  go_region_held3 (fun w' => w'.cell? ⟨r, 0, none⟩ = some (.int .i64 a) ∧ w'.cell? ⟨r, 7, none⟩ = some (accV q))
    (first
      | exact ⟨h0, h7⟩
      | go_keep
      | (go_split_ands; exact ⟨hk1.cell (by assumption) (by show ¬ (r = z ∨ r = gw); omega), hk1.cell (by assumption) (by show ¬ (r = z ∨ r = gw); omega)⟩))
    (first | (go_at_call 82; refine (HC.out _ HF.out.drew).mono ?_; rintro e w1 ⟨rfl, hF1, hk1⟩))
  all_goals
    have HF1 := Lib.hid hF1
    have HK1 := Lib.hid ((Keeps.drewN (Keeps.refl (fun k => k = z ∨ k = gw) W) 1).trans hk1)
    have HR1 := Lib.hid (HR.out.keeps HK1.out (by show ¬ (r = z ∨ r = gw); omega))
    clear hF1 hk1 HC HF HR h0 h7
    rename_i hHeld
    clear hHeld
    go_wp2
    exact bodyPost_ret (v := .bool false) (by simp [results, Try.results65, go_sem]) rfl ⟨rfl, HF1.out, HR1.out, HK1.out.sub fun k _ e => by rcases e with e | e; exact .inl e; exact .inr (.inl e)⟩
set_option maxRecDepth 100000 in
set_option maxHeartbeats 4000000 in
theorem rbegin_odd (B q z gw gl cw cl r : Nat) (us : List Int) (ms : List Bool) (u : Bool) (a f m ph b t : Int) (v : Value) (W : World) (hF : AccF B q z gw gl cw cl us ms u W) (hR : RBox W r ⟨a, f, m, ph, b, t⟩ v q) (hr : rightB us ms = true) (ha : 0 ≤ a) (hm : a ≤ 4096) (us' : List Int) (u' : Bool) (h : Int) (hh : 0 ≤ h ∧ h ≤ 18446744073709551615) (ho : h % 2 = 1) (hacc : accM us ms u 1 (a) 0 0 = (us', u', h, true)) :
    Calls Try.prog 65 #[.pointer (some ⟨r, 0, none⟩)] W fun e w' => MDone B q z gw gl cw cl r us' ms u' true ⟨a, f, m, ph, b, t⟩ v W e w' := by
  obtain ⟨nq, nz, nw, nl⟩ := hF.apart hR
  have HC := Lib.hid (fun (Z : World) (hz : AccF B q z gw gl cw cl us ms u Z) => hacc ▸ qload_c B q z gw gl cw cl us ms u (a) Z hz hr (by omega) (by omega))
  have HF := Lib.hid hF
  have HR := Lib.hid hR
  obtain ⟨⟨h0, h1, h2, h3⟩, h4, h5, h6, h7⟩ := hR.cells
  dsimp only at h0 h1 h2 h3 h4 h6
  have HH := Lib.hid hh
  clear hF hR hr hacc h1 h2 h3 h4 h5 h6
  go_enter Try.func65, Try.ntmps65
  go_upto_region 1 with fail
  go_region_held3 (fun w' => w'.cell? ⟨r, 0, none⟩ = some (.int .i64 a) ∧ w'.cell? ⟨r, 7, none⟩ = some (accV q))
    (first
      | exact ⟨h0, h7⟩
      | go_keep
      | (go_split_ands; exact ⟨hk1.cell (by assumption) (by show ¬ (r = z ∨ r = gw); omega), hk1.cell (by assumption) (by show ¬ (r = z ∨ r = gw); omega)⟩))
    (first | (go_at_call 82; refine (HC.out _ HF.out.drew).mono ?_; rintro e w1 ⟨rfl, hF1, hk1⟩))
  all_goals
    have HF1 := Lib.hid hF1
    have HK1 := Lib.hid ((Keeps.drewN (Keeps.refl (fun k => k = z ∨ k = gw) W) 1).trans hk1)
    have HR1 := Lib.hid (HR.out.keeps HK1.out (by show ¬ (r = z ∨ r = gw); omega))
    clear hF1 hk1 HC HF HR h0 h7
    rename_i hHeld
    clear hHeld
    go_wp2_with fail
    refine (odd_c h HH.out w1).mono ?_
    rintro e w2 ⟨rfl, hb2⟩
    rw [show decide (h % 2 = 0) = false by rw [ho]; decide]
    have HF2 := Lib.hid (HF1.out.below hb2)
    have HR2 := Lib.hid (HR1.out.below hb2)
    have HK2 := Lib.hid (HK1.out.trans (Keeps.of_below hb2))
    clear hb2 HF1 HR1 HK1
    go_wp2
    exact bodyPost_ret (v := .bool true) (by simp [results, Try.results65, go_sem]) rfl ⟨rfl, HF2.out, HR2.out, HK2.out.sub fun k _ e => by rcases e with e | e; exact .inl e; exact .inr (.inl e)⟩
set_option maxRecDepth 100000 in
set_option maxHeartbeats 4000000 in
theorem rbegin_even (B q z gw gl cw cl r : Nat) (us : List Int) (ms : List Bool) (u : Bool) (a f m ph b t : Int) (v : Value) (W : World) (hF : AccF B q z gw gl cw cl us ms u W) (hR : RBox W r ⟨a, f, m, ph, b, t⟩ v q) (hr : rightB us ms = true) (ha : 0 ≤ a) (hm : a ≤ 4096) (us' : List Int) (u' : Bool) (h : Int) (hh : 0 ≤ h ∧ h ≤ 18446744073709551615) (ho : h % 2 = 0) (hacc : accM us ms u 1 (a) 0 0 = (us', u', h, true)) :
    Calls Try.prog 65 #[.pointer (some ⟨r, 0, none⟩)] W fun e w' => MDone B q z gw gl cw cl r us' ms u' true ⟨a, f, m, phR m 0, h, t⟩ (.slice none 0 0) W e w' := by
  obtain ⟨nq, nz, nw, nl⟩ := hF.apart hR
  have HC := Lib.hid (fun (Z : World) (hz : AccF B q z gw gl cw cl us ms u Z) => hacc ▸ qload_c B q z gw gl cw cl us ms u (a) Z hz hr (by omega) (by omega))
  have HF := Lib.hid hF
  have HR := Lib.hid hR
  obtain ⟨⟨h0, h1, h2, h3⟩, h4, h5, h6, h7⟩ := hR.cells
  dsimp only at h0 h1 h2 h3 h4 h6
  have HH := Lib.hid hh
  clear hF hR hr hacc h1 h2 h3 h4 h5 h6
  go_enter Try.func65, Try.ntmps65
  go_upto_region 1 with fail
  go_region_held3 (fun w' => w'.cell? ⟨r, 0, none⟩ = some (.int .i64 a) ∧ w'.cell? ⟨r, 7, none⟩ = some (accV q))
    (first
      | exact ⟨h0, h7⟩
      | go_keep
      | (go_split_ands; exact ⟨hk1.cell (by assumption) (by show ¬ (r = z ∨ r = gw); omega), hk1.cell (by assumption) (by show ¬ (r = z ∨ r = gw); omega)⟩))
    (first | (go_at_call 82; refine (HC.out _ HF.out.drew).mono ?_; rintro e w1 ⟨rfl, hF1, hk1⟩))
  all_goals
    have HF1 := Lib.hid hF1
    have HK1 := Lib.hid ((Keeps.drewN (Keeps.refl (fun k => k = z ∨ k = gw) W) 1).trans hk1)
    have HR1 := Lib.hid (HR.out.keeps HK1.out (by show ¬ (r = z ∨ r = gw); omega))
    clear hF1 hk1 HC HF HR h0 h7
    rename_i hHeld
    clear hHeld
    go_wp2_with fail
    refine (odd_c h HH.out w1).mono ?_
    rintro e w2 ⟨rfl, hb2⟩
    rw [show decide (h % 2 = 0) = true by rw [ho]; decide]
    have HF2 := Lib.hid (HF1.out.below hb2)
    have hR2 := HR1.out.below hb2
    have HK2 := Lib.hid (HK1.out.trans (Keeps.of_below hb2))
    obtain ⟨-, k4, k5, -, -⟩ := hR2.cells
    have m4 := hR2.marks 4
    have m5 := hR2.marks 5
    have HR3 := Lib.hid ((hR2.setB h).setV (.slice none 0 0))
    obtain ⟨w3, hw3⟩ : ∃ X : World, X = (w2.setCell ⟨r, 4, none⟩ (.int .u64 h)).setCell ⟨r, 5, none⟩ (.slice none 0 0) := ⟨_, rfl⟩
    have hk3 : Keeps (fun k => k = r) w2 w3 := by rw [hw3]; exact (Keeps.setCell w2 (S := (· = r)) (p := ⟨r, 4, none⟩) rfl _).trans (Keeps.setCell _ (S := (· = r)) (p := ⟨r, 5, none⟩) rfl _)
    rw [← hw3] at HR3
    have HF3 := Lib.hid (HF2.out.keeps hk3 (by show ¬ q = r; omega) (by show ¬ z = r; omega) (by show ¬ gw = r; omega) (by show ¬ gl = r; omega))
    have HK3 := Lib.hid ((HK2.out.sub (T := fun k => k = z ∨ k = gw ∨ k = r) fun k _ e => by rcases e with e | e; exact .inl e; exact .inr (.inl e)).trans (hk3.sub fun k _ e => .inr (.inr e)))
    have HW3 := Lib.hid hw3
    clear hb2 HF1 HR1 HK1 hR2 hk3 HF2 HK2 hw3
    dsimp only at k4
    go_wp2_with fail
    rw [← HW3.out]
    clear k4 k5 m4 m5 HW3
    refine (goOn_c r q a f m ph h t none 0 0 w3 HR3.out).mono ?_
    rintro e w4 ⟨rfl, hR4, hk4⟩
    have HR4 := Lib.hid hR4
    have HF4 := Lib.hid (HF3.out.keeps hk4 (by show ¬ q = r; omega) (by show ¬ z = r; omega) (by show ¬ gw = r; omega) (by show ¬ gl = r; omega))
    have HK4 := Lib.hid (HK3.out.trans (hk4.sub fun k _ e => .inr (.inr e)))
    clear hR4 hk4 HF3 HK3 HR3
    go_wp2
    exact bodyPost_ret (v := .bool true) (by simp [results, Try.results65, go_sem]) rfl ⟨rfl, HF4.out, HR4.out, HK4.out⟩

end Go.Proofs.Ytaljpggajpoalaa
