/-
  Variables that hold memories, by where they and their rows lie; the contracts of layer 2 in that form.
  Conditions: as each has them.
-/
import Derived.Test.YtgpbhdoidhhhhaaMSpoil
import Derived.Test.YtgpbhdoidhhhhaaMOpen
namespace Go.Proofs.Ytgpbhdoidhhhhaa
open Go.RowKit Go.Shelf

/-- Block z is a variable that holds a memory of its own; it and its rows lie from block lo on, ahead of hi. -/
structure PVar (w : World) (lo hi z : Nat) (x y : Value) (ws : List Int) (ls : List Bool) (f : Bool) : Prop where
  box : MBox w z x y f
  words : w.ownsRow lo 42 1 x ws.length (ws.map (Value.int .u64))
  lives : w.ownsRow lo 4 1 y ls.length (ls.map Value.bool)
  from' : lo ≤ z
  to' : z < hi
  wlt : ∀ g, x.ownBlock = some g → g < hi
  llt : ∀ g, y.ownBlock = some g → g < hi
section
variable {w w' : World} {lo hi z : Nat} {x y : Value} {ws : List Int} {ls : List Bool} {f : Bool}
theorem PVar.keeps (h : PVar w lo hi z x y ws ls f) {S : Nat → Prop} (hk : Keeps S w w') (hS : ∀ q, S q → q < lo ∨ hi ≤ q) : PVar w' lo hi z x y ws ls f :=
  ⟨h.box.keeps hk (fun hs => by have := hS _ hs; have := h.from'; have := h.to'; omega), hk.row h.words (fun g hg hs => by have := hS _ hs; have := (h.words.lt g hg).1; have := h.wlt g hg; omega),
    hk.row h.lives (fun g hg hs => by have := hS _ hs; have := (h.lives.lt g hg).1; have := h.llt g hg; omega), h.from', h.to', h.wlt, h.llt⟩
theorem PVar.below (h : PVar w lo hi z x y ws ls f) (hb : Below w.heap.size w w') : PVar w' lo hi z x y ws ls f := h.keeps (Keeps.of_below (S := fun _ => False) hb) (fun _ h => h.elim)
theorem PVar.wide (h : PVar w lo hi z x y ws ls f) {lo' hi' : Nat} (h1 : lo' ≤ lo) (h2 : hi ≤ hi') : PVar w lo' hi' z x y ws ls f :=
  ⟨h.box, h.words.mono h1, h.lives.mono h1, Nat.le_trans h1 h.from', Nat.lt_of_lt_of_le h.to' h2, fun g hg => Nat.lt_of_lt_of_le (h.wlt g hg) h2, fun g hg => Nat.lt_of_lt_of_le (h.llt g hg) h2⟩
theorem PVar.var (h : PVar w lo hi z x y ws ls f) : MVar w z x y ws ls f := ⟨h.box, nums_of_owns rfl h.words, bools_of_owns rfl h.lives⟩
theorem PVar.mem (h : PVar w lo hi z x y ws ls f) : MemAt w (.agg #[x, y, .bool f]) ws ls f := h.var.mem
theorem PVar.cells (h : PVar w lo hi z x y ws ls f) : w.cell? ⟨z, 0, none⟩ = some x ∧ w.cell? ⟨z, 1, none⟩ = some y ∧ w.cell? ⟨z, 2, none⟩ = some (.bool f) := h.var.cells
theorem PVar.free (h : PVar w lo hi z x y ws ls f) : w.frozen? ⟨z, 0, none⟩ = false ∧ w.frozen? ⟨z, 1, none⟩ = false ∧ w.frozen? ⟨z, 2, none⟩ = false := (mbox_cells h.box).2
end
theorem owns_lt {w : World} {B : Nat} {E : TypeId} {s n : Nat} {v : Value} {xs : List Value} (h : w.ownsRow B E s v n xs) : ∀ g, v.ownBlock = some g → g < w.heap.size := fun g hg => (h.lt g hg).2
theorem putM_size (w : World) (x y : Value) (f : Bool) : (putM w x y f).heap.size = w.heap.size + 1 := by simp [putM]
/-- What own answers, in a variable. -/
theorem own_putP {B : Nat} {us : List Int} {ms : List Bool} {f : Bool} {e : Ending} {w' : World} (h : GivesMem B us ms f e w') (hB : B ≤ w'.heap.size) :
    ∃ p0 c0 p1 c1, e = .returned (.agg #[.slice p0 us.length c0, .slice p1 ms.length c1, .bool f]) ∧
    ∃ w3, w3 = putM w' (.slice p0 us.length c0) (.slice p1 ms.length c1) f ∧ PVar w3 B w3.heap.size w'.heap.size (.slice p0 us.length c0) (.slice p1 ms.length c1) us ms f ∧ Below w'.heap.size w' w3 := by
  obtain ⟨v, rfl, vw, vl, rfl, h0, h1⟩ := h
  obtain ⟨p0, c0, rfl⟩ := owns_slice h0
  obtain ⟨p1, c1, rfl⟩ := owns_slice h1
  have hb := putM_below w' (.slice p0 us.length c0) (.slice p1 ms.length c1) f
  exact ⟨_, _, _, _, rfl, _, rfl, ⟨putM_box _ _ _ _, owns_below h0 hb, owns_below h1 hb, hB, by rw [putM_size]; omega, fun g hg => by have := owns_lt h0 g hg; rw [putM_size]; omega, fun g hg => by have := owns_lt h1 g hg; rw [putM_size]; omega⟩, hb⟩
/-- What Live and Free answer, in a variable. -/
theorem live_putP {B : Nat} {us : List Int} {ms : List Bool} {f : Bool} {e : Ending} {w' : World} (h : LiveOk B us ms f e w') (hB : B ≤ w'.heap.size) :
    ∃ p0 c0 p1 c1, e = .returned (.tuple #[.agg #[.slice p0 us.length c0, .slice p1 ms.length c1, .bool f], .int .i64 0]) ∧
    ∃ w3, w3 = putM w' (.slice p0 us.length c0) (.slice p1 ms.length c1) f ∧ PVar w3 B w3.heap.size w'.heap.size (.slice p0 us.length c0) (.slice p1 ms.length c1) us ms f ∧ Below w'.heap.size w' w3 := by
  obtain ⟨v, rfl, ho⟩ := h
  obtain ⟨p0, c0, p1, c1, he, w3, hw3, hp, hb⟩ := own_putP ⟨v, rfl, ho⟩ hB
  injection he with he
  subst he
  exact ⟨p0, c0, p1, c1, rfl, w3, hw3, hp, hb⟩
theorem nil_putP (B : Nat) (w : World) (hB : B ≤ w.heap.size) : PVar (putM w (.slice none 0 0) (.slice none 0 0) false) B (putM w (.slice none 0 0) (.slice none 0 0) false).heap.size w.heap.size (.slice none 0 0) (.slice none 0 0) [] [] false :=
  ⟨putM_box _ _ _ _, World.ownsRow_nil _ _ _ _, World.ownsRow_nil _ _ _ _, hB, by rw [putM_size]; omega, fun g hg => by simp [Value.ownBlock] at hg, fun g hg => by simp [Value.ownBlock] at hg⟩
/-- spoil, of a variable's memory. -/
theorem spoil_p {w : World} {lo hi z : Nat} {x y : Value} {ws : List Int} {ls : List Bool} {f : Bool} (h : PVar w lo hi z x y ws ls f) (hn : ws.length ≤ 4096) (hm : ls.length ≤ 4096) :
    Calls Try.prog 18 #[.agg #[x, y, .bool f]] w fun e w' => e = .returned (.tuple #[]) ∧ Keeps (fun q => lo ≤ q ∧ q < hi) w w' :=
  (spoil_c lo x y f ws ls w h.words h.lives hn hm).mono fun e w' ⟨he, hk⟩ => ⟨he, hk.sub fun q _ hq => by
    rcases hq with hq | hq
    · exact ⟨(h.words.lt q hq).1, h.wlt q hq⟩
    · exact ⟨(h.lives.lt q hq).1, h.llt q hq⟩⟩
theorem allB_false {ls : List Bool} {x k : Nat} (h : x + k ≤ ls.length) : allB ls x k false = decide (cnt x (x + k) 0 ls = 0) := by
  rw [Bool.eq_iff_iff, decide_eq_true_iff, allB_true, cnt_zero_iff]
  constructor
  · intro hh i hi h1 h2
    have := hh (i - x) (by omega)
    rw [show x + (i - x) = i by omega, List.getD_eq_getElem?_getD, List.getElem?_eq_getElem hi] at this
    exact this
  · intro hh i hi
    rw [List.getD_eq_getElem?_getD, List.getElem?_eq_getElem (by omega)]
    exact hh (x + i) (by omega) (by omega) (by omega)
theorem allB_live {ls : List Bool} {x k : Nat} (h : x + k ≤ ls.length) : allB ls x k true = decide (cnt x (x + k) 0 ls = k) := by
  rw [Bool.eq_iff_iff, decide_eq_true_iff, allB_true]
  have hc := cnt_full_iff x (x + k) ls 0 (Nat.zero_le _) (by omega) (by omega)
  rw [show x + k - x = k by omega] at hc
  rw [hc]
  constructor
  · intro hh i hi h1 h2
    have := hh (i - x) (by omega)
    rw [show x + (i - x) = i by omega, List.getD_eq_getElem?_getD, List.getElem?_eq_getElem hi] at this
    exact this
  · intro hh i hi
    rw [List.getD_eq_getElem?_getD, List.getElem?_eq_getElem (by omega)]
    exact hh (x + i) (by omega) (by omega) (by omega)
theorem capmax_mk {x : Value} {q : Option Addr} {n c : Nat} {b : Value} (h : n ≤ c ∧ c ≤ 9223372036854775807) : ∀ (x' y' : Value) (p : Option Addr) (n' c' : Nat), Value.agg #[x, .slice q n c, b] = .agg #[x', .slice p n' c', y'] → n' ≤ c' ∧ c' ≤ 9223372036854775807 := by
  intro x' y' p n' c' e
  injection e with e
  injection e with e
  injection e with _ e
  injection e with e _
  injection e with _ e1 e2
  subst e1
  subst e2
  exact h

theorem argr_of_owns {w : World} {B : Nat} {E : TypeId} {v : Value} {n : Nat} {xs : List Value} (h : w.ownsRow B E 1 v n xs) (hl : xs.length = n) : ArgR w v xs := by
  rcases h.2 with ⟨rfl, rfl⟩ | ⟨g, cap, cur, rfl, _⟩
  · exact ⟨_, _, _, rfl, hl.symm, .inl ⟨rfl, rfl, rfl⟩⟩
  · refine ⟨_, _, _, rfl, hl.symm, .inr ⟨_, rfl, (own_cap h).1, fun j u hj => ?_⟩⟩
    rw [addr_add_off, Nat.zero_add]
    obtain ⟨hj1, rfl⟩ := List.getElem?_eq_some_iff.1 hj
    rw [h.cellAt j (by omega), List.getElem?_eq_getElem hj1]
/-- own, of a variable's memory. -/
theorem own_p {w : World} {lo hi z : Nat} {x y : Value} {ws : List Int} {ls : List Bool} {f : Bool} (h : PVar w lo hi z x y ws ls f) (hn : ws.length ≤ 64) (hm : ls.length ≤ 64) :
    Calls Try.prog 9 #[.agg #[x, y, .bool f]] w fun e w' => GivesMem w.heap.size ws ls f e w' ∧ Below w.heap.size w w' := by
  have := own_c x y f ws ls w (argr_of_owns h.words (by simp)) (argr_of_owns h.lives (by simp)) (by omega) (by omega)
  rw [List.take_of_length_le hn, List.take_of_length_le hm] at this
  exact this
/-- A variable is given rows. -/
theorem put_back {w : World} {z lo lo0 : Nat} {a b x y : Value} {f0 f : Bool} {us : List Int} {ms : List Bool} (hz : MBox w z a b f0) (h0 : w.ownsRow lo 42 1 x us.length (us.map (Value.int .u64))) (h1 : w.ownsRow lo 4 1 y ms.length (ms.map Value.bool)) (hl : lo0 ≤ lo) (hlz : lo0 ≤ z) :
    PVar (((w.setCell ⟨z, 0, none⟩ x).setCell ⟨z, 1, none⟩ y).setCell ⟨z, 2, none⟩ (.bool f)) lo0 (((w.setCell ⟨z, 0, none⟩ x).setCell ⟨z, 1, none⟩ y).setCell ⟨z, 2, none⟩ (.bool f)).heap.size z x y us ms f := by
  have hk : Keeps (fun q => q = z) w (((w.setCell ⟨z, 0, none⟩ x).setCell ⟨z, 1, none⟩ y).setCell ⟨z, 2, none⟩ (.bool f)) :=
    ((Keeps.setCell w (S := fun q => q = z) (p := ⟨z, 0, none⟩) rfl _).trans (Keeps.setCell _ (S := fun q => q = z) (p := ⟨z, 1, none⟩) rfl _)).trans (Keeps.setCell _ (S := fun q => q = z) (p := ⟨z, 2, none⟩) rfl _)
  have hs := hk.size
  exact ⟨hz.set _ _ _, (hk.row h0 (fun g hg e => hz.row h0 (by decide) hg (show g = z from e).symm)).mono hl, (hk.row h1 (fun g hg e => hz.row h1 (by decide) hg (show g = z from e).symm)).mono hl, hlz,
    Nat.lt_of_lt_of_le hz.lt hs, fun g hg => Nat.lt_of_lt_of_le (owns_lt h0 g hg) hs, fun g hg => Nat.lt_of_lt_of_le (owns_lt h1 g hg) hs⟩
/-- Block z is a variable that holds a pair. -/
def PBox (w : World) (z : Nat) (a k : Int) : Prop := w.heap[z]? = some (.cells #[.int .i64 a, .int .i64 k] 29 (0, 0))
theorem PBox.lt {w : World} {z : Nat} {a k : Int} (h : PBox w z a k) : z < w.heap.size := (Array.getElem?_eq_some_iff.1 h).1
theorem PBox.below {w w' : World} {z : Nat} {a k : Int} (h : PBox w z a k) (hb : Below w.heap.size w w') : PBox w' z a k := (hb.block z h.lt).trans h
theorem PBox.cells {w : World} {z : Nat} {a k : Int} (h : PBox w z a k) : w.cell? ⟨z, 0, none⟩ = some (.int .i64 a) ∧ w.cell? ⟨z, 1, none⟩ = some (.int .i64 k) := by
  have h' : w.heap[z]? = _ := h
  simp [World.cell?, h']
theorem PBox.keeps {S : Nat → Prop} {w w' : World} {z : Nat} {a k : Int} (h : PBox w z a k) (hk : Keeps S w w') (hz : ¬ S z) : PBox w' z a k := (hk.block z h.lt hz).trans h
theorem MBox.cells {w : World} {z : Nat} {x y : Value} {f : Bool} (h : MBox w z x y f) : w.cell? ⟨z, 0, none⟩ = some x ∧ w.cell? ⟨z, 1, none⟩ = some y ∧ w.cell? ⟨z, 2, none⟩ = some (.bool f) := (mbox_cells h).1
theorem nil_mem (w : World) : MemAt w (.agg #[.slice none 0 0, .slice none 0 0, .bool false]) [] [] false := ⟨_, _, rfl, ⟨none, 0, rfl, fun h => absurd rfl h⟩, ⟨none, 0, rfl, fun h => absurd rfl h⟩⟩
theorem tag_cases (us : List Int) (ms : List Bool) (a k : Int) : rightB us ms = false ∨ (rightB us ms = true ∧ thereB us.length a k = false) ∨
    (rightB us ms = true ∧ thereB us.length a k = true ∧ cnt a.toNat (a.toNat + k.toNat) 0 ms = 0 ∧ cnt a.toNat (a.toNat + k.toNat) 0 ms < k.toNat) ∨
    (rightB us ms = true ∧ thereB us.length a k = true ∧ cnt a.toNat (a.toNat + k.toNat) 0 ms ≠ 0 ∧ cnt a.toNat (a.toNat + k.toNat) 0 ms = k.toNat) ∨
    (rightB us ms = true ∧ thereB us.length a k = true ∧ cnt a.toNat (a.toNat + k.toNat) 0 ms ≠ 0 ∧ cnt a.toNat (a.toNat + k.toNat) 0 ms < k.toNat) := by
  cases hr : rightB us ms with
  | false => exact .inl rfl
  | true =>
    cases ht : thereB us.length a k with
    | false => exact .inr (.inl ⟨rfl, rfl⟩)
    | true =>
      have hle := cnt_le a.toNat (a.toNat + k.toNat) ms 0
      have hk := (thereB_iff.1 ht).1
      by_cases h0 : cnt a.toNat (a.toNat + k.toNat) 0 ms = 0
      · exact .inr (.inr (.inl ⟨rfl, rfl, h0, by omega⟩))
      · by_cases h1 : cnt a.toNat (a.toNat + k.toNat) 0 ms = k.toNat
        · exact .inr (.inr (.inr (.inl ⟨rfl, rfl, h0, h1⟩)))
        · exact .inr (.inr (.inr (.inr ⟨rfl, rfl, h0, by omega⟩)))

end Go.Proofs.Ytgpbhdoidhhhhaa
