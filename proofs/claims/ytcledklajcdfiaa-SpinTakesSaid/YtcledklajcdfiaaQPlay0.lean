/-
  Plays of those who want locks: the mathematics, and how a play lies in memory.
  Conditions: as each has them.
-/
import Derived.Test.YtcledklajcdfiaaQTake
import Derived.Test.YtcledklajcdfiaaQRef
import Derived.Test.YtcledklajcdfiaaMStep
namespace Go.Proofs.Ytcledklajcdfiaa
open Go.RowKit Go.Shelf

/-- A play: words, the fault, and all who want locks. -/
structure PlM where
  ws : List Int
  f : Bool
  ss : List SpM
/-- The step of one of them. -/
def stepM (ls : List Bool) (ws : List Int) (f : Bool) (s : SpM) : List Int × Bool × SpM :=
  if hasS s = true then ((accM ws ls f (needS s).k (needS s).a (needS s).o (needS s).n).1, (accM ws ls f (needS s).k (needS s).a (needS s).o (needS s).n).2.1, takeS s (accM ws ls f (needS s).k (needS s).a (needS s).o (needS s).n).2.2.1 (accM ws ls f (needS s).k (needS s).a (needS s).o (needS s).n).2.2.2)
  else (ws, f, s)
def dS : SpM := ⟨0, 0, 0⟩
def stepP (ls : List Bool) (P : PlM) (i : Nat) : PlM :=
  ⟨(stepM ls P.ws P.f (P.ss.getD i dS)).1, (stepM ls P.ws P.f (P.ss.getD i dS)).2.1, P.ss.set i (stepM ls P.ws P.f (P.ss.getD i dS)).2.2⟩
/-- Who has the lock is about to let it go. -/
def leaveS (s : SpM) : SpM := if s.p = 3 then ⟨s.a, 4, s.t⟩ else s
def turnP (ls : List Bool) (P : PlM) (i : Nat) : PlM := stepP ls ⟨P.ws, P.f, P.ss.set i (leaveS (P.ss.getD i dS))⟩ i
/-- What holds of all plays. -/
structure PlOk (ls : List Bool) (P : PlM) : Prop where
  mem : rightB P.ws ls = true
  rng : WRange P.ws
  may : ∀ s ∈ P.ss, rightS s = true
  sr : ∀ s ∈ P.ss, SpR s

theorem accM_rng {ws : List Int} (h : WRange ws) (ls : List Bool) (f : Bool) (k a o n : Int) (hn : 0 ≤ n ∧ n ≤ 18446744073709551615) :
    WRange (accM ws ls f k a o n).1 ∧ 0 ≤ (accM ws ls f k a o n).2.2.1 ∧ (accM ws ls f k a o n).2.2.1 ≤ 18446744073709551615 := by
  have hg : 0 ≤ ws.getD a.toNat 0 ∧ ws.getD a.toNat 0 ≤ 18446744073709551615 := by
    rw [List.getD_eq_getElem?_getD]
    cases hi : ws[a.toNat]? with
    | none => simp
    | some x => exact h x (List.mem_of_getElem? hi)
  have hs : WRange (ws.set a.toNat n) := fun x hx => by
    rcases List.mem_or_eq_of_mem_set hx with hx | rfl
    · exact h x hx
    · exact hn
  unfold accM
  split
  · split
    · exact ⟨h, hg.1, hg.2⟩
    · split
      · exact ⟨hs, hg.1, hg.2⟩
      · exact ⟨h, hg.1, hg.2⟩
  · exact ⟨h, (by decide : (0 : Int) ≤ 0), (by decide : (0 : Int) ≤ 18446744073709551615)⟩
theorem needS_rng (s : SpM) : kindB (needS s).k = true ∧ 0 ≤ (needS s).n ∧ (needS s).n ≤ 18446744073709551615 := by
  have h1 := incU_rng s.t
  unfold needS
  repeat' split
  all_goals exact ⟨by rw [kindB_iff]; simp, by first | exact h1.1 | exact (by decide : (0 : Int) ≤ 0), by first | exact h1.2 | exact (by decide : (0 : Int) ≤ 18446744073709551615)⟩
theorem accM_right {ws : List Int} {ls : List Bool} (h : rightB ws ls = true) (f : Bool) (k a o n : Int) : rightB (accM ws ls f k a o n).1 ls = true := by
  unfold accM
  split
  · rename_i hl
    split
    · exact h
    · split
      · obtain ⟨h1, h2, h3, h4⟩ := rightB_iff.1 h
        refine rightB_iff.2 ⟨by simpa using h1, by simpa using h2, by simpa using h3, fun i hi hi' => ?_⟩
        rw [List.getElem_set]
        split
        · rename_i e
          simp only [liveAt, Bool.and_eq_true] at hl
          have hd := hl.2
          rw [List.getD_eq_getElem?_getD, e, List.getElem?_eq_getElem hi'] at hd
          have hd' : ls[i] = true := by simpa using hd
          rw [hd']; rfl
        · exact h4 i (by simpa using hi) hi'
      · exact h
  · exact h
theorem stepM_ok {ls : List Bool} {ws : List Int} {f : Bool} {s : SpM} (hm : rightB ws ls = true) (hr : WRange ws) (h1 : rightS s = true) (h2 : SpR s) :
    rightB (stepM ls ws f s).1 ls = true ∧ WRange (stepM ls ws f s).1 ∧ rightS (stepM ls ws f s).2.2 = true ∧ SpR (stepM ls ws f s).2.2 ∧ (stepM ls ws f s).1.length = ws.length := by
  unfold stepM
  split
  · obtain ⟨hk, hn0, hn1⟩ := needS_rng s
    have hA := accM_rng hr ls f (needS s).k (needS s).a (needS s).o (needS s).n ⟨hn0, hn1⟩
    exact ⟨accM_right hm _ _ _ _ _, hA.1, takeS_right h1 _ _, takeS_rng h2 hA.2.1 hA.2.2 _, accM_length ..⟩
  · exact ⟨hm, hr, h1, h2, rfl⟩
theorem leaveS_ok {s : SpM} (h1 : rightS s = true) (h2 : SpR s) : rightS (leaveS s) = true ∧ SpR (leaveS s) := by
  unfold leaveS
  split
  · rename_i hp
    obtain ⟨ha, _⟩ := rightS_iff.1 h1
    exact ⟨rightS_iff.2 ⟨ha, .inr (.inr (.inr (.inr (.inl rfl))))⟩, ⟨h2.a0, h2.a1, (by decide : (-9223372036854775808 : Int) ≤ 4), (by decide : (4 : Int) ≤ 9223372036854775807), h2.t0, h2.t1⟩⟩
  · exact ⟨h1, h2⟩
theorem getD_mem {ss : List SpM} {i : Nat} (h : i < ss.length) : ss.getD i dS ∈ ss := by
  rw [List.getD_eq_getElem?_getD, List.getElem?_eq_getElem h]
  exact List.getElem_mem h
theorem PlOk.put {ls : List Bool} {P : PlM} (h : PlOk ls P) (i : Nat) {s : SpM} (h1 : rightS s = true) (h2 : SpR s) : PlOk ls ⟨P.ws, P.f, P.ss.set i s⟩ :=
  ⟨h.mem, h.rng, fun x hx => by
    rcases List.mem_or_eq_of_mem_set hx with hx | rfl
    · exact h.may x hx
    · exact h1, fun x hx => by
    rcases List.mem_or_eq_of_mem_set hx with hx | rfl
    · exact h.sr x hx
    · exact h2⟩
theorem PlOk.step {ls : List Bool} {P : PlM} (h : PlOk ls P) {i : Nat} (hi : i < P.ss.length) : PlOk ls (stepP ls P i) := by
  have hm := getD_mem hi
  obtain ⟨g1, g2, g3, g4, _⟩ := stepM_ok (f := P.f) h.mem h.rng (h.may _ hm) (h.sr _ hm)
  exact ⟨g1, g2, fun x hx => by
    rcases List.mem_or_eq_of_mem_set hx with hx | rfl
    · exact h.may x hx
    · exact g3, fun x hx => by
    rcases List.mem_or_eq_of_mem_set hx with hx | rfl
    · exact h.sr x hx
    · exact g4⟩
theorem PlOk.turn {ls : List Bool} {P : PlM} (h : PlOk ls P) {i : Nat} (hi : i < P.ss.length) : PlOk ls (turnP ls P i) := by
  have hm := getD_mem hi
  obtain ⟨g1, g2⟩ := leaveS_ok (h.may _ hm) (h.sr _ hm)
  exact (h.put i g1 g2).step (by simpa using hi)
theorem stepP_len (ls : List Bool) (P : PlM) (i : Nat) : (stepP ls P i).ss.length = P.ss.length := by simp [stepP]
theorem turnP_len (ls : List Bool) (P : PlM) (i : Nat) : (turnP ls P i).ss.length = P.ss.length := by simp [turnP, stepP]

/-- The cells of those who want locks. -/
def flatS : List SpM → List Value
  | [] => []
  | s :: r => .int .i64 s.a :: .int .i64 s.p :: .int .u64 s.t :: flatS r
theorem flatS_length : ∀ l : List SpM, (flatS l).length = l.length * 3
  | [] => rfl
  | s :: r => by simp only [flatS, List.length_cons, flatS_length r]; omega
theorem flatS_append : ∀ l m : List SpM, flatS (l ++ m) = flatS l ++ flatS m
  | [], _ => rfl
  | s :: r, m => by simp only [List.cons_append, flatS, flatS_append r m]
theorem flatS_get : ∀ (l : List SpM) (i : Nat) (h : i < l.length), (flatS l)[i * 3]? = some (.int .i64 l[i].a) ∧ (flatS l)[i * 3 + 1]? = some (.int .i64 l[i].p) ∧ (flatS l)[i * 3 + 2]? = some (.int .u64 l[i].t)
  | s :: r, 0, _ => ⟨rfl, rfl, rfl⟩
  | s :: r, i + 1, h => by
    have := flatS_get r i (by simpa using h)
    simp only [List.getElem_cons_succ, flatS, show (i + 1) * 3 = i * 3 + 1 + 1 + 1 by omega, show i * 3 + 1 + 1 + 1 + 1 = (i * 3 + 1) + 1 + 1 + 1 by omega, show i * 3 + 1 + 1 + 1 + 2 = (i * 3 + 2) + 1 + 1 + 1 by omega, List.getElem?_cons_succ]
    exact this
theorem flatS_set : ∀ (l : List SpM) (i : Nat) (s : SpM), (((flatS l).set (i * 3) (.int .i64 s.a)).set (i * 3 + 1) (.int .i64 s.p)).set (i * 3 + 2) (.int .u64 s.t) = flatS (l.set i s)
  | [], i, s => by simp [flatS]
  | x :: r, 0, s => rfl
  | x :: r, i + 1, s => by
    simp only [List.set_cons_succ, flatS, show (i + 1) * 3 = i * 3 + 1 + 1 + 1 by omega, show i * 3 + 1 + 1 + 1 + 1 = (i * 3 + 1) + 1 + 1 + 1 by omega, show i * 3 + 1 + 1 + 1 + 2 = (i * 3 + 2) + 1 + 1 + 1 by omega]
    rw [flatS_set r i s]
theorem flatS_one (l : List SpM) : ∀ u ∈ flatS l, u.oneCell' = true := by
  induction l with
  | nil => intro u h; cases h
  | cons s r ih =>
    intro u h
    simp only [flatS, List.mem_cons] at h
    rcases h with rfl | rfl | rfl | h
    · rfl
    · rfl
    · rfl
    · exact ih u h

/-- Block r is a play: a memory, and the places. -/
def PBox (w : World) (r : Nat) (x y : Value) (f : Bool) (l : Value) : Prop := w.heap[r]? = some (.cells #[x, y, .bool f, l] 90 (0, 0))
theorem PBox.lt {w : World} {r : Nat} {x y : Value} {f : Bool} {l : Value} (h : PBox w r x y f l) : r < w.heap.size := (Array.getElem?_eq_some_iff.1 h).1
theorem PBox.keeps {S : Nat → Prop} {w w' : World} {r : Nat} {x y : Value} {f : Bool} {l : Value} (h : PBox w r x y f l) (hk : Keeps S w w') (hr : ¬ S r) : PBox w' r x y f l := (hk.block r h.lt hr).trans h
theorem PBox.below {w w' : World} {r : Nat} {x y : Value} {f : Bool} {l : Value} (h : PBox w r x y f l) (hb : Below w.heap.size w w') : PBox w' r x y f l := (hb.block r h.lt).trans h
theorem PBox.cells {w : World} {r : Nat} {x y : Value} {f : Bool} {l : Value} (h : PBox w r x y f l) : w.cell? ⟨r, 0, none⟩ = some x ∧ w.cell? ⟨r, 1, none⟩ = some y ∧ w.cell? ⟨r, 2, none⟩ = some (.bool f) ∧ w.cell? ⟨r, 3, none⟩ = some l := by
  have h' : w.heap[r]? = _ := h
  simp [World.cell?, h']
theorem PBox.free {w : World} {r : Nat} {x y : Value} {f : Bool} {l : Value} (h : PBox w r x y f l) (i : Nat) : w.frozen? ⟨r, i, none⟩ = false := by
  have h' : w.heap[r]? = _ := h
  simp [World.frozen?, h']
theorem PBox.set {w : World} {r : Nat} {x y : Value} {f : Bool} {l : Value} (h : PBox w r x y f l) (x' y' : Value) (f' : Bool) : PBox (((w.setCell ⟨r, 0, none⟩ x').setCell ⟨r, 1, none⟩ y').setCell ⟨r, 2, none⟩ (.bool f')) r x' y' f' l := by
  unfold PBox
  rw [heap_setCell_same _ r 2 _ _ _ (heap_setCell_same _ r 1 _ _ _ (heap_setCell_same w r 0 _ _ _ h))]; rfl
/-- A play lies so: all of it in memory from block B on. -/
structure PlayIn (w : World) (B r g : Nat) (ls : List Bool) (P : PlM) (x y : Value) (n : Nat) : Prop where
  box : PBox w r x y P.f (.slice (some ⟨g, 0, none⟩) n n)
  words : w.ownsRow B 22 1 x P.ws.length (P.ws.map (Value.int .u64))
  lives : w.ownsRow B 4 1 y ls.length (ls.map Value.bool)
  places : w.ownsRow B 24 3 (.slice (some ⟨g, 0, none⟩) n n) n (flatS P.ss)
  len : P.ss.length = n
  lo : B ≤ r
def PlayAt (w : World) (B r g : Nat) (ls : List Bool) (P : PlM) (n : Nat) : Prop := ∃ x y, PlayIn w B r g ls P x y n
theorem PlayIn.keeps {S : Nat → Prop} {w w' : World} {B r g : Nat} {ls : List Bool} {P : PlM} {x y : Value} {n : Nat} (h : PlayIn w B r g ls P x y n) (hk : Keeps S w w') (hS : ∀ q, B ≤ q → q < w.heap.size → ¬ S q) : PlayIn w' B r g ls P x y n :=
  ⟨h.box.keeps hk (hS r h.lo h.box.lt), hk.row h.words (fun q hq => hS q (h.words.lt q hq).1 (h.words.lt q hq).2), hk.row h.lives (fun q hq => hS q (h.lives.lt q hq).1 (h.lives.lt q hq).2), hk.row h.places (fun q hq => hS q (h.places.lt q hq).1 (h.places.lt q hq).2), h.len, h.lo⟩
theorem PlayIn.below {w w' : World} {B r g : Nat} {ls : List Bool} {P : PlM} {x y : Value} {n : Nat} (h : PlayIn w B r g ls P x y n) (hb : Below w.heap.size w w') : PlayIn w' B r g ls P x y n :=
  h.keeps (S := fun _ => False) (Keeps.of_below hb) (fun _ _ _ h => h)
theorem PlayAt.below {w w' : World} {B r g : Nat} {ls : List Bool} {P : PlM} {n : Nat} (h : PlayAt w B r g ls P n) (hb : Below w.heap.size w w') : PlayAt w' B r g ls P n := by
  obtain ⟨x, y, h⟩ := h
  exact ⟨x, y, h.below hb⟩
theorem PlayIn.mem {w : World} {B r g : Nat} {ls : List Bool} {P : PlM} {x y : Value} {n : Nat} (h : PlayIn w B r g ls P x y n) : MemAt w (.agg #[x, y, .bool P.f]) P.ws ls P.f := ⟨_, _, rfl, nums_of_owns rfl h.words, bools_of_owns rfl h.lives⟩
theorem PlayIn.cell {w : World} {B r g : Nat} {ls : List Bool} {P : PlM} {x y : Value} {n : Nat} (h : PlayIn w B r g ls P x y n) {i : Nat} (hi : i < n) :
    (w.cell? ⟨g, i * 3, none⟩ = some (.int .i64 (P.ss.getD i dS).a) ∧ w.cell? ⟨g, i * 3 + 1, none⟩ = some (.int .i64 (P.ss.getD i dS).p) ∧ w.cell? ⟨g, i * 3 + 2, none⟩ = some (.int .u64 (P.ss.getD i dS).t)) ∧ (∀ j, w.frozen? ⟨g, j, none⟩ = false) ∧ g < w.heap.size := by
  have hl := h.len
  have hi' : i < P.ss.length := by omega
  have e : P.ss.getD i dS = P.ss[i] := by rw [List.getD_eq_getElem?_getD, List.getElem?_eq_getElem hi']; rfl
  rw [e]
  obtain ⟨f0, f1, f2⟩ := flatS_get P.ss i hi'
  exact ⟨⟨(h.places.cellAt _ (by omega)).trans f0, (h.places.cellAt _ (by omega)).trans f1, (h.places.cellAt _ (by omega)).trans f2⟩, fun j => h.places.frozenAt j, (h.places.lt g rfl).2⟩
theorem PlayIn.ne {w : World} {B r g : Nat} {ls : List Bool} {P : PlM} {x y : Value} {n : Nat} (h : PlayIn w B r g ls P x y n) : r ≠ g := by
  rintro rfl
  obtain ⟨c, f, h1⟩ := Lib.ownsRow_kind h.places _ rfl
  rw [show w.heap[r]? = _ from h.box] at h1
  simp at h1
/-- One of the places is another one. -/
theorem PlayIn.put {w w' : World} {B r g : Nat} {ls : List Bool} {P : PlM} {x y : Value} {n i : Nat} (h : PlayIn w B r g ls P x y n) (s : SpM) (hw : w' = ((w.setCell ⟨g, i * 3, none⟩ (.int .i64 s.a)).setCell ⟨g, i * 3 + 1, none⟩ (.int .i64 s.p)).setCell ⟨g, i * 3 + 2, none⟩ (.int .u64 s.t)) :
    PlayIn w' B r g ls ⟨P.ws, P.f, P.ss.set i s⟩ x y n ∧ Keeps (fun q => q = g) w w' := by
  have k0 : ∀ (X : World) (i : Nat) (v : Value), Keeps (fun q => q = g) X (X.setCell ⟨g, i, none⟩ v) := fun X i v => Keeps.setCell X (S := fun q => q = g) (p := ⟨g, i, none⟩) rfl v
  have hk : Keeps (fun q => q = g) w w' := by rw [hw]; exact ((k0 _ _ _).trans (k0 _ _ _)).trans (k0 _ _ _)
  have hs : w'.ownsRow B 24 3 (.slice (some ⟨g, 0, none⟩) n n) n (flatS (P.ss.set i s)) := by
    rw [hw, ← flatS_set]
    exact (((h.places.stored _ _).1.stored _ _).1.stored _ _).1
  refine ⟨⟨h.box.keeps hk h.ne, hk.row h.words (fun q hq e => ?_), hk.row h.lives (fun q hq e => ?_), hs, by rw [List.length_set]; exact h.len, h.lo⟩, hk⟩
  · exact owns_ne h.words h.places (by decide) hq rfl e
  · exact owns_ne h.lives h.places (by decide) hq rfl e

end Go.Proofs.Ytcledklajcdfiaa
