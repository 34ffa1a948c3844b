/-
  Package reader: which readers may be.
  Conditions: the ranges of Go's types.
-/
import Derived.Test.YtdllhiihmpinoaaGreatRows
import Derived.ProofKit
import Derived.OpenShut
import Derived.RangeFuncNested
import Derived.RangeFuncBound
import Derived.RangeFuncCalls
import Derived.RangeFuncLeaves
import Derived.Scope
import Derived.WalkKit
import Derived.Test.YtdllhiihmpinoaaGreatProg
import Derived.Shelf.Abstract
import Derived.OwnWalk
import Derived.WalkSpells
import Derived.Laws.OwnMore
import Derived.Deep.Onto
import Derived.Lib.OwnKind
import Derived.Lib.Hide
import Derived.RangeFuncBox
import Derived.Deep.QuietTactic
import Derived.BigQuiet
import Derived.Shelf.RegionOpen
import Derived.OwnWalkIn
import Derived.TacticsInMore
import Derived.LoopNIn
import Derived.LoopIn
import Derived.Deep.RegionHeld
import Derived.Deep.RegionHeld3
import Derived.OneCell
import Derived.Maps.OwnSet
import Derived.Maps.OwnIn
import Derived.Maps.OwnOps
/-
  From a walk to a row: where a law returned true and what was in memory stays, the row's word holds; for any number of arguments.
  Conditions: the arguments' types can be read whole.
-/
namespace Go.Proofs.YtdllhiihmpinoaaGreat
open Go.ChangeShapes Go.WideShapes Go.ChangeAt Go.RowKit

theorem own : ownKnob Tryz.prog.godebug = none := by kernel_rfl
theorem laidOut : laidOutB Tryz.prog = true := by kernel_rfl

theorem trodAll_stays {H : Type} {enc : TypeId × Value → H} {P : Program} (hl : laidOutB P = true) {W W' : World} (hb : Below W.heap.size W W') : ∀ {ts : List TypeId} {vs : List Value} {ds : List (DataW H)} {ps : List MemPlace},
    (ts.all fun t => P.readableRec t && decide (t < P.types.size)) = true → DataW.TrodAll enc P W 0 (fun _ => true) true ts vs ds ps → (∀ x ∈ ps, x.block < W.heap.size) → DataW.TrodAll enc P W' 0 (fun b => decide (b < W.heap.size)) true ts vs ds ps
  | [], [], [], _, _, h, _ => h
  | t :: ts, v :: vs, d :: ds, _, hr, ⟨p, q, h, hs, e⟩, hlt => by
    subst e
    simp only [List.all_cons, Bool.and_eq_true, decide_eq_true_eq] at hr
    exact ⟨p, q, Below.trod hl hr.1.1 hr.1.2 h hb (fun x hx => hlt x (List.mem_append_left _ hx)), trodAll_stays hl hb hr.2 hs (fun x hx => hlt x (List.mem_append_right _ hx)), rfl⟩

end Go.Proofs.YtdllhiihmpinoaaGreat
/-
  A range over a function value that has bound arguments ahead of yield (a method value) runs as one whose iterator has none: the law of a loop over such a value, for an outermost loop.
  Conditions: the loop stands in no round of another one; the iterator keeps the contract 'SeqBound' below.
-/
namespace Go.Proofs.YtdllhiihmpinoaaGreat
open Go.RowKit

/-- The iterator's contract, for a value with bound arguments bd and captured ones lb: it is called at bd, yield, lb. -/
def SeqBound {α : Type} (F : Fence) (n : Nat) (P : Program) (g : Nat) (bd lb : Array Value) (encs : α → Array Value) (Kp : World → World → Prop) (S Sp : List α → Prop) (N : Nat) (w : World) : Prop :=
  ∀ (l : Nat) (J Jx : List α → World → Prop) (W : World), Below w.heap.size w W → AbidesFrom W.heap.size J → AbidesFrom W.heap.size Jx →
    (∀ pre x W1, J pre W1 → pre.length < N → YieldAt F (n - 1) P l (encs x) W1 fun e W' =>
      (e = .returned (.bool true) ∧ J (pre ++ [x]) W' ∧ Kp W1 W') ∨ (e = .returned (.bool false) ∧ Jx (pre ++ [x]) W')) →
    J [] W →
    CallsIn F n P g (bd ++ #[.func (.yield l) #[] #[]] ++ lb) W fun e W' => (∃ v, e = .returned v) ∧ ((∃ xs, S xs ∧ J xs W') ∨ (∃ pre, Sp pre ∧ Jx pre W'))

/-- The two blocks that an outermost loop lays where a heap of z blocks ends: the one for the rounds' deferred calls, and behind it the loop's record. -/
def Books (z : Nat) (r : Loop) (W : World) : Prop := W.heap[z + 1]? = some (.loop r) ∧ W.heap[z]? = some (.deferred (some []))

theorem Books.lt {z : Nat} {r : Loop} {W : World} (h : Books z r W) : z + 1 < W.heap.size := (Array.getElem?_eq_some_iff.1 h.1).1
theorem Books.from {z : Nat} {r : Loop} {W W' : World} (h : Books z r W) (hk : KeepsFrom z W W') : Books z r W' :=
  ⟨hk.same _ _ (by omega) h.1 rfl, hk.same _ _ (Nat.le_refl _) h.2 rfl⟩
theorem Books.turn {z : Nat} {r r' : Loop} {W : World} (h : Books z r W) : Books z r' (W.putObj (z + 1) (.loop r')) :=
  ⟨World.putObj_heap_same h.lt, (World.putObj_heap_other (by omega)).trans h.2⟩

/-- THE LAW. I: what holds between two rounds; Ix: what holds where a round has left by a jump; Ax: what holds behind the assignment to the loop's variables. -/
theorem wpIn_rangeBound {α : Type} {F : Fence} {n : Nat} {P : Program} {w : World} {g : Operand} {ps : Array Tmp} {assign body : Code} {Q : Exit → Act → World → Prop} {a : Act}
    (hro : F.round = none) (h1 : 1 ≤ n) {gf : Nat} {bd lb : Array Value} (hg : a.eval g = .func (.func gf) bd lb) (hFg : F.fn gf) (eg : ∀ args w, (callFunc gf args).run P w = .ok (.enter gf args) w)
    {encs : α → Array Value} {Kp : World → World → Prop} {S Sp : List α → Prop} {N : Nat} {w0 : World} (hseq : SeqBound F (n - 1) P gf bd lb encs Kp S Sp N w0)
    (hKt : ∀ {A B C : World}, Kp A B → Kp B C → Kp A C) (hKb : ∀ (W : World) (l : Nat) (o o' : Obj), w.heap.size ≤ l → W.heap[l]? = some o → o.isCells = false → o.isWalk = false → Kp W (W.putObj l o')) (hb0 : Below w0.heap.size w0 w) (hps : ∀ x, (encs x).size = ps.size)
    (I : List α → World → Prop) (Ix : Code → List α → World → Prop) (hI : OwnFrom w.heap.size I) (hIx : ∀ c, OwnFrom w.heap.size (Ix c)) (h0 : I [] w) (Ax : α → Act → World → Prop) (hAx : ∀ x a', OwnFrom w.heap.size (fun (_ : Unit) W => Ax x a' W))
    (hassign : ∀ (l : Nat) (pre : List α) (x : α) (W : World) (K : Act → World → Prop), I pre W → (∀ a' W', KeepsFrom w.heap.size W W' → Kp W W' → I pre W' → Ax x a' W' → K a' W') →
      assign.wpIn (F.inRound l) (n - 1 - 1) P (Exit.then K (fun _ _ _ => False)) { tmps := (ps.zip (encs x)).foldl (fun t (p, v) => t.setIfInBounds p v) a.tmps, defers := [] } W)
    (hbody : ∀ (l : Nat) (pre : List α) (x : α) (a' : Act) (W : World), w.heap.size ≤ l → (∃ r, W.heap[l]? = some (.loop r)) → I pre W → Ax x a' W → pre.length < N → body.wpIn (F.inRound l) (n - 1 - 1) P (ownPostG w.heap.size Kp I Ix (pre ++ [x]) W) a' W)
    (hdone : ∀ (D : Nat) (xs : List α) (W : World), w.heap.size ≤ D → S xs → I xs W → W.heap[D]? = some (.deferred (some [])) → Q .normal { a with defers := { target := .collected D, args := #[] } :: a.defers } W)
    (hstop : ∀ (D : Nat) (c : Code) (pre : List α) (W : World), w.heap.size ≤ D → Sp pre → Ix c pre W → W.heap[D]? = some (.deferred (some [])) → c.wpIn F n P Q { a with defers := { target := .collected D, args := #[] } :: a.defers } W) :
    (Code.rangeFunc g ps assign body).wpIn F n P Q a w := by
  refine wpIn_rangeFunc fun fn hfn => ?_
  rw [hro]
  generalize hz : w.heap.size = z at *
  obtain ⟨rec, hrec⟩ : ∃ rec : LoopState → Option Code → Loop, ∀ st pe, rec st pe = { state := st, pending := pe, fn, tmps := a.tmps, params := ps, assign, body, defers := z } := ⟨fun st pe => _, fun _ _ => rfl⟩
  obtain ⟨W1, hW1⟩ : ∃ W1, W1 = (w.alloc (.deferred (some []))).alloc (.loop (rec .ready none)) := ⟨_, rfl⟩
  have hz1 : W1.heap.size = z + 2 := by rw [hW1]; simp [hz]
  have hB1 : Books z (rec .ready none) W1 := by
    rw [hW1]
    constructor
    · have := World.alloc_heap_new (w.alloc (.deferred (some []))) (.loop (rec .ready none))
      rwa [World.size_alloc, hz] at this
    · rw [← hz]; exact (Below.heap_alloc _ _ _ (by simp)).trans (World.alloc_heap_new w _)
  have hI1 : I [] W1 := by rw [hW1]; exact hI.alloc _ (hI.alloc _ h0)
  have hb1 : Below w0.heap.size w0 W1 := by
    rw [hW1]; exact hb0.trans ((((Below.refl _ w).alloc (Nat.le_refl _) _).alloc (by simp) _).mono hb0.size)
  have hwalk : ∀ {A : World} {row : Option Nat}, (∀ r, row = some r → W1.heap.size ≤ r ∧ ∃ o : Obj, A.heap[r]? = some o ∧ o.isWalk = true) → ∀ r, row = some r → z ≤ r ∧ ∃ o : Obj, A.heap[r]? = some o ∧ o.isCells = false :=
    fun hr r e => by obtain ⟨hB, o, ho, hw⟩ := hr r e; exact ⟨by omega, o, ho, Obj.not_cells_of_walk hw⟩
  have hbooks : ∀ {st : LoopState} {pe : Option Code} {A B : World} {row : Option Nat}, Books z (rec st pe) A → A.grownBy B row → (∀ r, row = some r → W1.heap.size ≤ r ∧ ∃ o : Obj, A.heap[r]? = some o ∧ o.isWalk = true) → Books z (rec st pe) B :=
    fun hs hg' hr => ⟨(grownBy_keeps hg' (fun r e => (hr r e).2) hs.1 rfl).trans hs.1, (grownBy_keeps hg' (fun r e => (hr r e).2) hs.2 rfl).trans hs.2⟩
  refine ⟨z + 1, [{ target := .collected z, args := #[] }], W1, { target := .fn (.func gf) lb, args := bd ++ #[.func (.yield (z + 1)) #[] #[]] }, W1, gf, bd ++ #[.func (.yield (z + 1)) #[] #[]] ++ lb, W1, ?_, ?_, ?_, ?_, fun _ => h1, ?_⟩
  · have := run_enterLoop_outer (P := P) (w := w) fn a.tmps ps assign body
    rw [hW1, hrec, ← hz]; exact this
  · simp only [resolve, hg]
    simp [go_sem]
  · intro f' hf'; simp [Target.leads] at hf'; subst hf'; exact hFg
  · simp only [invoke, eg]
  · refine (hseq (z + 1) (fun pre W => I pre W ∧ Books z (rec .ready none) W) (fun pre W => ∃ c, Ix c pre W ∧ Books z (rec .done (some c)) W) W1 hb1
      (fun s A B row hs hg' hr => ⟨hI s A B row hs.1 hg' (hwalk hr), hbooks hs.2 hg' hr⟩)
      (fun s A B row hs hg' hr => by
        obtain ⟨c, hc, hb⟩ := hs
        exact ⟨c, hIx c s A B row hc hg' (hwalk hr), hbooks hb hg' hr⟩)
      ?_ ⟨hI1, hB1⟩).mono ?_
    · rintro pre x W ⟨hi, hb⟩ hlen
      have hy := run_yield (P := P) (args := encs x) hb.1 (by rw [hrec]; exact hps x)
      rw [hrec] at hy
      refine ⟨fn, _, assign, body, hy, roundIn_of_wpIn hfn (hassign _ pre x W _ hi ?_)⟩
      clear hy
      intro a' Wa hkfa hkpa hia hax
      have hba := hb.from hkfa
      refine ⟨_, run_beginRound hba.1 (by rw [hrec]), ?_⟩
      have hb2 : Books z (rec .busy none) (Wa.putObj (z + 1) (.loop (rec .busy none))) := hba.turn
      have hw2 : Kp Wa (Wa.putObj (z + 1) (.loop (rec .busy none))) := hKb _ _ _ _ (by omega) hba.1 rfl rfl
      have hsame : ({ rec .ready none with state := .busy } : Loop) = rec .busy none := by rw [hrec, hrec]
      rw [hsame]
      refine wpIn_mono (hbody _ pre x a' _ (by omega) ⟨_, hb2.1⟩ (hI.putObj _ hia (by omega) hba.1 rfl) ((hAx x a').putObj (s := ()) _ hax (by omega) hba.1 rfl) hlen) ?_
      have fin : ∀ (jump : Option Code) (W3 : World), KeepsFrom z (Wa.putObj (z + 1) (.loop (rec .busy none))) W3 →
          (Instr.endRound (z + 1) jump).run P W3 = .ok (.bool jump.isNone) (W3.putObj (z + 1) (.loop (rec (if jump.isNone then .ready else .done) jump))) ∧
          Books z (rec .busy none) W3 ∧ Books z (rec (if jump.isNone then .ready else .done) jump) (W3.putObj (z + 1) (.loop (rec (if jump.isNone then .ready else .done) jump))) := fun jump W3 hk3 => by
        have hb3 := hb2.from hk3
        have := run_endRound (P := P) jump hb3.1
        rw [hrec] at this
        rw [hrec]
        exact ⟨this, hb3, by rw [← hrec]; exact hb3.turn⟩
      rintro e a3 W3 hp
      cases e with
      | normal =>
        obtain ⟨hk3, hkp3, hi3⟩ := hp
        obtain ⟨hr, hb3, hb4⟩ := fin none W3 hk3
        exact ⟨_, _, hr, .inl ⟨rfl, ⟨hI.putObj _ hi3 (by omega) hb3.1 rfl, hb4⟩, hKt hkpa (hKt (hKt hw2 hkp3) (hKb _ _ _ _ (by omega) hb3.1 rfl rfl))⟩⟩
      | ret =>
        obtain ⟨hk3, hi3⟩ := hp
        obtain ⟨hr, hb3, hb4⟩ := fin (some .ret) W3 hk3
        exact ⟨_, _, hr, .inr ⟨rfl, .ret, (hIx _).putObj _ hi3 (by omega) hb3.1 rfl, hb4⟩⟩
      | exit id =>
        obtain ⟨hk3, hi3⟩ := hp
        obtain ⟨hr, hb3, hb4⟩ := fin (some (.exit id)) W3 hk3
        exact ⟨_, _, hr, .inr ⟨rfl, .exit id, (hIx _).putObj _ hi3 (by omega) hb3.1 rfl, hb4⟩⟩
      | goto t =>
        obtain ⟨hk3, hi3⟩ := hp
        obtain ⟨hr, hb3, hb4⟩ := fin (some (.goto t)) W3 hk3
        exact ⟨_, _, hr, .inr ⟨rfl, .goto t, (hIx _).putObj _ hi3 (by omega) hb3.1 rfl, hb4⟩⟩
      | panic ch => exact hp.elim
      | outgrown => exact hp.elim
    · rintro e W2 ⟨⟨v, rfl⟩, (⟨xs, hS, hi, hb⟩ | ⟨pre, hSp, c, hi, hb⟩)⟩
      · refine ⟨none, _, by have := run_endLoop (P := P) hb.1 (by rw [hrec]; simp); rw [hrec] at this; exact this, ?_⟩
        exact hdone _ xs _ (by omega) hS (hI.putObj _ hi (by omega) hb.1 rfl) ((World.putObj_heap_other (by omega)).trans hb.2)
      · refine ⟨some c, _, by have := run_endLoop (P := P) hb.1 (by rw [hrec]; simp); rw [hrec] at this; exact this, ?_⟩
        exact hstop _ c pre _ (by omega) hSp ((hIx c).putObj _ hi (by omega) hb.1 rfl) ((World.putObj_heap_other (by omega)).trans hb.2)

/-- A scope through which the run goes without a goto, under a fence. -/
theorem wpIn_scope {F : Fence} {n : Nat} {P : Program} {c : Code} {Q : Exit → Act → World → Prop} {a : Act} {w : World} (h : c.wpIn F n P (Exit.noGoto Q) a w) : (Code.scope c).wpIn F n P Q a w := by
  intro b k cs hro hb hr
  have h0 : (lone (b.atR a (.code (.scope c) :: k)) cs w).fenced P F := fenced_calm hb hr rfl
  have s0 : step P (lone (b.atR a (.code (.scope c) :: k)) cs w) = .next (lone (b.atR a (.code c :: .inScope c :: k)) cs w) := step_lone_go (by simp [stepG, stepG.exec, Frame.atR])
  obtain ⟨e, a₁, w₁, hq, harr⟩ := h b (.inScope c :: k) cs hro hb hr
  cases e with
  | normal => exact ⟨.normal, a₁, w₁, hq, .head h0 s0 (StepsIn.trans harr (.one (fenced_calm hb hr rfl) (step_lone_go (by simp [stepG, stepG.exec, Frame.atR]))))⟩
  | exit id =>
    have hx : exitTo id (.inScope c :: k) = exitTo id k := by simp [exitTo]
    exact ⟨.exit id, a₁, w₁, hq, fun k' hk => .head h0 s0 (harr.1 k' (by rw [hx]; exact hk)),
      fun hr' hk => let ⟨k₁, h1, h2⟩ := harr.2 hr' (by rw [hx]; exact hk); ⟨k₁, h1, .head h0 s0 h2⟩⟩
  | goto l => exact hq.elim
  | ret => exact ⟨_, a₁, w₁, hq, .of_steps (.one h0 s0) harr⟩
  | panic ch => exact ⟨_, a₁, w₁, hq, .of_steps (.one h0 s0) harr⟩
  | outgrown => exact ⟨_, a₁, w₁, hq, .of_steps (.one h0 s0) harr⟩

/-- The marks that loops over functions have left among the deferred calls: the block of each, from B on, hands over nothing. -/
def Marks (B : Nat) (Ds : List Nat) (W : World) : Prop := Ds.Nodup ∧ ∀ D ∈ Ds, B ≤ D ∧ W.heap[D]? = some (.deferred (some []))
theorem Marks.nil (B : Nat) (W : World) : Marks B [] W := ⟨List.nodup_nil, fun _ h => by cases h⟩
theorem Marks.keeps {B : Nat} {Ds : List Nat} {W W' : World} (h : Marks B Ds W) (hk : KeepsOthers W W') : Marks B Ds W' := ⟨h.1, fun D hD => ⟨(h.2 D hD).1, hk.same _ _ (h.2 D hD).2 rfl⟩⟩
theorem Marks.below {B : Nat} {Ds : List Nat} {W W' : World} (h : Marks B Ds W) (hk : Below W.heap.size W W') : Marks B Ds W' :=
  ⟨h.1, fun D hD => ⟨(h.2 D hD).1, (hk.block D (Array.getElem?_eq_some_iff.1 (h.2 D hD).2).1).trans (h.2 D hD).2⟩⟩
theorem Marks.lt {B : Nat} {Ds : List Nat} {W : World} (h : Marks B Ds W) {D : Nat} (hD : D ∈ Ds) : D < W.heap.size := (Array.getElem?_eq_some_iff.1 (h.2 D hD).2).1
theorem Marks.cons {B : Nat} {Ds : List Nat} {W : World} (h : Marks B Ds W) {D : Nat} (hB : B ≤ D) (hne : D ∉ Ds) (hK : W.heap[D]? = some (.deferred (some []))) : Marks B (D :: Ds) W :=
  ⟨List.nodup_cons.2 ⟨hne, h.1⟩, fun E hE => by
    rcases List.mem_cons.1 hE with e | e
    · subst e; exact ⟨hB, hK⟩
    · exact h.2 E e⟩
/-- The marks abide a turn of a loop's own books, where the loop began behind them. -/
theorem marks_own {β : Type} {B z : Nat} {Ds : List Nat} (hz : ∀ D ∈ Ds, D < z) : OwnFrom z (fun (_ : β) W => Marks B Ds W) := fun _ _ _ row hs hg hr =>
  ⟨hs.1, fun D hD => ⟨(hs.2 D hD).1, (hg.block D (hs.lt hD) (fun e => by have := (hr D e.symm).1; have := hz D hD; omega)).trans (hs.2 D hD).2⟩⟩

def marksOf (Ds : List Nat) : List Deferred := Ds.map fun D => { target := .collected D, args := #[] }

/-- A function that has left such marks returns as one that has left none, but that their blocks are shut. -/
theorem leaves_marks {F : Fence} {n : Nat} {P : Program} {fn : Func} {tmps : Array Value} {R : Ending → World → Prop} {B : Nat} : ∀ (Ds : List Nat) (W : World), Marks B Ds W →
    (∀ W', Below B W W' → LeavesIn F n P fn tmps R [] .returning W') → LeavesInM F n P fn tmps R (marksOf Ds) .returning W
  | [], W, _, h => h W (Below.refl _ _)
  | D :: Ds, W, hm, h => by
    obtain ⟨hB, hK⟩ := hm.2 D List.mem_cons_self
    have hlt := hm.lt (D := D) List.mem_cons_self
    have hb : Below B W (W.putObj D (.deferred none)) := (Below.refl B W).grown (grownBy_putObj' W D _) (by omega) (fun k e => by cases e; exact hB)
    refine ⟨by simp, .inl ⟨D, _, rfl, run_takeDeferred hK, leaves_marks Ds _ ⟨(List.nodup_cons.1 hm.1).2, fun E hE => ?_⟩ fun W' hW' => h W' (hb.trans hW')⟩⟩
    have hne : E ≠ D := fun e => (List.nodup_cons.1 hm.1).1 (e ▸ hE)
    obtain ⟨h1, h2⟩ := hm.2 E (List.mem_cons_of_mem _ hE)
    exact ⟨h1, (World.putObj_heap_other hne).trans h2⟩

end Go.Proofs.YtdllhiihmpinoaaGreat
/-
  A range over an iterator that itself ranges over one: the iterator's contract, and the law of an outermost loop over it.
  Conditions: the loop stands in no round of another one; the iterator keeps the contract 'SeqDeep' below.
-/
namespace Go.Proofs.YtdllhiihmpinoaaGreat
open Go.RowKit

/-- The iterator's contract: what the caller says between rounds abides turns of records of loops that began behind the call; a round keeps such records. -/
def SeqDeep {α : Type} (F : Fence) (n : Nat) (P : Program) (g : Nat) (lb : Array Value) (encs : α → Array Value) (Kp : World → World → Prop) (S Sp : List α → Prop) (N : Nat) (w : World) : Prop :=
  ∀ (l : Nat) (J Jx : List α → World → Prop) (W : World), Below w.heap.size w W → OwnFrom W.heap.size J → OwnFrom W.heap.size Jx →
    (∀ pre x W1, J pre W1 → pre.length < N → Sp (pre ++ [x]) → YieldAt F (n - 1) P l (encs x) W1 fun e W' =>
      (e = .returned (.bool true) ∧ J (pre ++ [x]) W' ∧ Kp W1 W' ∧ KeepsFrom W.heap.size W1 W') ∨ (e = .returned (.bool false) ∧ Jx (pre ++ [x]) W' ∧ KeepsFrom W.heap.size W1 W')) →
    J [] W →
    CallsIn F n P g (#[.func (.yield l) #[] #[]] ++ lb) W fun e W' => (∃ v, e = .returned v) ∧ ((∃ xs, S xs ∧ J xs W') ∨ (∃ pre, Sp pre ∧ Jx pre W'))

/-- THE LAW. I: what holds between two rounds; Ix: what holds where a round has left by a jump; Ax: what holds behind the assignment to the loop's variables. -/
theorem wpIn_rangeDeep {α : Type} {F : Fence} {n : Nat} {P : Program} {w : World} {g : Operand} {ps : Array Tmp} {assign body : Code} {Q : Exit → Act → World → Prop} {a : Act}
    (hro : F.round = none) (h1 : 1 ≤ n) {gf : Nat} {lb : Array Value} (hg : a.eval g = .func (.func gf) #[] lb) (hFg : F.fn gf) (eg : ∀ args w, (callFunc gf args).run P w = .ok (.enter gf args) w)
    {encs : α → Array Value} {Kp : World → World → Prop} {S Sp : List α → Prop} {N : Nat} {w0 : World} (hseq : SeqDeep F (n - 1) P gf lb encs Kp S Sp N w0)
    (hKt : ∀ {A B C : World}, Kp A B → Kp B C → Kp A C) (hKb : ∀ (W : World) (l : Nat) (o o' : Obj), w.heap.size ≤ l → W.heap[l]? = some o → o.isCells = false → o.isWalk = false → Kp W (W.putObj l o')) (hb0 : Below w0.heap.size w0 w) (hps : ∀ x, (encs x).size = ps.size)
    (I : List α → World → Prop) (Ix : Code → List α → World → Prop) (hI : OwnFrom w.heap.size I) (hIx : ∀ c, OwnFrom w.heap.size (Ix c)) (h0 : I [] w) (Ax : α → Act → World → Prop) (hAx : ∀ x a', OwnFrom w.heap.size (fun (_ : Unit) W => Ax x a' W))
    (hassign : ∀ (l : Nat) (pre : List α) (x : α) (W : World) (K : Act → World → Prop), I pre W → (∀ a' W', KeepsFrom w.heap.size W W' → Kp W W' → I pre W' → Ax x a' W' → K a' W') →
      assign.wpIn (F.inRound l) (n - 1 - 1) P (Exit.then K (fun _ _ _ => False)) { tmps := (ps.zip (encs x)).foldl (fun t (p, v) => t.setIfInBounds p v) a.tmps, defers := [] } W)
    (hbody : ∀ (l : Nat) (pre : List α) (x : α) (a' : Act) (W : World), w.heap.size ≤ l → (∃ r, W.heap[l]? = some (.loop r)) → I pre W → Ax x a' W → pre.length < N → Sp (pre ++ [x]) → body.wpIn (F.inRound l) (n - 1 - 1) P (ownPostG w.heap.size Kp I Ix (pre ++ [x]) W) a' W)
    (hdone : ∀ (D : Nat) (xs : List α) (W : World), w.heap.size ≤ D → S xs → I xs W → W.heap[D]? = some (.deferred (some [])) → Q .normal { a with defers := { target := .collected D, args := #[] } :: a.defers } W)
    (hstop : ∀ (D : Nat) (c : Code) (pre : List α) (W : World), w.heap.size ≤ D → Sp pre → Ix c pre W → W.heap[D]? = some (.deferred (some [])) → c.wpIn F n P Q { a with defers := { target := .collected D, args := #[] } :: a.defers } W) :
    (Code.rangeFunc g ps assign body).wpIn F n P Q a w := by
  refine wpIn_rangeFunc fun fn hfn => ?_
  rw [hro]
  generalize hz : w.heap.size = z at *
  obtain ⟨rec, hrec⟩ : ∃ rec : LoopState → Option Code → Loop, ∀ st pe, rec st pe = { state := st, pending := pe, fn, tmps := a.tmps, params := ps, assign, body, defers := z } := ⟨fun st pe => _, fun _ _ => rfl⟩
  obtain ⟨W1, hW1⟩ : ∃ W1, W1 = (w.alloc (.deferred (some []))).alloc (.loop (rec .ready none)) := ⟨_, rfl⟩
  have hz1 : W1.heap.size = z + 2 := by rw [hW1]; simp [hz]
  have hB1 : Books z (rec .ready none) W1 := by
    rw [hW1]
    constructor
    · have := World.alloc_heap_new (w.alloc (.deferred (some []))) (.loop (rec .ready none))
      rwa [World.size_alloc, hz] at this
    · rw [← hz]; exact (Below.heap_alloc _ _ _ (by simp)).trans (World.alloc_heap_new w _)
  have hI1 : I [] W1 := by rw [hW1]; exact hI.alloc _ (hI.alloc _ h0)
  have hb1 : Below w0.heap.size w0 W1 := by
    rw [hW1]; exact hb0.trans ((((Below.refl _ w).alloc (Nat.le_refl _) _).alloc (by simp) _).mono hb0.size)
  have hup : ∀ {A : World} {row : Option Nat}, (∀ r, row = some r → W1.heap.size ≤ r ∧ ∃ o : Obj, A.heap[r]? = some o ∧ o.isCells = false) → ∀ r, row = some r → z ≤ r ∧ ∃ o : Obj, A.heap[r]? = some o ∧ o.isCells = false :=
    fun hr r e => ⟨by have := (hr r e).1; omega, (hr r e).2⟩
  have hbooks : ∀ {st : LoopState} {pe : Option Code} {A B : World} {row : Option Nat}, Books z (rec st pe) A → A.grownBy B row → (∀ r, row = some r → W1.heap.size ≤ r ∧ ∃ o : Obj, A.heap[r]? = some o ∧ o.isCells = false) → Books z (rec st pe) B :=
    fun hs hg' hr => ⟨(hg'.block (z + 1) hs.lt (fun e => by have := (hr _ e.symm).1; omega)).trans hs.1, (hg'.block z (by have := hs.lt; omega) (fun e => by have := (hr _ e.symm).1; omega)).trans hs.2⟩
  have hkf : ∀ {A B : World}, KeepsFrom z A B → KeepsFrom W1.heap.size A B := fun h => ⟨h.size, fun k o hk => h.same k o (by omega)⟩
  have hkp : ∀ (A : World) (o : Obj), KeepsFrom W1.heap.size A (A.putObj (z + 1) o) := fun A o => ⟨by simp, fun k o' hk h _ => (World.putObj_heap_other (by omega)).trans h⟩
  refine ⟨z + 1, [{ target := .collected z, args := #[] }], W1, { target := .fn (.func gf) lb, args := #[.func (.yield (z + 1)) #[] #[]] }, W1, gf, #[.func (.yield (z + 1)) #[] #[]] ++ lb, W1, ?_, ?_, ?_, ?_, fun _ => h1, ?_⟩
  · have := run_enterLoop_outer (P := P) (w := w) fn a.tmps ps assign body
    rw [hW1, hrec, ← hz]; exact this
  · simp only [resolve, hg]
    simp [go_sem]
  · intro f' hf'; simp [Target.leads] at hf'; subst hf'; exact hFg
  · simp only [invoke, eg]
  · refine (hseq (z + 1) (fun pre W => I pre W ∧ Books z (rec .ready none) W) (fun pre W => ∃ c, Ix c pre W ∧ Books z (rec .done (some c)) W) W1 hb1
      (fun s A B row hs hg' hr => ⟨hI s A B row hs.1 hg' (hup hr), hbooks hs.2 hg' hr⟩)
      (fun s A B row hs hg' hr => by
        obtain ⟨c, hc, hb⟩ := hs
        exact ⟨c, hIx c s A B row hc hg' (hup hr), hbooks hb hg' hr⟩)
      ?_ ⟨hI1, hB1⟩).mono ?_
    · rintro pre x W ⟨hi, hb⟩ hlen hsp
      have hy := run_yield (P := P) (args := encs x) hb.1 (by rw [hrec]; exact hps x)
      rw [hrec] at hy
      refine ⟨fn, _, assign, body, hy, roundIn_of_wpIn hfn (hassign _ pre x W _ hi ?_)⟩
      clear hy
      intro a' Wa hkfa hkpa hia hax
      have hba := hb.from hkfa
      refine ⟨_, run_beginRound hba.1 (by rw [hrec]), ?_⟩
      have hb2 : Books z (rec .busy none) (Wa.putObj (z + 1) (.loop (rec .busy none))) := hba.turn
      have hw2 : Kp Wa (Wa.putObj (z + 1) (.loop (rec .busy none))) := hKb _ _ _ _ (by omega) hba.1 rfl rfl
      have hsame : ({ rec .ready none with state := .busy } : Loop) = rec .busy none := by rw [hrec, hrec]
      rw [hsame]
      refine wpIn_mono (hbody _ pre x a' _ (by omega) ⟨_, hb2.1⟩ (hI.putObj _ hia (by omega) hba.1 rfl) ((hAx x a').putObj (s := ()) _ hax (by omega) hba.1 rfl) hlen hsp) ?_
      have fin : ∀ (jump : Option Code) (W3 : World), KeepsFrom z (Wa.putObj (z + 1) (.loop (rec .busy none))) W3 →
          (Instr.endRound (z + 1) jump).run P W3 = .ok (.bool jump.isNone) (W3.putObj (z + 1) (.loop (rec (if jump.isNone then .ready else .done) jump))) ∧
          Books z (rec .busy none) W3 ∧ Books z (rec (if jump.isNone then .ready else .done) jump) (W3.putObj (z + 1) (.loop (rec (if jump.isNone then .ready else .done) jump))) := fun jump W3 hk3 => by
        have hb3 := hb2.from hk3
        have := run_endRound (P := P) jump hb3.1
        rw [hrec] at this
        rw [hrec]
        exact ⟨this, hb3, by rw [← hrec]; exact hb3.turn⟩
      rintro e a3 W3 hp
      cases e with
      | normal =>
        obtain ⟨hk3, hkp3, hi3⟩ := hp
        obtain ⟨hr, hb3, hb4⟩ := fin none W3 hk3
        exact ⟨_, _, hr, .inl ⟨rfl, ⟨hI.putObj _ hi3 (by omega) hb3.1 rfl, hb4⟩, hKt hkpa (hKt (hKt hw2 hkp3) (hKb _ _ _ _ (by omega) hb3.1 rfl rfl)), (hkf hkfa).trans ((hkp _ _).trans ((hkf hk3).trans (hkp _ _)))⟩⟩
      | ret =>
        obtain ⟨hk3, hi3⟩ := hp
        obtain ⟨hr, hb3, hb4⟩ := fin (some .ret) W3 hk3
        exact ⟨_, _, hr, .inr ⟨rfl, ⟨.ret, (hIx _).putObj _ hi3 (by omega) hb3.1 rfl, hb4⟩, (hkf hkfa).trans ((hkp _ _).trans ((hkf hk3).trans (hkp _ _)))⟩⟩
      | exit id =>
        obtain ⟨hk3, hi3⟩ := hp
        obtain ⟨hr, hb3, hb4⟩ := fin (some (.exit id)) W3 hk3
        exact ⟨_, _, hr, .inr ⟨rfl, ⟨.exit id, (hIx _).putObj _ hi3 (by omega) hb3.1 rfl, hb4⟩, (hkf hkfa).trans ((hkp _ _).trans ((hkf hk3).trans (hkp _ _)))⟩⟩
      | goto t =>
        obtain ⟨hk3, hi3⟩ := hp
        obtain ⟨hr, hb3, hb4⟩ := fin (some (.goto t)) W3 hk3
        exact ⟨_, _, hr, .inr ⟨rfl, ⟨.goto t, (hIx _).putObj _ hi3 (by omega) hb3.1 rfl, hb4⟩, (hkf hkfa).trans ((hkp _ _).trans ((hkf hk3).trans (hkp _ _)))⟩⟩
      | panic ch => exact hp.elim
      | outgrown => exact hp.elim
    · rintro e W2 ⟨⟨v, rfl⟩, (⟨xs, hS, hi, hb⟩ | ⟨pre, hSp, c, hi, hb⟩)⟩
      · refine ⟨none, _, by have := run_endLoop (P := P) hb.1 (by rw [hrec]; simp); rw [hrec] at this; exact this, ?_⟩
        exact hdone _ xs _ (by omega) hS (hI.putObj _ hi (by omega) hb.1 rfl) ((World.putObj_heap_other (by omega)).trans hb.2)
      · refine ⟨some c, _, by have := run_endLoop (P := P) hb.1 (by rw [hrec]; simp); rw [hrec] at this; exact this, ?_⟩
        exact hstop _ c pre _ (by omega) hSp ((hIx c).putObj _ hi (by omega) hb.1 rfl) ((World.putObj_heap_other (by omega)).trans hb.2)


/-- A round within another loop's round. -/
theorem yield_within {F : Fence} (hd : F.depth = none) {m : Nat} (m' l' : Nat) {P : Program} {l : Nat} {args : Array Value} {W : World} {R : Ending → World → Prop} (h : YieldAt F m P l args W R) : YieldAt (F.inRound l') m' P l args W R := by
  obtain ⟨fn, tmps, assign, body, hy, hR⟩ := h
  exact ⟨fn, tmps, assign, body, hy, hR.1, fun c cs _ => hR.2 c cs (fun d e => by rw [hd] at e; cases e)⟩
end Go.Proofs.YtdllhiihmpinoaaGreat
/-
  What it is for a slice to read as numbers of one kind.
  Conditions: none.
-/
namespace Go.Proofs.YtdllhiihmpinoaaGreat

/-- A slice that reads as these numbers of one kind. -/
def NumsAt (W : World) (k : IntKind) (v : Value) (ns : List Int) : Prop := ∃ p cap, v = .slice p ns.length cap ∧
  (ns ≠ [] → ∃ b off, p = some ⟨b, off, none⟩ ∧ ∀ i (h : i < ns.length), W.cell? ⟨b, off + i, none⟩ = some (.int k ns[i]))

end Go.Proofs.YtdllhiihmpinoaaGreat
/-
  Words of worlds, rows and slices, for the walks of any layer: what a call keeps, and how slices of numbers read.
  Conditions: as each has them.
-/
namespace Go.Proofs.YtdllhiihmpinoaaGreat
open Go.RowKit Go.Shelf

theorem ret_bool {a b : Bool} (h : a = b) : Ending.returned (.bool a) = .returned (.bool b) := by rw [h]
theorem ret_int {k : IntKind} {a b : Int} (h : a = b) : Ending.returned (.int k a) = .returned (.int k b) := by rw [h]
theorem below_cell {W W' : World} {p : Addr} {v : Value} (hb : Below W.heap.size W W') (h : W.cell? p = some v) : W'.cell? p = some v := (hb.cell (World.block_lt_of_cell? W _ h)).trans h
theorem below_then {B : Nat} {X Y Z : World} (h : Below B X Y) (hB : B ≤ Y.heap.size) (k : Below Y.heap.size Y Z) : Below B X Z := h.trans (k.mono hB)
theorem below_drewN {B : Nat} {X w : World} (h : Below B X w) (n : Nat) : Below B X (w.drewN n) := ⟨h.os, h.tape, h.output, h.size, h.block⟩
theorem addr_add_off (b off i : Nat) : (⟨b, off, none⟩ : Addr).add i = ⟨b, off + i, none⟩ := by unfold Addr.add; split <;> simp_all
theorem below_grown {W w1 w2 : World} {r : Option Nat} (h1 : Below W.heap.size W w1) (hg : w1.grownBy w2 r) (hr : ∀ k, r = some k → W.heap.size ≤ k) : Below W.heap.size W w2 := h1.grown hg h1.size hr
/-- A slice value of n elements, size cells each, that reads as these cells. -/
def ValsAt (W : World) (v : Value) (size n : Nat) (xs : List Value) : Prop := xs.length = n * size ∧ ∃ p cap, v = .slice p n cap ∧
  ((p = none ∧ n = 0 ∧ cap = 0) ∨ ∃ a : Addr, p = some a ∧ ∀ j u, xs[j]? = some u → W.cell? (a.add j) = some u)
/-- A slice value of new memory that reads as these cells. -/
def OwnsNew (B : Nat) (E : TypeId) (size n : Nat) (xs : List Value) (e : Ending) (w' : World) : Prop := ∃ v', e = .returned v' ∧ w'.ownsRow B E size v' n xs

theorem nums_below {W W' : World} {k : IntKind} {v : Value} {ns : List Int} (h : NumsAt W k v ns) (hb : Below W.heap.size W W') : NumsAt W' k v ns := by
  obtain ⟨p, cap, rfl, hc⟩ := h
  refine ⟨p, cap, rfl, fun hne => ?_⟩
  obtain ⟨b, off, rfl, hcs⟩ := hc hne
  exact ⟨b, off, rfl, fun i hi => below_cell hb (hcs i hi)⟩
theorem nums_of_owns {B : Nat} {E : TypeId} {W : World} {v : Value} {k : IntKind} {ns : List Int} {n : Nat} (hl : ns.length = n) (h : W.ownsRow B E 1 v n (ns.map (Value.int k))) : NumsAt W k v ns := by
  subst hl
  rcases h.2 with ⟨rfl, h0⟩ | ⟨g, cap, cur, rfl, _⟩
  · obtain rfl : ns = [] := List.eq_nil_of_length_eq_zero h0
    exact ⟨none, 0, rfl, fun h => absurd rfl h⟩
  · refine ⟨_, _, rfl, fun _ => ⟨g, 0, rfl, fun i hi => ?_⟩⟩
    have h1 := h.cellAt i (by omega)
    rw [List.getElem?_eq_getElem (by simpa using hi)] at h1
    simpa using h1
/-- A world that is as another one was, but for what the blocks of S hold, and for new blocks. -/
structure Keeps (S : Nat → Prop) (w w' : World) : Prop where
  os : w'.os = w.os
  tape : w'.tape = w.tape
  output : w'.output = w.output
  size : w.heap.size ≤ w'.heap.size
  block : ∀ k, k < w.heap.size → ¬ S k → w'.heap[k]? = w.heap[k]?

theorem Keeps.refl (S : Nat → Prop) (w : World) : Keeps S w w := ⟨rfl, rfl, rfl, Nat.le_refl _, fun _ _ _ => rfl⟩
theorem Keeps.trans {S : Nat → Prop} {a b c : World} (h : Keeps S a b) (k : Keeps S b c) : Keeps S a c :=
  ⟨k.os.trans h.os, k.tape.trans h.tape, k.output.trans h.output, Nat.le_trans h.size k.size, fun i hi hs => (k.block i (Nat.lt_of_lt_of_le hi h.size) hs).trans (h.block i hi hs)⟩
theorem Keeps.sub {S T : Nat → Prop} {a b : World} (h : Keeps S a b) (hST : ∀ k, k < a.heap.size → S k → T k) : Keeps T a b :=
  ⟨h.os, h.tape, h.output, h.size, fun i hi hs => h.block i hi fun hS => hs (hST i hi hS)⟩
theorem Keeps.of_below {S : Nat → Prop} {a b : World} (h : Below a.heap.size a b) : Keeps S a b := ⟨h.os, h.tape, h.output, h.size, fun i hi _ => h.block i hi⟩
theorem Keeps.below {S : Nat → Prop} {a b : World} {B : Nat} (h : Keeps S a b) (hB : B ≤ a.heap.size) (hS : ∀ k, S k → B ≤ k) : Below B a b :=
  ⟨h.os, h.tape, h.output, h.size, fun i hi => h.block i (Nat.lt_of_lt_of_le hi hB) fun hs => absurd (hS i hs) (by omega)⟩
theorem Keeps.alloc (S : Nat → Prop) (w : World) (o : Obj) : Keeps S w (w.alloc o) := ⟨rfl, rfl, rfl, by simp, fun k hk _ => Below.heap_alloc _ _ _ hk⟩
theorem Keeps.setCell {S : Nat → Prop} (w : World) {p : Addr} (hp : S p.block) (u : Value) : Keeps S w (w.setCell p u) :=
  ⟨rfl, rfl, rfl, by simp [World.setCell], fun k _ hk => Below.heap_setCell _ _ _ _ fun e => hk (e ▸ hp)⟩
theorem Keeps.drewN {S : Nat → Prop} {a b : World} (h : Keeps S a b) (n : Nat) : Keeps S a (b.drewN n) := ⟨h.os, h.tape, h.output, h.size, h.block⟩
theorem Keeps.cell {S : Nat → Prop} {a b : World} (h : Keeps S a b) {p : Addr} {v : Value} (hc : a.cell? p = some v) (hp : ¬ S p.block) : b.cell? p = some v :=
  (World.cell?_of_block (w := a) (h.block p.block (World.block_lt_of_cell? a _ hc) hp)).trans hc
theorem Keeps.frozen {S : Nat → Prop} {a b : World} (h : Keeps S a b) {p : Addr} (hp : p.block < a.heap.size) (hS : ¬ S p.block) : b.frozen? p = a.frozen? p :=
  World.frozen?_of_block (w := a) (h.block p.block hp hS)
theorem Keeps.row {S : Nat → Prop} {a b : World} (h : Keeps S a b) {B : Nat} {E : TypeId} {size : Nat} {v : Value} {n : Nat} {xs : List Value} (hr : a.ownsRow B E size v n xs) (hv : ∀ g, v.ownBlock = some g → ¬ S g) : b.ownsRow B E size v n xs := by
  refine ⟨hr.1, ?_⟩
  rcases hr.2 with h' | ⟨g, cap, cur, rfl, h2, h3, h4⟩
  · exact .inl h'
  · exact .inr ⟨g, cap, cur, rfl, h2, (h.block g (Array.getElem?_eq_some_iff.1 h3).1 (hv g rfl)).trans h3, h4⟩
theorem owns_below {B : Nat} {E : TypeId} {size : Nat} {v : Value} {n : Nat} {xs : List Value} {X Y : World} (h : X.ownsRow B E size v n xs) (hb : Below X.heap.size X Y) : Y.ownsRow B E size v n xs :=
  (Keeps.of_below (S := fun _ => False) hb).row h fun _ _ h => h
/-- Rows of other kinds lie in other blocks. -/
theorem owns_ne {W : World} {B B' : Nat} {E E' : TypeId} {s s' n n' : Nat} {v v' : Value} {xs xs' : List Value} (h : W.ownsRow B E s v n xs) (h' : W.ownsRow B' E' s' v' n' xs') (hE : E ≠ E') {g g' : Nat} (hg : v.ownBlock = some g) (hg' : v'.ownBlock = some g') : g ≠ g' := by
  rintro rfl
  obtain ⟨c, f, h1⟩ := Lib.ownsRow_kind h g hg
  obtain ⟨c', f', h2⟩ := Lib.ownsRow_kind h' g hg'
  rw [h1] at h2
  simp at h2
  exact hE h2.2.1

theorem below_frozen {W W' : World} {p : Addr} {v : Value} (hb : Below W.heap.size W W') (h : W.cell? p = some v) (hf : W.frozen? p = false) : W'.frozen? p = false := (hb.frozen (World.block_lt_of_cell? W _ h)).trans hf

/-- A slice reads so before it is written, and behind writes elsewhere. -/
theorem nums_keeps {S : Nat → Prop} {W W' : World} {k : IntKind} {p : Option Addr} {n c : Nat} {ns : List Int} (h : NumsAt W k (.slice p n c) ns) (hk : Keeps S W W') (hS : ∀ a, p = some a → ¬ S a.block) : NumsAt W' k (.slice p n c) ns := by
  obtain ⟨q, cap, e, hc⟩ := h
  injection e with e1 e2 e3
  subst e1
  refine ⟨p, cap, by rw [e2, e3], fun hne => ?_⟩
  obtain ⟨b, off, rfl, hcs⟩ := hc hne
  exact ⟨b, off, rfl, fun i hi => hk.cell (hcs i hi) (show ¬ S b from hS ⟨b, off, none⟩ rfl)⟩
theorem nums_len {W : World} {k : IntKind} {p : Option Addr} {n c : Nat} {ns : List Int} (h : NumsAt W k (.slice p n c) ns) : n = ns.length := by
  obtain ⟨q, cap, e, _⟩ := h
  injection e
/-- A block whole as numbers reads as they. -/
theorem nums_block {W : World} {k : IntKind} {b n c : Nat} {T : TypeId} {xs : List Int} (h : W.heap[b]? = some (.cells (xs.map (Value.int k)).toArray T (0, 0))) (hn : n ≤ xs.length) : NumsAt W k (.slice (some ⟨b, 0, none⟩) n c) (xs.take n) := by
  have hl : (xs.take n).length = n := by rw [List.length_take]; omega
  refine ⟨_, c, by rw [hl], fun _ => ⟨b, 0, rfl, fun i hi => ?_⟩⟩
  have hi2 : i < xs.length := by omega
  simp [World.cell?, h, hi2]
theorem block_cell {W : World} {k : IntKind} {b : Nat} {T : TypeId} {xs : List Int} (h : W.heap[b]? = some (.cells (xs.map (Value.int k)).toArray T (0, 0))) (i : Nat) (hi : i < xs.length) : W.cell? ⟨b, i, none⟩ = some (.int k xs[i]) := by simp [World.cell?, h, hi]
theorem block_free {W : World} {k : IntKind} {b : Nat} {T : TypeId} {xs : List Int} (h : W.heap[b]? = some (.cells (xs.map (Value.int k)).toArray T (0, 0))) (i : Nat) : W.frozen? ⟨b, i, none⟩ = false := by simp [World.frozen?, h]
theorem block_set {W : World} {k : IntKind} {b : Nat} {T : TypeId} {xs : List Int} (h : W.heap[b]? = some (.cells (xs.map (Value.int k)).toArray T (0, 0))) (i : Nat) (x : Int) : (W.setCell ⟨b, i, none⟩ (.int k x)).heap[b]? = some (.cells ((xs.set i x).map (Value.int k)).toArray T (0, 0)) := by
  rw [heap_setCell_same W b i _ _ (.int k x) h]
  simp [List.map_set]

end Go.Proofs.YtdllhiihmpinoaaGreat
/-
  slices.Clone, slices.Equal and slices.Index at rows of ints; what was in memory stays.
  Conditions: a row that is cloned has at most 2 to the power 40 elements.
-/
namespace Go.Proofs.YtdllhiihmpinoaaGreat
open Go.RowKit Go.Shelf

theorem cloneI_info : (Tryz.prog.info? 3).map (fun i => (i.zero, i.size, i.bytes)) = some (some (.int .i64 0), 1, 8) := by kernel_rfl

set_option maxHeartbeats 2000000 in
theorem cloneI (v : Value) (n : Nat) (xs : List Value) (W : World) (hv : ValsAt W v 1 n xs) (h1 : ∀ u ∈ xs, u.oneCell' = true) (hn : n ≤ 1099511627776) :
    Calls Tryz.prog 29 #[v] W fun e w' => OwnsNew W.heap.size 3 1 n xs e w' ∧ Below W.heap.size W w' := by
  obtain ⟨hlen, p, cap, rfl, ⟨rfl, rfl, rfl⟩ | ⟨ad, rfl, hcells⟩⟩ := hv
  · obtain rfl : xs = [] := List.eq_nil_of_length_eq_zero (by omega)
    have hcmp := fun w => Lib.run_eql_slice_nil (P := Tryz.prog) w 22 3 none 0 0 0 0 Tryz.underlying22
    go_enter Tryz.func29, Tryz.ntmps29
    go_wp2
    go_ret
    exact ⟨⟨_, rfl, World.ownsRow_nil _ _ _ _⟩, Below.refl _ _⟩
  · have hcmp := fun w => Lib.run_eql_slice_nil (P := Tryz.prog) w 22 3 (some ad) n cap 0 0 Tryz.underlying22
    obtain ⟨i0, hi, hz0, hz1, hz2⟩ := info_parts cloneI_info
    have hown := World.ownsRow_lit (base := W.heap.size) (e := 3) (size := 1) W #[] 0 (Nat.le_refl _) (by decide) rfl
    have hnews : ∀ j u, xs[j]? = some u → (W.alloc (Obj.cells #[] 3)).cell? (ad.add j) = some u := fun j u hj => by
      have h0 := hcells j u hj
      rw [World.cell?_alloc_lt _ _ _ (World.block_lt_of_cell? W _ h0)]
      exact h0
    have HN := Lib.hid hnews
    have H1 := Lib.hid h1
    have HO := Lib.hid hown
    clear hnews h1 hown hcells
    go_enter Tryz.func29, Tryz.ntmps29
    go_wp2_with (at_builtin; refine wpList_append_own _ rfl _ _ 22 rfl W.heap.size 3 i0 (.int .i64 0) 1 8 Tryz.underlying22 hi hz0 hz1 hz2 rfl (by decide) _ _ _ rfl HO.out ad n cap xs rfl hlen HN.out H1.out (by unfold maxLen; omega) (by omega) (by simp) ?_; intro v' w1 hown' hgrow _)
    go_ret
    rw [Nat.zero_add, List.nil_append] at hown'
    exact ⟨⟨v', rfl, hown'⟩, below_grown ((Below.refl _ _).alloc (Nat.le_refl _) _) hgrow (fun k e => by cases e; exact Nat.le_refl _)⟩

set_option maxHeartbeats 4000000 in
theorem equalI_c (v0 v1 : Value) (xs ys : List Int) (W : World) (hv0 : NumsAt W .i64 v0 xs) (hv1 : NumsAt W .i64 v1 ys) (hl0 : xs.length ≤ 9223372036854775807) (hl1 : ys.length ≤ 9223372036854775807) :
    Calls Tryz.prog 97 #[v0, v1] W fun e w' => e = .returned (.bool (decide (xs = ys))) ∧ Below W.heap.size W w' := by
  obtain ⟨p0, cap0, rfl, hc0⟩ := hv0
  obtain ⟨p1, cap1, rfl, hc1⟩ := hv1
  go_enter Tryz.func97, Tryz.ntmps97
  by_cases hlen : xs.length = ys.length
  · have hne : ((xs.length : Int) != (ys.length : Int)) = false := by rw [bne_eq_false_iff_eq]; omega
    have HL := Lib.hid hlen
    clear hlen
    go_wp2
    clear hne
    go_loopw [13] (fun iv wr => ∃ i : Nat, i ≤ xs.length ∧ iv = .int .i64 i ∧ xs.take i = ys.take i ∧ Below W.heap.size W wr) (fun iv _ => xs.length - (intOf iv).toNat)
    case atStart => exact ⟨0, Nat.zero_le _, rfl, rfl, Below.refl _ _⟩
    case round =>
      obtain ⟨i, hi, rfl, heq, hB⟩ := hrel
      by_cases hlt : i < xs.length
      · obtain ⟨b0, off0, rfl, hcs0⟩ := hc0 (by intro e; rw [e] at hlt; cases hlt)
        have hlt1 : i < ys.length := by have := HL.out; omega
        obtain ⟨b1, off1, rfl, hcs1⟩ := hc1 (by intro e; rw [e] at hlt1; cases hlt1)
        have hx := hcs0 i hlt
        have hy := hcs1 i hlt1
        have ha := List.take_succ_eq_append_getElem hlt
        have hb := List.take_succ_eq_append_getElem hlt1
        obtain ⟨x, hxe⟩ : ∃ x, x = xs[i] := ⟨_, rfl⟩
        obtain ⟨y, hye⟩ : ∃ y, y = ys[i] := ⟨_, rfl⟩
        rw [← hxe] at hx ha
        rw [← hye] at hy hb
        have hx' := (hB.cell (World.block_lt_of_cell? W _ hx)).trans hx
        have hy' := (hB.cell (World.block_lt_of_cell? W _ hy)).trans hy
        have HE := Lib.hid heq
        have HA := Lib.hid ha
        have HB := Lib.hid hb
        have HXY := Lib.hid (And.intro hxe hye)
        clear hx hy hcs0 hcs1 heq ha hb hxe hye
        by_cases hxy : x = y
        · subst hxy
          go_wp2
          go_quiet (fail)
          go_wp2
          all_goals
            go_roundw
            case rel => exact ⟨i + 1, by omega, by go_num, by rw [HA.out, HB.out, HE.out], below_drewN hB _⟩
            case measure => simp [intOf]; omega
        · have hne : (x != y) = true := by rw [bne_iff_ne]; exact hxy
          have hr : decide (xs = ys) = false := by
            rw [decide_eq_false_iff_not]
            intro e
            subst e
            exact hxy (HXY.out.1.trans HXY.out.2.symm)
          have HR := Lib.hid hr
          clear hr hxy
          go_wp2
          go_quiet (fail)
          go_wp2
          all_goals go_ret
          all_goals exact ⟨ret_bool HR.out.symm, below_drewN hB _⟩
      · have heq2 : xs = ys := by rwa [List.take_of_length_le (by omega), List.take_of_length_le (by have := HL.out; omega)] at heq
        have HE := Lib.hid heq2
        clear heq heq2
        go_wp2
        go_ret
        exact ⟨ret_bool (by simp [HE.out]), hB⟩
  · have hne : ((xs.length : Int) != (ys.length : Int)) = true := by rw [bne_iff_ne]; omega
    have hr : decide (xs = ys) = false := by rw [decide_eq_false_iff_not]; intro e; rw [e] at hlen; exact hlen rfl
    have HR := Lib.hid hr
    clear hr hlen
    go_wp2
    go_ret
    exact ⟨ret_bool HR.out.symm, Below.refl _ _⟩

/-- The first n of a row that reads so. -/
theorem vals_nums {W : World} {p : Option Addr} {n c : Nat} {ns : List Int} (h : NumsAt W .i64 (.slice p n c) ns) (hz : n = 0 → p = none → c = 0) : ValsAt W (.slice p n c) 1 n (ns.map (Value.int .i64)) := by
  obtain ⟨q, cap, e, hc⟩ := h
  injection e with e1 e2 e3
  subst e1 e2 e3
  refine ⟨by simp, p, c, rfl, ?_⟩
  by_cases hne : ns = []
  · subst hne
    cases p with
    | none => exact .inl ⟨rfl, rfl, hz rfl rfl⟩
    | some a => exact .inr ⟨a, rfl, fun j u hj => by simp at hj⟩
  · obtain ⟨b, off, rfl, hcs⟩ := hc hne
    refine .inr ⟨_, rfl, fun j u hj => ?_⟩
    rw [List.getElem?_map] at hj
    obtain ⟨x, hx, rfl⟩ := Option.map_eq_some_iff.1 hj
    obtain ⟨hlt, rfl⟩ := List.getElem?_eq_some_iff.1 hx
    rw [addr_add_off]
    exact hcs j hlt

end Go.Proofs.YtdllhiihmpinoaaGreat
/-
  Package reader: which CPUs there are; boxes of readers; who is in a section.
  Conditions: none.
-/
namespace Go.Proofs.YtdllhiihmpinoaaGreat
open Go.RowKit Go.Shelf
attribute [local go_sem] Oper.semAt_some

theorem ret_b {b c : Bool} (h : b = c) : Ending.returned (.bool b) = Ending.returned (.bool c) := by rw [h]
theorem below1 (W : World) (o1 : Obj) : Below W.heap.size W (W.alloc o1) := (Below.refl _ _).alloc (Nat.le_refl _) _
theorem below2 (W : World) (o1 o2 : Obj) : Below W.heap.size W ((W.alloc o1).alloc o2) := (below1 W o1).alloc (by simp) _
theorem below3 (W : World) (o1 o2 o3 : Obj) : Below W.heap.size W (((W.alloc o1).alloc o2).alloc o3) := (below2 W o1 o2).alloc (by simp; omega) _
theorem below4 (W : World) (o1 o2 o3 o4 : Obj) : Below W.heap.size W ((((W.alloc o1).alloc o2).alloc o3).alloc o4) := (below3 W o1 o2 o3).alloc (by simp; omega) _
theorem owns_slice {B : Nat} {E : TypeId} {W : World} {v : Value} {s n : Nat} {xs : List Value} (h : W.ownsRow B E s v n xs) : ∃ p c, v = .slice p n c := by
  rcases h.2 with ⟨rfl, h0⟩ | ⟨g, cap, cur, rfl, _⟩
  · exact ⟨none, 0, by rw [h0]⟩
  · exact ⟨_, _, rfl⟩

/-- Readers. -/
structure RdS where
  now : Int
  ns : List Int
  os : List Int

def mayCpus (n : Int) : Bool := decide (1 ≤ n) && decide (n ≤ 8)
def hasB (k : Nat) (n : Int) : Bool := decide (0 ≤ n) && decide (n < (k : Int))

set_option maxRecDepth 100000 in
set_option maxHeartbeats 4000000 in
theorem mayBe_c (n : Int) (W : World) : Calls Tryz.prog 85 #[.int .i64 n] W fun e w' => e = .returned (.bool (mayCpus n)) ∧ w' = W := by
  have hc : (n < 1 ∧ mayCpus n = false) ∨ (1 ≤ n ∧ mayCpus n = decide (n ≤ 8)) := by
    unfold mayCpus
    by_cases h : 1 ≤ n
    · rw [decide_eq_true h]; exact .inr ⟨h, rfl⟩
    · rw [decide_eq_false h]; exact .inl ⟨by omega, rfl⟩
  rcases hc with ⟨h0, hr⟩ | ⟨h0, hr⟩
  all_goals
    rw [hr]; clear hr
    go_enter Tryz.func85, Tryz.ntmps85
    go_wp2
    go_ret
    exact ⟨rfl, rfl⟩

/-- What box readers lie in. -/
def RBox (W : World) (z : Nat) (now : Int) (u v : Value) : Prop := W.heap[z]? = some (.cells #[.int .i64 now, u, v] 24 (0, 0))
theorem RBox.cells {W : World} {z : Nat} {b : Int} {u v : Value} (h : RBox W z b u v) : W.cell? ⟨z, 0, none⟩ = some (.int .i64 b) ∧ W.cell? ⟨z, 1, none⟩ = some u ∧ W.cell? ⟨z, 2, none⟩ = some v := by
  have h' : W.heap[z]? = _ := h
  simp [World.cell?, h']
theorem RBox.marks {W : World} {z : Nat} {b : Int} {u v : Value} (h : RBox W z b u v) (i : Nat) : W.frozen? ⟨z, i, none⟩ = false := by
  have h' : W.heap[z]? = _ := h
  simp [World.frozen?, h']
theorem RBox.lt {W : World} {z : Nat} {b : Int} {u v : Value} (h : RBox W z b u v) : z < W.heap.size := (Array.getElem?_eq_some_iff.1 h).1
theorem RBox.below {W W' : World} {z : Nat} {b : Int} {u v : Value} (h : RBox W z b u v) (hb : Below W.heap.size W W') : RBox W' z b u v := (hb.block z h.lt).trans h
theorem RBox.keeps {S : Nat → Prop} {W W' : World} {z : Nat} {b : Int} {u v : Value} (h : RBox W z b u v) (hk : Keeps S W W') (hz : ¬ S z) : RBox W' z b u v := (hk.block z h.lt hz).trans h
theorem RBox.new (W : World) (b : Int) (u v : Value) : RBox (W.alloc (.cells #[.int .i64 b, u, v] 24)) W.heap.size b u v := World.alloc_heap_new W _
theorem RBox.put {W : World} {z : Nat} {b0 : Int} {u0 v0 : Value} (h : RBox W z b0 u0 v0) (b : Int) (u v : Value) : RBox (((W.setCell ⟨z, 0, none⟩ (.int .i64 b)).setCell ⟨z, 1, none⟩ u).setCell ⟨z, 2, none⟩ v) z b u v := by
  have h0 := heap_setCell_same W z 0 _ _ (.int .i64 b) h
  have h1 := heap_setCell_same _ z 1 _ _ u h0
  have h2 := heap_setCell_same _ z 2 _ _ v h1
  unfold RBox
  rw [h2]
  rfl
theorem RBox.putK (W : World) (z : Nat) (b : Int) (u v : Value) : Keeps (fun k => k = z) W (((W.setCell ⟨z, 0, none⟩ (.int .i64 b)).setCell ⟨z, 1, none⟩ u).setCell ⟨z, 2, none⟩ v) :=
  ((Keeps.setCell W (S := (· = z)) (p := ⟨z, 0, none⟩) rfl _).trans (Keeps.setCell _ (S := (· = z)) (p := ⟨z, 1, none⟩) rfl _)).trans (Keeps.setCell _ (S := (· = z)) (p := ⟨z, 2, none⟩) rfl _)

set_option maxRecDepth 100000 in
set_option maxHeartbeats 4000000 in
theorem has_c (b n : Int) (p : Option Addr) (k c : Nat) (v : Value) (W : World) : Calls Tryz.prog 148 #[.agg #[.int .i64 b, .slice p k c, v], .int .i64 n] W fun e w' => e = .returned (.bool (hasB k n)) ∧ Below W.heap.size W w' := by
  have hc : (n < 0 ∧ hasB k n = false) ∨ (0 ≤ n ∧ hasB k n = decide (n < (k : Int))) := by
    unfold hasB
    by_cases h : 0 ≤ n
    · rw [decide_eq_true h]; exact .inr ⟨h, rfl⟩
    · rw [decide_eq_false h]; exact .inl ⟨by omega, rfl⟩
  rcases hc with ⟨h0, hr⟩ | ⟨h0, hr⟩
  all_goals
    rw [hr]; clear hr
    go_enter Tryz.func148, Tryz.ntmps148
    go_wp2
    go_ret
    exact ⟨rfl, by first | exact below1 _ _ | exact below2 _ _ _⟩

set_option maxRecDepth 100000 in
set_option maxHeartbeats 4000000 in
theorem sections_c (b : Int) (u v : Value) (W : World) : Calls Tryz.prog 87 #[.agg #[.int .i64 b, u, v]] W fun e w' => e = .returned (.func (.func 128) #[] #[.pointer (some ⟨W.heap.size, 0, none⟩)]) ∧ w' = W.alloc (.cells #[.int .i64 b, u, v] 24) := by
  go_enter Tryz.func87, Tryz.ntmps87
  go_wp2
  go_ret
  exact ⟨rfl, rfl⟩

theorem run_cmp_sec (a p a' p' : Int) (w : World) : (Op.equalIn 10000 135 (.agg #[.int .i64 a, .int .i64 p]) (.agg #[.int .i64 a', .int .i64 p'])).run Tryz.prog w = .ok (decide (a = a' ∧ p = p')) w := by
  rw [Op.equalIn]
  have hst : Tryz.prog.stoodInHeld 135 = false := by kernel_rfl
  have hpr : ∀ w, Sem.run Tryz.prog program w = .ok Tryz.prog w := fun _ => rfl
  simp only [Sem.run_bind, run_underlying Tryz.underlying135, Result.andThen_ok, hpr, hst, Bool.false_eq_true, if_false]
  have p0 : ∀ (a p : Int) w, (part 3 #[.int .i64 a, .int .i64 p] 0).run Tryz.prog w = .ok (.int .i64 a) w := fun a p w => by kernel_rfl
  have p1 : ∀ (a p : Int) w, (part 3 #[.int .i64 a, .int .i64 p] 1).run Tryz.prog w = .ok (.int .i64 p) w := fun a p w => by kernel_rfl
  have e0 : ∀ (p q : Int) w, (Op.equalIn 9999 3 (.int .i64 p) (.int .i64 q)).run Tryz.prog w = .ok (p == q) w := fun p q w => by rw [run_equalIn_int w 9998 3 .i64 .i64 p q Tryz.underlying3]
  simp [Sem.run_bind, Result.andThen_ok, p0, p1, e0]
  clear p0 p1 e0 hst hpr
  by_cases h0 : a = a' <;> by_cases h1 : p = p' <;> simp [*]
/-- Is it in a section, or seems so? -/
def secB (a p : Int) : Bool := !decide (a = 0 ∧ p = 0)
theorem run_neq_sec (a p : Int) (w : World) : (binOp .neq 135 (.agg #[.int .i64 a, .int .i64 p]) (.agg #[.int .i64 0, .int .i64 0])).run Tryz.prog w = .ok (.bool (secB a p)) w := by
  rw [run_neq_struct]
  have := run_cmp_sec a p 0 0 w
  simp [this, secB]

/-- The cells outside of some blocks stay as they are. -/
def KeepsCells (S : Nat → Prop) (W W' : World) : Prop := ∀ b o v, ¬ S b → W.cell? ⟨b, o, none⟩ = some v → W'.cell? ⟨b, o, none⟩ = some v
theorem KeepsCells.refl (S : Nat → Prop) (W : World) : KeepsCells S W W := fun _ _ _ _ h => h
theorem KeepsCells.trans {S : Nat → Prop} {X Y Z : World} (h : KeepsCells S X Y) (k : KeepsCells S Y Z) : KeepsCells S X Z := fun b o v hb hx => k b o v hb (h b o v hb hx)
theorem KeepsCells.keeps {S : Nat → Prop} {X Y : World} (h : Keeps S X Y) : KeepsCells S X Y := fun b _ _ hb hx => h.cell hx (by simpa using hb)
theorem KeepsCells.turn (S : Nat → Prop) (W : World) (l : Nat) (o o' : Obj) (hl : W.heap[l]? = some o) (ho : o.isCells = false) (_ : o.isWalk = false) : KeepsCells S W (W.putObj l o') := fun b i v _ h => by
  by_cases e : b = l
  · subst e
    simp only [World.cell?, hl] at h
    cases o <;> simp_all [Obj.isCells]
  · have hp : (W.putObj l o').heap[b]? = W.heap[b]? := World.putObj_heap_other e
    simp only [World.cell?] at h ⊢
    rw [hp]
    exact h

/-- A row of ints lies there, outside of S. -/
def RowOut (S : Nat → Prop) (W : World) (p : Option Addr) (fs : List Int) : Prop := fs ≠ [] → ∃ b off, p = some ⟨b, off, none⟩ ∧ ¬ S b ∧ ∀ i (h : i < fs.length), W.cell? ⟨b, off + i, none⟩ = some (.int .i64 fs[i])
theorem RowOut.keeps {S : Nat → Prop} {W W' : World} {p : Option Addr} {fs : List Int} (h : RowOut S W p fs) (hk : KeepsCells S W W') : RowOut S W' p fs := fun hne => by
  obtain ⟨b, off, e, hS, hc⟩ := h hne
  exact ⟨b, off, e, hS, fun i hi => hk _ _ _ hS (hc i hi)⟩
theorem RowOut.below {S : Nat → Prop} {W W' : World} {p : Option Addr} {fs : List Int} (h : RowOut S W p fs) (hb : Below W.heap.size W W') : RowOut S W' p fs := fun hne => by
  obtain ⟨b, off, e, hS, hc⟩ := h hne
  exact ⟨b, off, e, hS, fun i hi => below_cell hb (hc i hi)⟩


end Go.Proofs.YtdllhiihmpinoaaGreat
/-
  Package reader: sections tells the CPUs that are in a section, or seem so, CPU by CPU.
  Conditions: who ranges over them leaves the readers, and their rows, as they are.
-/
namespace Go.Proofs.YtdllhiihmpinoaaGreat
open Go.RowKit Go.Shelf
attribute [local go_sem] Oper.semAt_some

def secs (l : List (Int × Int)) : List (Int × Int) := l.filter fun s => secB s.1 s.2
def Small (k : Nat) (xs : List (Int × Int × Int)) : Prop := ∀ x ∈ xs, 0 ≤ x.1 ∧ x.1 < (k : Int)
theorem secs_len (l : List (Int × Int)) : (secs l).length ≤ l.length := List.length_filter_le _ _
theorem secs_snoc (l : List (Int × Int)) (s : Int × Int) : secs (l ++ [s]) = secs l ++ (if secB s.1 s.2 = true then [s] else []) := by
  unfold secs
  rw [List.filter_append]
  by_cases h : secB s.1 s.2 = true <;> simp [h]
theorem zip_take_succ {ns os : List Int} (hl : os.length = ns.length) {j : Nat} (hj : j < ns.length) : (ns.zip os).take (j + 1) = (ns.zip os).take j ++ [(ns[j], os[j]'(by omega))] := by
  have h : j < (ns.zip os).length := by simp; omega
  rw [List.take_succ_eq_append_getElem h]
  simp

set_option maxRecDepth 100000 in
set_option maxHeartbeats 4000000 in
theorem sections_stops (n : Nat) (hn : 1 ≤ n) (S : Nat → Prop) (lb : Nat) (b : Int) (p q : Option Addr) (c d : Nat) (ns os : List Int) (w : World) (hSl : ¬ S lb) (hlen : os.length = ns.length) (hmax : ns.length ≤ 4611686018427387904)
    (hc : RBox w lb b (.slice p ns.length c) (.slice q ns.length d)) (hl : RowOut S w p ns) (hm : RowOut S w q os) :
    SeqDeep Fence.wide n Tryz.prog 128 #[.pointer (some ⟨lb, 0, none⟩)] (fun x : Int × Int × Int => #[.int .i64 x.1, .agg #[.int .i64 x.2.1, .int .i64 x.2.2]]) (KeepsCells S)
      (fun xs => xs.map (·.2) = secs (ns.zip os) ∧ Small ns.length xs) (fun xs => (∃ j, xs.map (·.2) = secs ((ns.zip os).take j)) ∧ Small ns.length xs) ns.length w := fun l J Jx W hW hJ hJx hY h0 => by
  refine callsIn_of_wp Tryz.func128 rfl trivial ?_ rfl
  simp only [Tryz.ntmps128, List.size_toArray, List.length_cons, List.length_nil, Nat.reduceAdd, Nat.reduceSub, Array.replicate_succ, Array.replicate_zero, List.push_toArray, List.append_toArray, List.nil_append, List.cons_append]
  have hcW1 := (hc.below hW).cells.2.1
  have hcW2 := (hc.below hW).cells.2.2
  have HLW := Lib.hid (And.intro (hl.below hW) (hm.below hW))
  have HSL := Lib.hid hSl
  have HLEN := Lib.hid hlen
  have HJ := Lib.hid (And.intro hJ hJx)
  clear hc hl hm hSl hlen hJ hJx
  gi_wp2
  gi_loopw [9] (fun iv wr => ∃ (j : Nat) (pre : List (Int × Int × Int)), j ≤ ns.length ∧ iv = .int .i64 (j : Int) ∧ (wr.cell? ⟨lb, 1, none⟩ = some (.slice p ns.length c) ∧ wr.cell? ⟨lb, 2, none⟩ = some (.slice q ns.length d) ∧ Hid (RowOut S wr p ns ∧ RowOut S wr q os ∧ W.heap.size ≤ wr.heap.size)) ∧ Hid (J pre wr) ∧ Hid (pre.map (·.2) = secs ((ns.zip os).take j) ∧ Small ns.length pre)) (fun iv _ => ns.length - (intOf iv).toNat)
  case atStart => exact ⟨0, [], Nat.zero_le _, rfl, ⟨hcW1, hcW2, HLW.out.1, HLW.out.2, Nat.le_refl _⟩, h0, by simp [secs], fun x hx => by cases hx⟩
  case round =>
    clear HLW hcW1 hcW2 h0
    obtain ⟨j, pre, hj, rfl, ⟨hc1, hc2, HL⟩, HJp, HE⟩ := hrel
    by_cases hjl : j < ns.length
    · have hne : ns ≠ [] := by intro e; rw [e] at hjl; simp at hjl
      have hne2 : os ≠ [] := by intro e; have := HLEN.out; rw [e] at this; simp at this; omega
      obtain ⟨h1, h2, hsz⟩ := HL.out
      obtain ⟨b1, off1, hp, hSb1, hcs1⟩ := h1 hne
      obtain ⟨b2, off2, hq, hSb2, hcs2⟩ := h2 hne2
      have hx := hcs1 j hjl
      have hy := hcs2 j (by rw [HLEN.out]; exact hjl)
      have hsn := zip_take_succ HLEN.out hjl
      obtain ⟨x, hxe⟩ : ∃ x, x = ns[j] := ⟨_, rfl⟩
      obtain ⟨y, hye⟩ : ∃ y, y = os[j]'(by rw [HLEN.out]; exact hjl) := ⟨_, rfl⟩
      rw [← hxe] at hx hsn
      rw [← hye] at hy hsn
      have HSN := Lib.hid hsn
      have HLN := Lib.hid (fun (wr' : World) (hk : KeepsCells S wr wr') (hz : wr.heap.size ≤ wr'.heap.size) => (show RowOut S wr' p ns ∧ RowOut S wr' q os ∧ W.heap.size ≤ wr'.heap.size from ⟨h1.keeps hk, h2.keeps hk, Nat.le_trans hsz hz⟩))
      clear hcs1 hcs2 hne hne2 hxe hye hsn h1 h2 hsz
      subst hp
      subst hq
      have hj0 : (0 : Int) ≤ (j : Int) := by omega
      have hjl' : (j : Int) < (ns.length : Int) := by omega
      have hb1 := World.block_lt_of_cell? wr _ hx
      have hb2 := World.block_lt_of_cell? wr _ hy
      have hbl := World.block_lt_of_cell? wr _ hc1
      have HN := Lib.hid (fun w => run_neq_sec x y w)
      cases hs : secB x y with
      | false =>
        rw [hs] at HN
        have HE2 := Lib.hid (show pre.map (·.2) = secs ((ns.zip os).take (j + 1)) ∧ Small ns.length pre by
          rw [HSN.out, secs_snoc, if_neg (by rw [hs]; exact Bool.false_ne_true), List.append_nil]; exact HE.out)
        have HJ2 := Lib.hid (HJ.out.1.alloc (.cells #[.int .i64 x, .int .i64 y] 135) HJp.out)
        have hnq := HN.out
        clear HE HJp HSN hs HN hY
        gi_wp2
        refine ⟨fun f h => (by cases h), ?_⟩
        gi_wp2
        go_roundw
        case rel => exact ⟨j + 1, pre, by omega, rfl, ⟨below_cell (below1 wr _) hc1, below_cell (below1 wr _) hc2, HLN.out _ (fun b o v _ h => below_cell (below1 wr _) h) (by simp)⟩, HJ2, HE2⟩
        case measure => first | omega | (simp [intOf]; omega)
      | true =>
        rw [hs] at HN
        have HE2 := Lib.hid (show (pre ++ [((j : Int), x, y)]).map (·.2) = secs ((ns.zip os).take (j + 1)) ∧ Small ns.length (pre ++ [((j : Int), x, y)]) by
          rw [HSN.out, secs_snoc, if_pos hs, List.map_append, HE.out.1]
          exact ⟨rfl, fun z hz => by
            rcases List.mem_append.1 hz with hz | hz
            · exact HE.out.2 z hz
            · rw [List.mem_singleton.1 hz]; exact ⟨hj0, hjl'⟩⟩)
        have hlp : pre.length < ns.length := by
          have h1 := congrArg List.length HE.out.1
          have h2 := secs_len ((ns.zip os).take j)
          have h3 : ((ns.zip os).take j).length ≤ j := List.length_take_le _ _
          simp only [List.length_map] at h1
          omega
        obtain ⟨w1, hw1⟩ : ∃ X : World, X = wr.alloc (.cells #[.int .i64 x, .int .i64 y] 135) := ⟨_, rfl⟩
        have hb1' : Below wr.heap.size wr w1 := by rw [hw1]; exact below1 _ _
        have hJ1 := HJ.out.1.alloc (.cells #[.int .i64 x, .int .i64 y] 135) HJp.out
        rw [← hw1] at hJ1
        have hs0 : w1.cell? ⟨wr.heap.size, 0, none⟩ = some (.int .i64 x) := by rw [hw1]; simp
        have hs1 : w1.cell? ⟨wr.heap.size, 1, none⟩ = some (.int .i64 y) := by rw [hw1]; simp
        have hk1 : KeepsCells S wr w1 := fun b o v _ h => below_cell hb1' h
        have hcc1 := below_cell hb1' hc1
        have hcc2 := below_cell hb1' hc2
        have HZ1 := Lib.hid (show wr.heap.size ≤ w1.heap.size ∧ W.heap.size ≤ wr.heap.size from ⟨hb1'.size, HL.out.2.2⟩)
        have HK1 := Lib.hid hk1
        obtain ⟨fn, tmps, assign, body, hy2, hR⟩ := hY pre ((j : Int), x, y) w1 hJ1 hlp ⟨⟨j + 1, HE2.out.1⟩, HE2.out.2⟩
        dsimp only at hy2
        rw [hw1] at hy2 hR
        have hnq := HN.out
        clear HE HJp HSN hs HN hY hb1' hJ1 hk1
        rw [hw1] at HK1 HZ1 hcc1 hcc2
        clear hw1 hs0 hs1
        gi_wp2
        refine hR.mono ?_
        rintro e W3 (⟨rfl, hJ3, hk3, hf3⟩ | ⟨rfl, hJx3, -⟩)
        · have hc31 := hk3 _ _ _ HSL.out hcc1
          have hc32 := hk3 _ _ _ HSL.out hcc2
          have HL3 := Lib.hid (HLN.out W3 (HK1.out.trans hk3) (Nat.le_trans HZ1.out.1 hf3.size))
          have HJ3 := Lib.hid hJ3
          clear hJ3 hk3 hf3 hR
          gi_wp2
          go_roundw
          case rel => exact ⟨j + 1, _, by omega, rfl, ⟨hc31, hc32, HL3⟩, HJ3, HE2⟩
          case measure => first | omega | (simp [intOf]; omega)
        · have HJX := Lib.hid (show (∃ pre', ((∃ j, List.map (·.2) pre' = secs ((ns.zip os).take j)) ∧ Small ns.length pre') ∧ Jx pre' W3) from ⟨_, ⟨⟨j + 1, HE2.out.1⟩, HE2.out.2⟩, hJx3⟩)
          clear hJx3 hR
          gi_wp2
          refine bodyPost_ret (results_none rfl _ _ _) rfl ?_
          exact ⟨⟨_, rfl⟩, .inr HJX.out⟩
    · obtain rfl : j = ns.length := by omega
      have HF := Lib.hid (show ∃ xs, (List.map (·.2) xs = secs (ns.zip os) ∧ Small ns.length xs) ∧ J xs wr from ⟨pre, ⟨by
        have h := HE.out.1
        rwa [List.take_of_length_le (by simp; omega)] at h, HE.out.2⟩, HJp.out⟩)
      clear HE HJp hjl hj
      gi_wp2
      go_end0
      exact ⟨⟨_, rfl⟩, .inl HF.out⟩

end Go.Proofs.YtdllhiihmpinoaaGreat
/-
  Package reader: the map of the steps that are met; and which readers may be, in mathematics.
  Conditions: none.
-/
namespace Go.Proofs.YtdllhiihmpinoaaGreat
set_option maxRecDepth 100000
open Go.RowKit Go.Shelf Go.Maps

def I64 (x : Int) : Prop := -9223372036854775808 ≤ x ∧ x ≤ 9223372036854775807
theorem wfi {x : Int} (h : I64 x) : (Lit.int .i64 x).wf = true := by unfold I64 at h; simp [Lit.wf, IntKind.min, IntKind.max, IntKind.signed, IntKind.bits]; omega
theorem intKeyed : Keyed Tryz.prog 3 := int_keyed Tryz.underlying3
/-- The map that has just these keys. -/
def MapHas (W : World) (mb : Nat) (ks : List Int) : Prop := ∃ D : DataW Unit, W.ownsMap Tryz.prog 3 (plainElem Tryz.prog 3) mb ks.length D ∧ ∀ y : Int, Maps.has D (.int .i64 y) = decide (y ∈ ks)
theorem MapHas.new (W : World) : MapHas (W.alloc (.map #[] 0)) W.heap.size [] := ⟨.map [], World.ownsMap_made W _ _ _, fun y => by simp [Maps.has_eq]⟩
theorem MapHas.kept {W W' : World} {row : Option Nat} {mb : Nat} {ws : List Int} (h : MapHas W mb ws) (hg : W.grownBy W' row) (hne : some mb ≠ row) : MapHas W' mb ws := by
  obtain ⟨D, ho, hD⟩ := h
  exact ⟨D, ho.kept hg hne, hD⟩
theorem MapHas.lt {W : World} {mb : Nat} {ws : List Int} (h : MapHas W mb ws) : mb < W.heap.size := by
  obtain ⟨D, ho, _⟩ := h
  exact ho.lt
theorem MapHas.block {W : World} {mb : Nat} {ws : List Int} (h : MapHas W mb ws) : ∃ es ck, W.heap[mb]? = some (.map es ck) := by
  obtain ⟨D, ⟨es, ck, h1, _⟩, _⟩ := h
  exact ⟨es, ck, h1⟩
theorem MapHas.look {W : World} {mb : Nat} {ws : List Int} (h : MapHas W mb ws) (x : Int) (hx : I64 x) : ∃ c : Int, (Instr.lookup 130 (.map (some mb)) (.int .i64 x) true).run Tryz.prog W = .ok (.tuple #[.int .i64 c, .bool (decide (x ∈ ws))]) W := by
  obtain ⟨D, ho, hD⟩ := h
  obtain ⟨v, ps, hrun, hv⟩ := ho.look_ok intKeyed Tryz.underlying130 (z := .int .i64 0) (by kernel_rfl) (plainElem_int Tryz.underlying3 (by decide)) (keyOf_int_mk Tryz.underlying3 (wfi hx))
  obtain ⟨c, rfl, hc, hwc⟩ := plainElem_int_inv Tryz.underlying3 hv
  rw [hD] at hrun
  exact ⟨c, hrun⟩
theorem MapHas.one {W : World} {mb : Nat} {ws : List Int} (h : MapHas W mb ws) (x y : Int) (hx : I64 x) (hy : I64 y) (hn : ws.length < 1000000000) :
    ∃ W', (Instr.mapUpdate 130 (.map (some mb)) (.int .i64 x) (.int .i64 y)).run Tryz.prog W = .ok () W' ∧ MapHas W' mb (ws ++ [x]) ∧ W.grownBy W' (some mb) := by
  obtain ⟨D, ho, hD⟩ := h
  have hmap : IsMap D := ho.isMap
  have hkey := keyOf_int_mk (P := Tryz.prog) (k := 3) Tryz.underlying3 (wfi hx)
  obtain ⟨W', hrun, ho', hg⟩ := ho.update intKeyed Tryz.underlying130 (by unfold maxLen; omega) hkey (plainElem_int Tryz.underlying3 (wfi hy))
  refine ⟨W', hrun, ⟨_, by rw [List.length_append]; exact ho', fun z => ?_⟩, hg⟩
  by_cases hz : z = x
  · subst hz
    rw [has_put_same hmap (intKeyed.key hkey)]
    simp
  · rw [has_put_other (by intro e; injection e with _ e; exact hz e), hD]
    simp [hz]

def okOne (now : Int) (s : Int × Int) : Bool := decide (1 ≤ s.1) && decide (s.1 ≤ 8) && decide (1 ≤ s.2) && decide (s.2 ≤ now)
/-- May those be that are in a section? -/
def okS (now : Int) (l : List (Int × Int)) : Bool := l.all (okOne now) && decide ((l.map (·.2)).Nodup)
theorem okS_snoc (now : Int) (l : List (Int × Int)) (s : Int × Int) : okS now (l ++ [s]) = (okS now l && (okOne now s && decide (s.2 ∉ l.map (·.2)))) := by
  unfold okS
  rw [List.all_append, List.map_append, List.map_singleton]
  simp only [List.all_cons, List.all_nil, Bool.and_true]
  have e : decide ((l.map (·.2) ++ [s.2]).Nodup) = (decide ((l.map (·.2)).Nodup) && decide (s.2 ∉ l.map (·.2))) := by
    rw [Bool.eq_iff_iff]
    simp only [decide_eq_true_eq, Bool.and_eq_true, List.nodup_append]
    constructor
    · rintro ⟨h1, _, h2⟩
      exact ⟨h1, fun h => h2 _ h s.2 (by simp) rfl⟩
    · rintro ⟨h1, h2⟩
      exact ⟨h1, by simp, fun a ha b hb e => by rw [List.mem_singleton.1 hb] at e; exact h2 (e ▸ ha)⟩
  rw [e]
  cases l.all (okOne now) <;> cases okOne now s <;> cases decide ((l.map (·.2)).Nodup) <;> simp
theorem okS_pre (now : Int) : ∀ (m l : List (Int × Int)), okS now (l ++ m) = true → okS now l = true
  | [], l, h => by simpa using h
  | s :: m, l, h => by
    have h2 := okS_pre now m (l ++ [s]) (by simpa using h)
    rw [okS_snoc, Bool.and_eq_true] at h2
    exact h2.1
def mayB (now : Int) (ns os : List Int) : Bool := mayCpus ns.length && (decide (os.length = ns.length) && (decide (0 ≤ now) && (decide (now ≤ 2147483647) && okS now (secs (ns.zip os)))))

end Go.Proofs.YtdllhiihmpinoaaGreat
namespace Go.Proofs.YtdllhiihmpinoaaGreat
set_option maxRecDepth 100000
open Go.RowKit Go.Shelf Go.Maps
attribute [local go_sem] Oper.semAt_some

def wM (W : World) (now : Int) (u v : Value) : World := (((W.alloc (.cells #[.int .i64 now, u, v] 24)).alloc (.map #[] 0)).alloc (.cells #[.map (some (W.heap.size + 1))] 130)).alloc (.cells #[.bool true] 4)
theorem wM_facts (W : World) (now : Int) (u v : Value) : RBox (wM W now u v) W.heap.size now u v ∧ MapHas (wM W now u v) (W.heap.size + 1) [] ∧ Boxed (wM W now u v) (W.heap.size + 1 + 1) 130 (.map (some (W.heap.size + 1))) ∧ Boxed (wM W now u v) (W.heap.size + 1 + 1 + 1) 4 (.bool true) ∧ Below W.heap.size W (wM W now u v) ∧ (wM W now u v).heap.size = W.heap.size + 4 := by
  refine ⟨((((RBox.new W now u v).below (below1 _ _)).below (below1 _ _)).below (below1 _ _)), ?_, ?_, ?_, below4 _ _ _ _ _, by unfold wM; simp⟩
  · have := MapHas.new (W.alloc (.cells #[.int .i64 now, u, v] 24))
    rw [World.size_alloc] at this
    exact (this.kept (World.grownBy_alloc _ _ none) (by simp)).kept (World.grownBy_alloc _ _ none) (by simp)
  · have := (Boxed.new ((W.alloc (.cells #[.int .i64 now, u, v] 24)).alloc (.map #[] 0)) 130 (.map (some (W.heap.size + 1)))).alloc (.cells #[.bool true] 4)
    simpa [wM] using this
  · have := Boxed.new (((W.alloc (.cells #[.int .i64 now, u, v] 24)).alloc (.map #[] 0)).alloc (.cells #[.map (some (W.heap.size + 1))] 130)) 4 (.bool true)
    simpa [wM] using this

set_option maxHeartbeats 4000000 in
theorem may_no (now : Int) (p q : Option Addr) (k m c d : Nat) (W : World) (h : mayCpus k = false ∨ m ≠ k ∨ now < 0 ∨ 2147483647 < now) (hk : k ≤ 9223372036854775807) (_ : m ≤ 9223372036854775807) :
    Calls Tryz.prog 59 #[.agg #[.int .i64 now, .slice p k c, .slice q m d]] W fun e w' => e = .returned (.bool false) ∧ Below W.heap.size W w' := by
  have hc : mayCpus k = false ∨ (mayCpus k = true ∧ m ≠ k) ∨ (mayCpus k = true ∧ m = k ∧ now < 0) ∨ (mayCpus k = true ∧ m = k ∧ 0 ≤ now ∧ 2147483647 < now) := by
    cases hh : mayCpus k with
    | false => exact .inl rfl
    | true =>
      rw [hh] at h
      refine .inr ?_
      by_cases h1 : m = k
      · by_cases h2 : now < 0
        · exact .inr (.inl ⟨rfl, h1, h2⟩)
        · refine .inr (.inr ⟨rfl, h1, by omega, ?_⟩)
          rcases h with h | h | h | h
          · cases h
          · exact absurd h1 h
          · omega
          · exact h
      · exact .inl ⟨rfl, h1⟩
  clear h
  have HC := Lib.hid (fun (W : World) => mayBe_c (k : Int) W)
  rcases hc with h1 | ⟨h1, h2⟩ | ⟨h1, h2, h3⟩ | ⟨h1, h2, h3, h4⟩
  all_goals
    rw [h1] at HC
    clear h1
    try subst h2
    try (have h2' : ((m : Int) != (k : Int)) = true := by rw [bne_iff_ne]; omega)
    try clear h2
    go_enter Tryz.func59, Tryz.ntmps59
    go_wp2_with fail
    refine (wpIn_wide (n := 9)).1 (wpIn_scope ((wpIn_wide (n := 9)).2 ?_))
    go_wp2_with fail
    refine (HC.out _).mono ?_
    rintro e w1 ⟨rfl, rfl⟩
    go_wp2
    simp only [Exit.noGoto]
    go_ret
    exact ⟨rfl, below1 _ _⟩

theorem MapHas.grown_keeps {W W' : World} {m : Nat} {S : Nat → Prop} (hg : W.grownBy W' (some m)) (hm : S m) : KeepsCells S W W' := fun b o v hb h => by
  have hk : W'.heap[b]? = W.heap[b]? := hg.block b (World.block_lt_of_cell? W _ h) (fun e => by injection e with e; exact hb (e ▸ hm))
  simp only [World.cell?] at h ⊢
  rw [hk]
  exact h
/-- Between two rounds. -/
def MI (W : World) (now : Int) (u v : Value) (pre : List (Int × Int × Int)) (W' : World) : Prop :=
  RBox W' W.heap.size now u v ∧ MapHas W' (W.heap.size + 1) (pre.map (·.2.2)) ∧ Boxed W' (W.heap.size + 1 + 1) 130 (.map (some (W.heap.size + 1))) ∧ Boxed W' (W.heap.size + 1 + 1 + 1) 4 (.bool true) ∧ Below W.heap.size W W' ∧ okS now (pre.map (·.2)) = true
/-- Where a round has left. -/
def MX (W : World) (now : Int) (c : Code) (pre : List (Int × Int × Int)) (W' : World) : Prop :=
  c = .exit 0 ∧ Boxed W' (W.heap.size + 1 + 1 + 1) 4 (.bool false) ∧ Below W.heap.size W W' ∧ okS now (pre.map (·.2)) = false

theorem heap_own {X Y : World} {row : Option Nat} {k : Nat} {cs : Array Value} {T : TypeId} {f : Nat × Nat} (h : X.heap[k]? = some (.cells cs T f)) (hg : X.grownBy Y row) (hr : ∀ r, row = some r → ∃ o : Obj, X.heap[r]? = some o ∧ o.isCells = false) : Y.heap[k]? = some (.cells cs T f) :=
  (hg.block k (Array.getElem?_eq_some_iff.1 h).1 (fun e => by obtain ⟨o, ho, hc⟩ := hr k e.symm; rw [h] at ho; cases ho; cases hc)).trans h
theorem mi_own (W : World) (now : Int) (u v : Value) (z : Nat) (hz : W.heap.size + 5 ≤ z) : OwnFrom z (MI W now u v) := by
  rintro s X Y row ⟨h1, h2, h3, h4, h5, h6⟩ hg hr
  have hr' := fun r e => (hr r e).2
  exact ⟨heap_own h1 hg hr', h2.kept hg (fun e => by have := (hr _ e.symm).1; omega), heap_own h3 hg hr', heap_own h4 hg hr', h5.grown hg h5.size (fun k e => by have := (hr k e).1; omega), h6⟩
theorem mx_own (W : World) (now : Int) (z : Nat) (hz : W.heap.size + 5 ≤ z) (cc : Code) : OwnFrom z (MX W now cc) := by
  rintro s X Y row ⟨h1, h2, h3, h4⟩ hg hr
  have hr' := fun r e => (hr r e).2
  exact ⟨h1, heap_own h2 hg hr', h3.grown hg h3.size (fun k e => by have := (hr k e).1; omega), h4⟩

set_option maxHeartbeats 8000000 in
theorem may_yes (now : Int) (p q : Option Addr) (c d : Nat) (ns os : List Int) (W : World) (h1 : mayCpus ns.length = true) (h2 : os.length = ns.length) (h3 : 0 ≤ now) (h4 : now ≤ 2147483647)
    (hn : RowOut (fun _ => False) W p ns) (ho : RowOut (fun _ => False) W q os) (hr : ∀ x ∈ os, I64 x) :
    Calls Tryz.prog 59 #[.agg #[.int .i64 now, .slice p ns.length c, .slice q ns.length d]] W fun e w' => e = .returned (.bool (okS now (secs (ns.zip os)))) ∧ Below W.heap.size W w' := by
  have HF := Lib.hid (wM_facts W now (.slice p ns.length c) (.slice q ns.length d))
  obtain ⟨w0, hw0⟩ : ∃ X, X = wM W now (.slice p ns.length c) (.slice q ns.length d) := ⟨_, rfl⟩
  rw [← hw0] at HF
  unfold wM at hw0
  have hk8 : 1 ≤ ns.length ∧ ns.length ≤ 8 := by unfold mayCpus at h1; simp only [Bool.and_eq_true, decide_eq_true_eq] at h1; omega
  have HC := Lib.hid (fun (W : World) => mayBe_c (ns.length : Int) W)
  rw [h1] at HC
  have hl : ∀ {p : Option Addr} {fs : List Int}, RowOut (fun _ => False) W p fs → RowOut (fun k => k = W.heap.size + 1) w0 p fs := fun {p fs} hl hne => by
    obtain ⟨bb, off, e, -, hcs⟩ := hl hne
    obtain ⟨i0, hi0⟩ : ∃ i : Nat, i < fs.length := ⟨0, by cases fs with | nil => exact absurd rfl hne | cons _ _ => simp⟩
    have hlt := World.block_lt_of_cell? W _ (hcs i0 hi0)
    exact ⟨bb, off, e, (by simp only at hlt; omega), fun i hi => below_cell HF.out.2.2.2.2.1 (hcs i hi)⟩
  have HL := Lib.hid (And.intro (hl hn) (hl ho))
  have HR := Lib.hid hr
  have HLEN := Lib.hid h2
  obtain ⟨c0, c1, c2⟩ := HF.out.1.cells
  have hmm := @run_makeMap Tryz.prog
  have hq : ((ns.length : Int) != (ns.length : Int)) = false := by simp
  have hd1 : decide (now < 0) = false := by simp; omega
  have hd2 : decide (2147483647 < now) = false := by simp; omega
  clear h1 h2 hn ho hr hl
  refine (callsIn_wide (n := 9)).1 ?_
  refine callsIn_of_wp_marks Tryz.func59 rfl trivial ?_ rfl
  simp only [Tryz.ntmps59, List.size_toArray, List.length_cons, List.length_nil, Nat.reduceAdd, Nat.reduceSub, Array.replicate_succ, Array.replicate_zero, List.push_toArray, List.append_toArray, List.nil_append, List.cons_append]
  gi_wp2_with fail
  refine wpIn_scope ?_
  gi_wp2_with fail
  refine ⟨trivial, (callsIn_wide.2 (HC.out _)).mono ?_⟩
  rintro e w1 ⟨rfl, rfl⟩
  gi_wp2
  refine wpIn_label ?_
  rw [← hw0]
  clear hw0 hq hd1 hd2 hmm HC
  gi_wp2_with fail
  refine ⟨trivial, (callsIn_wide.2 (sections_c now _ _ w0)).mono ?_⟩
  rintro e w2 ⟨rfl, hw2⟩
  have hb12 : Below w0.heap.size w0 w2 := by rw [hw2]; exact below1 _ _
  have HPB := Lib.hid (show RBox w2 w0.heap.size now (.slice p ns.length c) (.slice q ns.length d) by rw [hw2]; exact RBox.new _ _ _ _)
  have HI0 := Lib.hid (show MI W now (.slice p ns.length c) (.slice q ns.length d) [] w2 from ⟨HF.out.1.below hb12, HF.out.2.1.kept (row := none) (by rw [hw2]; exact World.grownBy_alloc _ _ none) (by simp), (hb12.block _ HF.out.2.2.1.lt).trans HF.out.2.2.1, (hb12.block _ HF.out.2.2.2.1.lt).trans HF.out.2.2.2.1, below_then HF.out.2.2.2.2.1 HF.out.2.2.2.2.1.size hb12, rfl⟩)
  have HL2 := Lib.hid (And.intro (HL.out.1.below hb12) (HL.out.2.below hb12))
  have hz0 : w0.heap.size = W.heap.size + 4 := HF.out.2.2.2.2.2
  have hz2 : w2.heap.size = W.heap.size + 5 := by rw [hw2, World.size_alloc, hz0]
  have HZ0 := Lib.hid (And.intro hz0 hz2)
  clear hw2 hb12 c0 c1 c2 HL hz0 hz2
  gi_wp2
  have hMI := mi_own W now (.slice p ns.length c) (.slice q ns.length d) w2.heap.size (by have := HZ0.out; omega)
  refine wpIn_rangeDeep rfl (by omega) (gf := 128) (lb := #[.pointer (some ⟨w0.heap.size, 0, none⟩)]) rfl trivial (enters_of Tryz.func128 (by kernel_rfl) rfl)
    (sections_stops 8 (by omega) (fun k => k = W.heap.size + 1) w0.heap.size now p q c d ns os w2 (by have := HZ0.out; omega) HLEN.out (by omega) HPB.out HL2.out.1 HL2.out.2) (fun h k => h.trans k) (fun W l o o' _ => KeepsCells.turn _ W l o o') (Below.refl _ _) (fun _ => rfl)
    (MI W now (.slice p ns.length c) (.slice q ns.length d)) (MX W now) hMI (mx_own W now _ (by have := HZ0.out; omega)) HI0.out
    (fun x a' X => ∃ k, a' = { tmps := #[.agg #[.int .i64 now, .slice p ns.length c, .slice q ns.length d], .pointer (some ⟨W.heap.size, 0, none⟩), .bool false, .int .i64 (ns.length : Int), .pointer (some ⟨W.heap.size + 1 + 1, 0, none⟩), .pointer (some ⟨W.heap.size + 1 + 1 + 1, 0, none⟩), .int .i64 x.1, .pointer (some ⟨k, 0, none⟩), undef, undef, .pointer (some ⟨W.heap.size, 1, none⟩), .slice p ns.length c, .int .i64 (ns.length : Int), .int .i64 (ns.length : Int), .bool true, .bool false, .bool false, .pointer (some ⟨W.heap.size, 2, none⟩), .slice q ns.length d, .int .i64 (ns.length : Int), .int .i64 (ns.length : Int), .bool false, .bool false, .bool false, .pointer (some ⟨W.heap.size, 0, none⟩), .int .i64 now, .bool false, .bool false, .bool false, .pointer (some ⟨W.heap.size, 0, none⟩), .int .i64 now, .bool false, .bool false, .map (some (W.heap.size + 1)), .agg #[.int .i64 now, .slice p ns.length c, .slice q ns.length d], .func (.func 128) #[] #[.pointer (some ⟨w0.heap.size, 0, none⟩)], .int .i64 x.1, .agg #[.int .i64 x.2.1, .int .i64 x.2.2], undef, undef, undef, undef, undef, undef, undef, undef, undef, undef, undef, undef, undef, undef, undef, undef, undef, undef, undef, undef, undef, undef, undef, undef, undef, undef, undef, undef], defers := [] } ∧ X.heap[k]? = some (.cells #[.int .i64 x.2.1, .int .i64 x.2.2] 135 (0, 0)))
    ?hAx ?assign ?body ?done ?stop
  case hAx =>
    rintro x a' s X Y row ⟨k, ha, hc⟩ hg hr
    exact ⟨k, ha, heap_own hc hg (fun r e => (hr r e).2)⟩
  case assign =>
    rintro l' pre x X K hi hK
    have hi2 := hMI.alloc (.cells #[.int .i64 x.2.1, .int .i64 x.2.2] 135) hi
    clear hi
    gi_wp2
    exact hK _ _ (KeepsFrom.of_grownBy (World.grownBy_alloc _ _ none) (fun j e => by cases e)) (fun b o v _ h => below_cell (below1 _ _) h) hi2 ⟨_, rfl, World.alloc_heap_new _ _⟩
  case body =>
    rintro l' pre x a' X hl' _ hI ⟨k, rfl, hck⟩ hlen ⟨⟨j, hj⟩, hsm⟩
    obtain ⟨hi1, hi2, hi3, hi4, hi5, hi6⟩ := hI
    have hmem : x.2 ∈ secs ((ns.zip os).take j) := by rw [← hj]; simp
    have hox : I64 x.2.2 := HR.out _ (List.of_mem_zip (List.mem_of_mem_take (List.mem_filter.1 hmem).1)).2
    have hcx : I64 x.1 := by have := hsm x (by simp); unfold I64; omega
    obtain ⟨cc, hlook⟩ := hi2.look x.2.2 hox
    obtain ⟨X2, hupd, hm2, hg2⟩ := hi2.one x.2.2 x.1 hox hcx (by rw [List.length_map]; omega)
    obtain ⟨xc, xn, xo⟩ := x
    simp only at hlook hupd hm2 hck
    have hk0 : X.cell? ⟨k, 0, none⟩ = some (.int .i64 xn) := by simp [World.cell?, hck]
    have hk1 : X.cell? ⟨k, 1, none⟩ = some (.int .i64 xo) := by simp [World.cell?, hck]
    obtain ⟨d0, d1, d2⟩ := hi1.cells
    have e3 := hi3.cell
    have e4 := hi4.cell
    have f4 := hi4.frozen
    have HSN := Lib.hid (okS_snoc now (pre.map (·.2)) (xn, xo))
    have HEQ := Lib.hid (show (pre ++ [(xc, xn, xo)]).map (·.2) = pre.map (·.2) ++ [(xn, xo)] by simp)
    have HI5 := Lib.hid (show Below W.heap.size W (X.setCell ⟨W.heap.size + 1 + 1 + 1, 0, none⟩ (.bool false)) ∧ Boxed (X.setCell ⟨W.heap.size + 1 + 1 + 1, 0, none⟩ (.bool false)) (W.heap.size + 1 + 1 + 1) 4 (.bool false) from ⟨hi5.setCell (p := ⟨W.heap.size + 1 + 1 + 1, 0, none⟩) (by show W.heap.size ≤ W.heap.size + 1 + 1 + 1; omega) _, hi4.set _⟩)
    have HI2 := Lib.hid (show KeepsFrom w2.heap.size X X2 ∧ KeepsCells (fun k => k = W.heap.size + 1) X X2 ∧ (okS now ((pre ++ [(xc, xn, xo)]).map (·.2)) = true → MI W now (.slice p ns.length c) (.slice q ns.length d) (pre ++ [(xc, xn, xo)]) X2) from ⟨KeepsFrom.of_grownBy hg2 (fun j e => by cases e; have := HZ0.out; omega), MapHas.grown_keeps hg2 rfl, fun hok =>
      ⟨(hg2.block _ hi1.lt (by intro e; injection e with e; omega)).trans hi1, by simpa using hm2, (hg2.block _ hi3.lt (by intro e; injection e with e; omega)).trans hi3, (hg2.block _ hi4.lt (by intro e; injection e with e; omega)).trans hi4, hi5.grown hg2 hi5.size (fun k e => by cases e; omega), hok⟩⟩)
    have HI6 := Lib.hid hi6
    clear hi1 hi2 hi3 hi4 hi5 hi6 hm2 hg2 hck hmem hj hsm hox hcx hlen hMI HI0 HPB HL2
    by_cases hm : xo ∈ pre.map (·.2.2)
    · have HM := Lib.hid hm
      rw [decide_eq_true hm] at hlook
      clear hm
      gi_wp2
      refine ⟨(KeepsOthers.setCell _ _ _).from _, rfl, HI5.out.2, HI5.out.1, ?_⟩
      rw [HEQ.out, HSN.out, HI6.out, Bool.true_and, decide_eq_false (fun h => h (by simpa using HM.out)), Bool.and_false]
    · have HM := Lib.hid hm
      rw [decide_eq_false hm] at hlook
      clear hm
      by_cases c1 : xn < 1
      · gi_wp2
        refine ⟨(KeepsOthers.setCell _ _ _).from _, rfl, HI5.out.2, HI5.out.1, ?_⟩
        rw [HEQ.out, HSN.out, show okOne now (xn, xo) = false by unfold okOne; rw [decide_eq_false (show ¬ 1 ≤ (xn, xo).1 by simp only; omega)]; rfl]
        simp
      · by_cases c2 : 8 < xn
        · gi_wp2
          refine ⟨(KeepsOthers.setCell _ _ _).from _, rfl, HI5.out.2, HI5.out.1, ?_⟩
          rw [HEQ.out, HSN.out, show okOne now (xn, xo) = false by unfold okOne; rw [decide_eq_false (show ¬ (xn, xo).1 ≤ 8 by simp only; omega)]; simp]
          simp
        · by_cases c3 : xo < 1
          · gi_wp2
            refine ⟨(KeepsOthers.setCell _ _ _).from _, rfl, HI5.out.2, HI5.out.1, ?_⟩
            rw [HEQ.out, HSN.out, show okOne now (xn, xo) = false by unfold okOne; rw [decide_eq_false (show ¬ 1 ≤ (xn, xo).2 by simp only; omega)]; simp]
            simp
          · by_cases c4 : now < xo
            · gi_wp2
              refine ⟨(KeepsOthers.setCell _ _ _).from _, rfl, HI5.out.2, HI5.out.1, ?_⟩
              rw [HEQ.out, HSN.out, show okOne now (xn, xo) = false by unfold okOne; rw [decide_eq_false (show ¬ (xn, xo).2 ≤ now by simp only; omega)]; simp]
              simp
            · gi_wp2
              refine ⟨HI2.out.1, HI2.out.2.1, HI2.out.2.2 ?_⟩
              rw [HEQ.out, HSN.out, HI6.out, show okOne now (xn, xo) = true by unfold okOne; simp only [Bool.and_eq_true, decide_eq_true_eq]; omega, decide_eq_true (show (xn, xo).2 ∉ (pre.map (·.2)).map (·.2) from fun h => HM.out (by simpa using h))]
              rfl
  case done =>
    rintro D xs X hD ⟨hxs, -⟩ ⟨h1, h2, h3, h4, h5, h6⟩ hK
    rw [hxs] at h6
    have e4 := h4.cell
    have HB := Lib.hid h5
    have HW := Lib.hid (And.intro hD hK)
    have HR6 := Lib.hid h6
    have HSZ := Lib.hid (show W.heap.size ≤ w2.heap.size by have := HZ0.out; omega)
    clear h1 h2 h3 h4 h5 h6 hxs hMI HI0 HPB HL2 hD hK
    gi_wp2
    refine leaves_marks (B := W.heap.size) [D] _ ((Marks.nil _ _).cons (Nat.le_trans HSZ.out HW.out.1) (by simp) HW.out.2) fun X' hX' => ⟨_, results_tmp rfl _ _ _, ?_, HB.out.trans hX'⟩
    exact ret_bool HR6.out.symm
  case stop =>
    rintro D cc pre X hD ⟨⟨j, hj⟩, -⟩ ⟨rfl, h2, h3, h4⟩ hK
    have h5 : okS now (secs (ns.zip os)) = false := by
      cases hh : okS now (secs (ns.zip os)) with
      | false => rfl
      | true =>
        have e : secs (ns.zip os) = secs ((ns.zip os).take j) ++ secs ((ns.zip os).drop j) := by unfold secs; rw [← List.filter_append, List.take_append_drop]
        rw [e] at hh
        have := okS_pre now _ _ hh
        rw [← hj, h4] at this
        cases this
    have e4 := h2.cell
    have HB := Lib.hid h3
    have HW := Lib.hid (And.intro hD hK)
    have HR6 := Lib.hid h5
    have HSZ := Lib.hid (show W.heap.size ≤ w2.heap.size by have := HZ0.out; omega)
    clear h2 h3 h4 h5 hj hMI HI0 HPB HL2 hD hK
    gi_wp2
    refine leaves_marks (B := W.heap.size) [D] _ ((Marks.nil _ _).cons (Nat.le_trans HSZ.out HW.out.1) (by simp) HW.out.2) fun X' hX' => ⟨_, results_tmp rfl _ _ _, ?_, HB.out.trans hX'⟩
    exact ret_bool HR6.out.symm

/-- Which readers may be. -/
theorem may_c (now : Int) (u v : Value) (ns os : List Int) (W : World) (hn : NumsAt W .i64 u ns) (ho : NumsAt W .i64 v os) (h1 : ns.length ≤ 9223372036854775807) (h2 : os.length ≤ 9223372036854775807) (hr : ∀ x ∈ os, I64 x) :
    Calls Tryz.prog 59 #[.agg #[.int .i64 now, u, v]] W fun e w' => e = .returned (.bool (mayB now ns os)) ∧ Below W.heap.size W w' := by
  obtain ⟨p, c, rfl, hp⟩ := hn
  obtain ⟨q, d, rfl, hq⟩ := ho
  unfold mayB
  by_cases c1 : mayCpus ns.length = true
  · by_cases c2 : os.length = ns.length
    · by_cases c3 : 0 ≤ now
      · by_cases c4 : now ≤ 2147483647
        · rw [c1, decide_eq_true c2, decide_eq_true c3, decide_eq_true c4, Bool.true_and, Bool.true_and, Bool.true_and, Bool.true_and]
          have := may_yes now p q c d ns os W c1 c2 c3 c4 (fun hne => by obtain ⟨b, off, e, hc⟩ := hp hne; exact ⟨b, off, e, fun h => h, hc⟩) (fun hne => by obtain ⟨b, off, e, hc⟩ := hq hne; exact ⟨b, off, e, fun h => h, hc⟩) hr
          rwa [c2]
        · rw [decide_eq_false c4, Bool.false_and, Bool.and_false, Bool.and_false, Bool.and_false]
          exact may_no now p q _ _ c d W (.inr (.inr (.inr (by omega)))) h1 h2
      · rw [decide_eq_false c3, Bool.false_and, Bool.and_false, Bool.and_false]
        exact may_no now p q _ _ c d W (.inr (.inr (.inl (by omega)))) h1 h2
    · rw [decide_eq_false c2, Bool.false_and, Bool.and_false]
      exact may_no now p q _ _ c d W (.inr (.inl c2)) h1 h2
  · have c1' : mayCpus ns.length = false := by cases h : mayCpus ns.length <;> simp_all
    rw [c1', Bool.false_and]
    exact may_no now p q _ _ c d W (.inl c1') h1 h2

end Go.Proofs.YtdllhiihmpinoaaGreat
