/-
  Package queue: own; slices.Clone at callbacks; the closed form of a queue in memory of its own.
  Conditions: as each has them.
-/
import Derived.Test.YtdagcimkajmkaaaRows
import Derived.ProofKit
import Derived.OpenShut
import Derived.RangeFuncNested
import Derived.RangeFuncBound
import Derived.RangeFuncCalls
import Derived.RangeFuncLeaves
import Derived.Scope
import Derived.WalkKit
import Derived.Test.YtdagcimkajmkaaaProg
import Derived.Shelf.Abstract
import Derived.OwnWalk
import Derived.WalkSpells
import Derived.Laws.OwnMore
import Derived.Deep.Onto
import Derived.Lib.OwnKind
import Derived.Lib.Hide
import Derived.RangeFuncBox
import Derived.Deep.QuietTactic
import Derived.BigQuiet
import Derived.StillTail
import Derived.Deep.RegionHeld3
import Derived.Deep.AppendLies
import Derived.Shelf.RegionOpen
import Derived.OwnWalkIn
import Derived.TacticsInMore
import Derived.LoopNIn
import Derived.LoopIn
import Derived.Deep.RegionHeld
import Derived.OneCell
import Derived.Laws.CopyOwn
import Derived.BigRegion
import Derived.Deep.Cut
import Derived.Deep.CutBlock
import Derived.Laws.MakeOwn
/-
  From a walk to a row: where a law returned true and what was in memory stays, the row's word holds; for any number of arguments.
  Conditions: the arguments' types can be read whole.
-/
namespace Go.Proofs.Ytdagcimkajmkaaa
open Go.ChangeShapes Go.WideShapes Go.ChangeAt Go.RowKit

theorem own : ownKnob Try.prog.godebug = none := by kernel_rfl
theorem laidOut : laidOutB Try.prog = true := by kernel_rfl

theorem trodAll_stays {H : Type} {enc : TypeId × Value → H} {P : Program} (hl : laidOutB P = true) {W W' : World} (hb : Below W.heap.size W W') : ∀ {ts : List TypeId} {vs : List Value} {ds : List (DataW H)} {ps : List MemPlace},
    (ts.all fun t => P.readableRec t && decide (t < P.types.size)) = true → DataW.TrodAll enc P W 0 (fun _ => true) true ts vs ds ps → (∀ x ∈ ps, x.block < W.heap.size) → DataW.TrodAll enc P W' 0 (fun b => decide (b < W.heap.size)) true ts vs ds ps
  | [], [], [], _, _, h, _ => h
  | t :: ts, v :: vs, d :: ds, _, hr, ⟨p, q, h, hs, e⟩, hlt => by
    subst e
    simp only [List.all_cons, Bool.and_eq_true, decide_eq_true_eq] at hr
    exact ⟨p, q, Below.trod hl hr.1.1 hr.1.2 h hb (fun x hx => hlt x (List.mem_append_left _ hx)), trodAll_stays hl hb hr.2 hs (fun x hx => hlt x (List.mem_append_right _ hx)), rfl⟩

end Go.Proofs.Ytdagcimkajmkaaa
/-
  A range over a function value that has bound arguments ahead of yield (a method value) runs as one whose iterator has none: the law of a loop over such a value, for an outermost loop.
  Conditions: the loop stands in no round of another one; the iterator keeps the contract 'SeqBound' below.
-/
namespace Go.Proofs.Ytdagcimkajmkaaa
open Go.RowKit

/-- The iterator's contract, for a value with bound arguments bd and captured ones lb: it is called at bd, yield, lb. -/
def SeqBound {α : Type} (F : Fence) (n : Nat) (P : Program) (g : Nat) (bd lb : Array Value) (encs : α → Array Value) (Kp : World → World → Prop) (S Sp : List α → Prop) (N : Nat) (w : World) : Prop :=
  ∀ (l : Nat) (J Jx : List α → World → Prop) (W : World), Below w.heap.size w W → AbidesFrom W.heap.size J → AbidesFrom W.heap.size Jx →
    (∀ pre x W1, J pre W1 → pre.length < N → YieldAt F (n - 1) P l (encs x) W1 fun e W' =>
      (e = .returned (.bool true) ∧ J (pre ++ [x]) W' ∧ Kp W1 W') ∨ (e = .returned (.bool false) ∧ Jx (pre ++ [x]) W')) →
    J [] W →
    CallsIn F n P g (bd ++ #[.func (.yield l) #[] #[]] ++ lb) W fun e W' => (∃ v, e = .returned v) ∧ ((∃ xs, S xs ∧ J xs W') ∨ (∃ pre, Sp pre ∧ Jx pre W'))

/-- The two blocks that an outermost loop lays where a heap of z blocks ends: the one for the rounds' deferred calls, and behind it the loop's record. -/
def Books (z : Nat) (r : Loop) (W : World) : Prop := W.heap[z + 1]? = some (.loop r) ∧ W.heap[z]? = some (.deferred (some []))

theorem Books.lt {z : Nat} {r : Loop} {W : World} (h : Books z r W) : z + 1 < W.heap.size := (Array.getElem?_eq_some_iff.1 h.1).1
theorem Books.from {z : Nat} {r : Loop} {W W' : World} (h : Books z r W) (hk : KeepsFrom z W W') : Books z r W' :=
  ⟨hk.same _ _ (by omega) h.1 rfl, hk.same _ _ (Nat.le_refl _) h.2 rfl⟩
theorem Books.turn {z : Nat} {r r' : Loop} {W : World} (h : Books z r W) : Books z r' (W.putObj (z + 1) (.loop r')) :=
  ⟨World.putObj_heap_same h.lt, (World.putObj_heap_other (by omega)).trans h.2⟩

/-- THE LAW. I: what holds between two rounds; Ix: what holds where a round has left by a jump; Ax: what holds behind the assignment to the loop's variables. -/
theorem wpIn_rangeBound {α : Type} {F : Fence} {n : Nat} {P : Program} {w : World} {g : Operand} {ps : Array Tmp} {assign body : Code} {Q : Exit → Act → World → Prop} {a : Act}
    (hro : F.round = none) (h1 : 1 ≤ n) {gf : Nat} {bd lb : Array Value} (hg : a.eval g = .func (.func gf) bd lb) (hFg : F.fn gf) (eg : ∀ args w, (callFunc gf args).run P w = .ok (.enter gf args) w)
    {encs : α → Array Value} {Kp : World → World → Prop} {S Sp : List α → Prop} {N : Nat} {w0 : World} (hseq : SeqBound F (n - 1) P gf bd lb encs Kp S Sp N w0)
    (hKt : ∀ {A B C : World}, Kp A B → Kp B C → Kp A C) (hKb : ∀ (W : World) (l : Nat) (o o' : Obj), w.heap.size ≤ l → W.heap[l]? = some o → o.isCells = false → o.isWalk = false → Kp W (W.putObj l o')) (hb0 : Below w0.heap.size w0 w) (hps : ∀ x, (encs x).size = ps.size)
    (I : List α → World → Prop) (Ix : Code → List α → World → Prop) (hI : OwnFrom w.heap.size I) (hIx : ∀ c, OwnFrom w.heap.size (Ix c)) (h0 : I [] w) (Ax : α → Act → World → Prop) (hAx : ∀ x a', OwnFrom w.heap.size (fun (_ : Unit) W => Ax x a' W))
    (hassign : ∀ (l : Nat) (pre : List α) (x : α) (W : World) (K : Act → World → Prop), I pre W → (∀ a' W', KeepsFrom w.heap.size W W' → Kp W W' → I pre W' → Ax x a' W' → K a' W') →
      assign.wpIn (F.inRound l) (n - 1 - 1) P (Exit.then K (fun _ _ _ => False)) { tmps := (ps.zip (encs x)).foldl (fun t (p, v) => t.setIfInBounds p v) a.tmps, defers := [] } W)
    (hbody : ∀ (l : Nat) (pre : List α) (x : α) (a' : Act) (W : World), w.heap.size ≤ l → (∃ r, W.heap[l]? = some (.loop r)) → I pre W → Ax x a' W → pre.length < N → body.wpIn (F.inRound l) (n - 1 - 1) P (ownPostG w.heap.size Kp I Ix (pre ++ [x]) W) a' W)
    (hdone : ∀ (D : Nat) (xs : List α) (W : World), w.heap.size ≤ D → S xs → I xs W → W.heap[D]? = some (.deferred (some [])) → Q .normal { a with defers := { target := .collected D, args := #[] } :: a.defers } W)
    (hstop : ∀ (D : Nat) (c : Code) (pre : List α) (W : World), w.heap.size ≤ D → Sp pre → Ix c pre W → W.heap[D]? = some (.deferred (some [])) → c.wpIn F n P Q { a with defers := { target := .collected D, args := #[] } :: a.defers } W) :
    (Code.rangeFunc g ps assign body).wpIn F n P Q a w := by
  refine wpIn_rangeFunc fun fn hfn => ?_
  rw [hro]
  generalize hz : w.heap.size = z at *
  obtain ⟨rec, hrec⟩ : ∃ rec : LoopState → Option Code → Loop, ∀ st pe, rec st pe = { state := st, pending := pe, fn, tmps := a.tmps, params := ps, assign, body, defers := z } := ⟨fun st pe => _, fun _ _ => rfl⟩
  obtain ⟨W1, hW1⟩ : ∃ W1, W1 = (w.alloc (.deferred (some []))).alloc (.loop (rec .ready none)) := ⟨_, rfl⟩
  have hz1 : W1.heap.size = z + 2 := by rw [hW1]; simp [hz]
  have hB1 : Books z (rec .ready none) W1 := by
    rw [hW1]
    constructor
    · have := World.alloc_heap_new (w.alloc (.deferred (some []))) (.loop (rec .ready none))
      rwa [World.size_alloc, hz] at this
    · rw [← hz]; exact (Below.heap_alloc _ _ _ (by simp)).trans (World.alloc_heap_new w _)
  have hI1 : I [] W1 := by rw [hW1]; exact hI.alloc _ (hI.alloc _ h0)
  have hb1 : Below w0.heap.size w0 W1 := by
    rw [hW1]; exact hb0.trans ((((Below.refl _ w).alloc (Nat.le_refl _) _).alloc (by simp) _).mono hb0.size)
  have hwalk : ∀ {A : World} {row : Option Nat}, (∀ r, row = some r → W1.heap.size ≤ r ∧ ∃ o : Obj, A.heap[r]? = some o ∧ o.isWalk = true) → ∀ r, row = some r → z ≤ r ∧ ∃ o : Obj, A.heap[r]? = some o ∧ o.isCells = false :=
    fun hr r e => by obtain ⟨hB, o, ho, hw⟩ := hr r e; exact ⟨by omega, o, ho, Obj.not_cells_of_walk hw⟩
  have hbooks : ∀ {st : LoopState} {pe : Option Code} {A B : World} {row : Option Nat}, Books z (rec st pe) A → A.grownBy B row → (∀ r, row = some r → W1.heap.size ≤ r ∧ ∃ o : Obj, A.heap[r]? = some o ∧ o.isWalk = true) → Books z (rec st pe) B :=
    fun hs hg' hr => ⟨(grownBy_keeps hg' (fun r e => (hr r e).2) hs.1 rfl).trans hs.1, (grownBy_keeps hg' (fun r e => (hr r e).2) hs.2 rfl).trans hs.2⟩
  refine ⟨z + 1, [{ target := .collected z, args := #[] }], W1, { target := .fn (.func gf) lb, args := bd ++ #[.func (.yield (z + 1)) #[] #[]] }, W1, gf, bd ++ #[.func (.yield (z + 1)) #[] #[]] ++ lb, W1, ?_, ?_, ?_, ?_, fun _ => h1, ?_⟩
  · have := run_enterLoop_outer (P := P) (w := w) fn a.tmps ps assign body
    rw [hW1, hrec, ← hz]; exact this
  · simp only [resolve, hg]
    simp [go_sem]
  · intro f' hf'; simp [Target.leads] at hf'; subst hf'; exact hFg
  · simp only [invoke, eg]
  · refine (hseq (z + 1) (fun pre W => I pre W ∧ Books z (rec .ready none) W) (fun pre W => ∃ c, Ix c pre W ∧ Books z (rec .done (some c)) W) W1 hb1
      (fun s A B row hs hg' hr => ⟨hI s A B row hs.1 hg' (hwalk hr), hbooks hs.2 hg' hr⟩)
      (fun s A B row hs hg' hr => by
        obtain ⟨c, hc, hb⟩ := hs
        exact ⟨c, hIx c s A B row hc hg' (hwalk hr), hbooks hb hg' hr⟩)
      ?_ ⟨hI1, hB1⟩).mono ?_
    · rintro pre x W ⟨hi, hb⟩ hlen
      have hy := run_yield (P := P) (args := encs x) hb.1 (by rw [hrec]; exact hps x)
      rw [hrec] at hy
      refine ⟨fn, _, assign, body, hy, roundIn_of_wpIn hfn (hassign _ pre x W _ hi ?_)⟩
      clear hy
      intro a' Wa hkfa hkpa hia hax
      have hba := hb.from hkfa
      refine ⟨_, run_beginRound hba.1 (by rw [hrec]), ?_⟩
      have hb2 : Books z (rec .busy none) (Wa.putObj (z + 1) (.loop (rec .busy none))) := hba.turn
      have hw2 : Kp Wa (Wa.putObj (z + 1) (.loop (rec .busy none))) := hKb _ _ _ _ (by omega) hba.1 rfl rfl
      have hsame : ({ rec .ready none with state := .busy } : Loop) = rec .busy none := by rw [hrec, hrec]
      rw [hsame]
      refine wpIn_mono (hbody _ pre x a' _ (by omega) ⟨_, hb2.1⟩ (hI.putObj _ hia (by omega) hba.1 rfl) ((hAx x a').putObj (s := ()) _ hax (by omega) hba.1 rfl) hlen) ?_
      have fin : ∀ (jump : Option Code) (W3 : World), KeepsFrom z (Wa.putObj (z + 1) (.loop (rec .busy none))) W3 →
          (Instr.endRound (z + 1) jump).run P W3 = .ok (.bool jump.isNone) (W3.putObj (z + 1) (.loop (rec (if jump.isNone then .ready else .done) jump))) ∧
          Books z (rec .busy none) W3 ∧ Books z (rec (if jump.isNone then .ready else .done) jump) (W3.putObj (z + 1) (.loop (rec (if jump.isNone then .ready else .done) jump))) := fun jump W3 hk3 => by
        have hb3 := hb2.from hk3
        have := run_endRound (P := P) jump hb3.1
        rw [hrec] at this
        rw [hrec]
        exact ⟨this, hb3, by rw [← hrec]; exact hb3.turn⟩
      rintro e a3 W3 hp
      cases e with
      | normal =>
        obtain ⟨hk3, hkp3, hi3⟩ := hp
        obtain ⟨hr, hb3, hb4⟩ := fin none W3 hk3
        exact ⟨_, _, hr, .inl ⟨rfl, ⟨hI.putObj _ hi3 (by omega) hb3.1 rfl, hb4⟩, hKt hkpa (hKt (hKt hw2 hkp3) (hKb _ _ _ _ (by omega) hb3.1 rfl rfl))⟩⟩
      | ret =>
        obtain ⟨hk3, hi3⟩ := hp
        obtain ⟨hr, hb3, hb4⟩ := fin (some .ret) W3 hk3
        exact ⟨_, _, hr, .inr ⟨rfl, .ret, (hIx _).putObj _ hi3 (by omega) hb3.1 rfl, hb4⟩⟩
      | exit id =>
        obtain ⟨hk3, hi3⟩ := hp
        obtain ⟨hr, hb3, hb4⟩ := fin (some (.exit id)) W3 hk3
        exact ⟨_, _, hr, .inr ⟨rfl, .exit id, (hIx _).putObj _ hi3 (by omega) hb3.1 rfl, hb4⟩⟩
      | goto t =>
        obtain ⟨hk3, hi3⟩ := hp
        obtain ⟨hr, hb3, hb4⟩ := fin (some (.goto t)) W3 hk3
        exact ⟨_, _, hr, .inr ⟨rfl, .goto t, (hIx _).putObj _ hi3 (by omega) hb3.1 rfl, hb4⟩⟩
      | panic ch => exact hp.elim
      | outgrown => exact hp.elim
    · rintro e W2 ⟨⟨v, rfl⟩, (⟨xs, hS, hi, hb⟩ | ⟨pre, hSp, c, hi, hb⟩)⟩
      · refine ⟨none, _, by have := run_endLoop (P := P) hb.1 (by rw [hrec]; simp); rw [hrec] at this; exact this, ?_⟩
        exact hdone _ xs _ (by omega) hS (hI.putObj _ hi (by omega) hb.1 rfl) ((World.putObj_heap_other (by omega)).trans hb.2)
      · refine ⟨some c, _, by have := run_endLoop (P := P) hb.1 (by rw [hrec]; simp); rw [hrec] at this; exact this, ?_⟩
        exact hstop _ c pre _ (by omega) hSp ((hIx c).putObj _ hi (by omega) hb.1 rfl) ((World.putObj_heap_other (by omega)).trans hb.2)

/-- A scope through which the run goes without a goto, under a fence. -/
theorem wpIn_scope {F : Fence} {n : Nat} {P : Program} {c : Code} {Q : Exit → Act → World → Prop} {a : Act} {w : World} (h : c.wpIn F n P (Exit.noGoto Q) a w) : (Code.scope c).wpIn F n P Q a w := by
  intro b k cs hro hb hr
  have h0 : (lone (b.atR a (.code (.scope c) :: k)) cs w).fenced P F := fenced_calm hb hr rfl
  have s0 : step P (lone (b.atR a (.code (.scope c) :: k)) cs w) = .next (lone (b.atR a (.code c :: .inScope c :: k)) cs w) := step_lone_go (by simp [stepG, stepG.exec, Frame.atR])
  obtain ⟨e, a₁, w₁, hq, harr⟩ := h b (.inScope c :: k) cs hro hb hr
  cases e with
  | normal => exact ⟨.normal, a₁, w₁, hq, .head h0 s0 (StepsIn.trans harr (.one (fenced_calm hb hr rfl) (step_lone_go (by simp [stepG, stepG.exec, Frame.atR]))))⟩
  | exit id =>
    have hx : exitTo id (.inScope c :: k) = exitTo id k := by simp [exitTo]
    exact ⟨.exit id, a₁, w₁, hq, fun k' hk => .head h0 s0 (harr.1 k' (by rw [hx]; exact hk)),
      fun hr' hk => let ⟨k₁, h1, h2⟩ := harr.2 hr' (by rw [hx]; exact hk); ⟨k₁, h1, .head h0 s0 h2⟩⟩
  | goto l => exact hq.elim
  | ret => exact ⟨_, a₁, w₁, hq, .of_steps (.one h0 s0) harr⟩
  | panic ch => exact ⟨_, a₁, w₁, hq, .of_steps (.one h0 s0) harr⟩
  | outgrown => exact ⟨_, a₁, w₁, hq, .of_steps (.one h0 s0) harr⟩

/-- The marks that loops over functions have left among the deferred calls: the block of each, from B on, hands over nothing. -/
def Marks (B : Nat) (Ds : List Nat) (W : World) : Prop := Ds.Nodup ∧ ∀ D ∈ Ds, B ≤ D ∧ W.heap[D]? = some (.deferred (some []))
theorem Marks.nil (B : Nat) (W : World) : Marks B [] W := ⟨List.nodup_nil, fun _ h => by cases h⟩
theorem Marks.keeps {B : Nat} {Ds : List Nat} {W W' : World} (h : Marks B Ds W) (hk : KeepsOthers W W') : Marks B Ds W' := ⟨h.1, fun D hD => ⟨(h.2 D hD).1, hk.same _ _ (h.2 D hD).2 rfl⟩⟩
theorem Marks.below {B : Nat} {Ds : List Nat} {W W' : World} (h : Marks B Ds W) (hk : Below W.heap.size W W') : Marks B Ds W' :=
  ⟨h.1, fun D hD => ⟨(h.2 D hD).1, (hk.block D (Array.getElem?_eq_some_iff.1 (h.2 D hD).2).1).trans (h.2 D hD).2⟩⟩
theorem Marks.lt {B : Nat} {Ds : List Nat} {W : World} (h : Marks B Ds W) {D : Nat} (hD : D ∈ Ds) : D < W.heap.size := (Array.getElem?_eq_some_iff.1 (h.2 D hD).2).1
theorem Marks.cons {B : Nat} {Ds : List Nat} {W : World} (h : Marks B Ds W) {D : Nat} (hB : B ≤ D) (hne : D ∉ Ds) (hK : W.heap[D]? = some (.deferred (some []))) : Marks B (D :: Ds) W :=
  ⟨List.nodup_cons.2 ⟨hne, h.1⟩, fun E hE => by
    rcases List.mem_cons.1 hE with e | e
    · subst e; exact ⟨hB, hK⟩
    · exact h.2 E e⟩
/-- The marks abide a turn of a loop's own books, where the loop began behind them. -/
theorem marks_own {β : Type} {B z : Nat} {Ds : List Nat} (hz : ∀ D ∈ Ds, D < z) : OwnFrom z (fun (_ : β) W => Marks B Ds W) := fun _ _ _ row hs hg hr =>
  ⟨hs.1, fun D hD => ⟨(hs.2 D hD).1, (hg.block D (hs.lt hD) (fun e => by have := (hr D e.symm).1; have := hz D hD; omega)).trans (hs.2 D hD).2⟩⟩

def marksOf (Ds : List Nat) : List Deferred := Ds.map fun D => { target := .collected D, args := #[] }

/-- A function that has left such marks returns as one that has left none, but that their blocks are shut. -/
theorem leaves_marks {F : Fence} {n : Nat} {P : Program} {fn : Func} {tmps : Array Value} {R : Ending → World → Prop} {B : Nat} : ∀ (Ds : List Nat) (W : World), Marks B Ds W →
    (∀ W', Below B W W' → LeavesIn F n P fn tmps R [] .returning W') → LeavesInM F n P fn tmps R (marksOf Ds) .returning W
  | [], W, _, h => h W (Below.refl _ _)
  | D :: Ds, W, hm, h => by
    obtain ⟨hB, hK⟩ := hm.2 D List.mem_cons_self
    have hlt := hm.lt (D := D) List.mem_cons_self
    have hb : Below B W (W.putObj D (.deferred none)) := (Below.refl B W).grown (grownBy_putObj' W D _) (by omega) (fun k e => by cases e; exact hB)
    refine ⟨by simp, .inl ⟨D, _, rfl, run_takeDeferred hK, leaves_marks Ds _ ⟨(List.nodup_cons.1 hm.1).2, fun E hE => ?_⟩ fun W' hW' => h W' (hb.trans hW')⟩⟩
    have hne : E ≠ D := fun e => (List.nodup_cons.1 hm.1).1 (e ▸ hE)
    obtain ⟨h1, h2⟩ := hm.2 E (List.mem_cons_of_mem _ hE)
    exact ⟨h1, (World.putObj_heap_other hne).trans h2⟩

end Go.Proofs.Ytdagcimkajmkaaa
/-
  A range over an iterator that itself ranges over one: the iterator's contract, and the law of an outermost loop over it.
  Conditions: the loop stands in no round of another one; the iterator keeps the contract 'SeqDeep' below.
-/
namespace Go.Proofs.Ytdagcimkajmkaaa
open Go.RowKit

/-- The iterator's contract: what the caller says between rounds abides turns of records of loops that began behind the call; a round keeps such records. -/
def SeqDeep {α : Type} (F : Fence) (n : Nat) (P : Program) (g : Nat) (lb : Array Value) (encs : α → Array Value) (Kp : World → World → Prop) (S Sp : List α → Prop) (N : Nat) (w : World) : Prop :=
  ∀ (l : Nat) (J Jx : List α → World → Prop) (W : World), Below w.heap.size w W → OwnFrom W.heap.size J → OwnFrom W.heap.size Jx →
    (∀ pre x W1, J pre W1 → pre.length < N → Sp (pre ++ [x]) → YieldAt F (n - 1) P l (encs x) W1 fun e W' =>
      (e = .returned (.bool true) ∧ J (pre ++ [x]) W' ∧ Kp W1 W' ∧ KeepsFrom W.heap.size W1 W') ∨ (e = .returned (.bool false) ∧ Jx (pre ++ [x]) W' ∧ KeepsFrom W.heap.size W1 W')) →
    J [] W →
    CallsIn F n P g (#[.func (.yield l) #[] #[]] ++ lb) W fun e W' => (∃ v, e = .returned v) ∧ ((∃ xs, S xs ∧ J xs W') ∨ (∃ pre, Sp pre ∧ Jx pre W'))

/-- THE LAW. I: what holds between two rounds; Ix: what holds where a round has left by a jump; Ax: what holds behind the assignment to the loop's variables. -/
theorem wpIn_rangeDeep {α : Type} {F : Fence} {n : Nat} {P : Program} {w : World} {g : Operand} {ps : Array Tmp} {assign body : Code} {Q : Exit → Act → World → Prop} {a : Act}
    (hro : F.round = none) (h1 : 1 ≤ n) {gf : Nat} {lb : Array Value} (hg : a.eval g = .func (.func gf) #[] lb) (hFg : F.fn gf) (eg : ∀ args w, (callFunc gf args).run P w = .ok (.enter gf args) w)
    {encs : α → Array Value} {Kp : World → World → Prop} {S Sp : List α → Prop} {N : Nat} {w0 : World} (hseq : SeqDeep F (n - 1) P gf lb encs Kp S Sp N w0)
    (hKt : ∀ {A B C : World}, Kp A B → Kp B C → Kp A C) (hKb : ∀ (W : World) (l : Nat) (o o' : Obj), w.heap.size ≤ l → W.heap[l]? = some o → o.isCells = false → o.isWalk = false → Kp W (W.putObj l o')) (hb0 : Below w0.heap.size w0 w) (hps : ∀ x, (encs x).size = ps.size)
    (I : List α → World → Prop) (Ix : Code → List α → World → Prop) (hI : OwnFrom w.heap.size I) (hIx : ∀ c, OwnFrom w.heap.size (Ix c)) (h0 : I [] w) (Ax : α → Act → World → Prop) (hAx : ∀ x a', OwnFrom w.heap.size (fun (_ : Unit) W => Ax x a' W))
    (hassign : ∀ (l : Nat) (pre : List α) (x : α) (W : World) (K : Act → World → Prop), I pre W → (∀ a' W', KeepsFrom w.heap.size W W' → Kp W W' → I pre W' → Ax x a' W' → K a' W') →
      assign.wpIn (F.inRound l) (n - 1 - 1) P (Exit.then K (fun _ _ _ => False)) { tmps := (ps.zip (encs x)).foldl (fun t (p, v) => t.setIfInBounds p v) a.tmps, defers := [] } W)
    (hbody : ∀ (l : Nat) (pre : List α) (x : α) (a' : Act) (W : World), w.heap.size ≤ l → (∃ r, W.heap[l]? = some (.loop r)) → I pre W → Ax x a' W → pre.length < N → Sp (pre ++ [x]) → body.wpIn (F.inRound l) (n - 1 - 1) P (ownPostG w.heap.size Kp I Ix (pre ++ [x]) W) a' W)
    (hdone : ∀ (D : Nat) (xs : List α) (W : World), w.heap.size ≤ D → S xs → I xs W → W.heap[D]? = some (.deferred (some [])) → Q .normal { a with defers := { target := .collected D, args := #[] } :: a.defers } W)
    (hstop : ∀ (D : Nat) (c : Code) (pre : List α) (W : World), w.heap.size ≤ D → Sp pre → Ix c pre W → W.heap[D]? = some (.deferred (some [])) → c.wpIn F n P Q { a with defers := { target := .collected D, args := #[] } :: a.defers } W) :
    (Code.rangeFunc g ps assign body).wpIn F n P Q a w := by
  refine wpIn_rangeFunc fun fn hfn => ?_
  rw [hro]
  generalize hz : w.heap.size = z at *
  obtain ⟨rec, hrec⟩ : ∃ rec : LoopState → Option Code → Loop, ∀ st pe, rec st pe = { state := st, pending := pe, fn, tmps := a.tmps, params := ps, assign, body, defers := z } := ⟨fun st pe => _, fun _ _ => rfl⟩
  obtain ⟨W1, hW1⟩ : ∃ W1, W1 = (w.alloc (.deferred (some []))).alloc (.loop (rec .ready none)) := ⟨_, rfl⟩
  have hz1 : W1.heap.size = z + 2 := by rw [hW1]; simp [hz]
  have hB1 : Books z (rec .ready none) W1 := by
    rw [hW1]
    constructor
    · have := World.alloc_heap_new (w.alloc (.deferred (some []))) (.loop (rec .ready none))
      rwa [World.size_alloc, hz] at this
    · rw [← hz]; exact (Below.heap_alloc _ _ _ (by simp)).trans (World.alloc_heap_new w _)
  have hI1 : I [] W1 := by rw [hW1]; exact hI.alloc _ (hI.alloc _ h0)
  have hb1 : Below w0.heap.size w0 W1 := by
    rw [hW1]; exact hb0.trans ((((Below.refl _ w).alloc (Nat.le_refl _) _).alloc (by simp) _).mono hb0.size)
  have hup : ∀ {A : World} {row : Option Nat}, (∀ r, row = some r → W1.heap.size ≤ r ∧ ∃ o : Obj, A.heap[r]? = some o ∧ o.isCells = false) → ∀ r, row = some r → z ≤ r ∧ ∃ o : Obj, A.heap[r]? = some o ∧ o.isCells = false :=
    fun hr r e => ⟨by have := (hr r e).1; omega, (hr r e).2⟩
  have hbooks : ∀ {st : LoopState} {pe : Option Code} {A B : World} {row : Option Nat}, Books z (rec st pe) A → A.grownBy B row → (∀ r, row = some r → W1.heap.size ≤ r ∧ ∃ o : Obj, A.heap[r]? = some o ∧ o.isCells = false) → Books z (rec st pe) B :=
    fun hs hg' hr => ⟨(hg'.block (z + 1) hs.lt (fun e => by have := (hr _ e.symm).1; omega)).trans hs.1, (hg'.block z (by have := hs.lt; omega) (fun e => by have := (hr _ e.symm).1; omega)).trans hs.2⟩
  have hkf : ∀ {A B : World}, KeepsFrom z A B → KeepsFrom W1.heap.size A B := fun h => ⟨h.size, fun k o hk => h.same k o (by omega)⟩
  have hkp : ∀ (A : World) (o : Obj), KeepsFrom W1.heap.size A (A.putObj (z + 1) o) := fun A o => ⟨by simp, fun k o' hk h _ => (World.putObj_heap_other (by omega)).trans h⟩
  refine ⟨z + 1, [{ target := .collected z, args := #[] }], W1, { target := .fn (.func gf) lb, args := #[.func (.yield (z + 1)) #[] #[]] }, W1, gf, #[.func (.yield (z + 1)) #[] #[]] ++ lb, W1, ?_, ?_, ?_, ?_, fun _ => h1, ?_⟩
  · have := run_enterLoop_outer (P := P) (w := w) fn a.tmps ps assign body
    rw [hW1, hrec, ← hz]; exact this
  · simp only [resolve, hg]
    simp [go_sem]
  · intro f' hf'; simp [Target.leads] at hf'; subst hf'; exact hFg
  · simp only [invoke, eg]
  · refine (hseq (z + 1) (fun pre W => I pre W ∧ Books z (rec .ready none) W) (fun pre W => ∃ c, Ix c pre W ∧ Books z (rec .done (some c)) W) W1 hb1
      (fun s A B row hs hg' hr => ⟨hI s A B row hs.1 hg' (hup hr), hbooks hs.2 hg' hr⟩)
      (fun s A B row hs hg' hr => by
        obtain ⟨c, hc, hb⟩ := hs
        exact ⟨c, hIx c s A B row hc hg' (hup hr), hbooks hb hg' hr⟩)
      ?_ ⟨hI1, hB1⟩).mono ?_
    · rintro pre x W ⟨hi, hb⟩ hlen hsp
      have hy := run_yield (P := P) (args := encs x) hb.1 (by rw [hrec]; exact hps x)
      rw [hrec] at hy
      refine ⟨fn, _, assign, body, hy, roundIn_of_wpIn hfn (hassign _ pre x W _ hi ?_)⟩
      clear hy
      intro a' Wa hkfa hkpa hia hax
      have hba := hb.from hkfa
      refine ⟨_, run_beginRound hba.1 (by rw [hrec]), ?_⟩
      have hb2 : Books z (rec .busy none) (Wa.putObj (z + 1) (.loop (rec .busy none))) := hba.turn
      have hw2 : Kp Wa (Wa.putObj (z + 1) (.loop (rec .busy none))) := hKb _ _ _ _ (by omega) hba.1 rfl rfl
      have hsame : ({ rec .ready none with state := .busy } : Loop) = rec .busy none := by rw [hrec, hrec]
      rw [hsame]
      refine wpIn_mono (hbody _ pre x a' _ (by omega) ⟨_, hb2.1⟩ (hI.putObj _ hia (by omega) hba.1 rfl) ((hAx x a').putObj (s := ()) _ hax (by omega) hba.1 rfl) hlen hsp) ?_
      have fin : ∀ (jump : Option Code) (W3 : World), KeepsFrom z (Wa.putObj (z + 1) (.loop (rec .busy none))) W3 →
          (Instr.endRound (z + 1) jump).run P W3 = .ok (.bool jump.isNone) (W3.putObj (z + 1) (.loop (rec (if jump.isNone then .ready else .done) jump))) ∧
          Books z (rec .busy none) W3 ∧ Books z (rec (if jump.isNone then .ready else .done) jump) (W3.putObj (z + 1) (.loop (rec (if jump.isNone then .ready else .done) jump))) := fun jump W3 hk3 => by
        have hb3 := hb2.from hk3
        have := run_endRound (P := P) jump hb3.1
        rw [hrec] at this
        rw [hrec]
        exact ⟨this, hb3, by rw [← hrec]; exact hb3.turn⟩
      rintro e a3 W3 hp
      cases e with
      | normal =>
        obtain ⟨hk3, hkp3, hi3⟩ := hp
        obtain ⟨hr, hb3, hb4⟩ := fin none W3 hk3
        exact ⟨_, _, hr, .inl ⟨rfl, ⟨hI.putObj _ hi3 (by omega) hb3.1 rfl, hb4⟩, hKt hkpa (hKt (hKt hw2 hkp3) (hKb _ _ _ _ (by omega) hb3.1 rfl rfl)), (hkf hkfa).trans ((hkp _ _).trans ((hkf hk3).trans (hkp _ _)))⟩⟩
      | ret =>
        obtain ⟨hk3, hi3⟩ := hp
        obtain ⟨hr, hb3, hb4⟩ := fin (some .ret) W3 hk3
        exact ⟨_, _, hr, .inr ⟨rfl, ⟨.ret, (hIx _).putObj _ hi3 (by omega) hb3.1 rfl, hb4⟩, (hkf hkfa).trans ((hkp _ _).trans ((hkf hk3).trans (hkp _ _)))⟩⟩
      | exit id =>
        obtain ⟨hk3, hi3⟩ := hp
        obtain ⟨hr, hb3, hb4⟩ := fin (some (.exit id)) W3 hk3
        exact ⟨_, _, hr, .inr ⟨rfl, ⟨.exit id, (hIx _).putObj _ hi3 (by omega) hb3.1 rfl, hb4⟩, (hkf hkfa).trans ((hkp _ _).trans ((hkf hk3).trans (hkp _ _)))⟩⟩
      | goto t =>
        obtain ⟨hk3, hi3⟩ := hp
        obtain ⟨hr, hb3, hb4⟩ := fin (some (.goto t)) W3 hk3
        exact ⟨_, _, hr, .inr ⟨rfl, ⟨.goto t, (hIx _).putObj _ hi3 (by omega) hb3.1 rfl, hb4⟩, (hkf hkfa).trans ((hkp _ _).trans ((hkf hk3).trans (hkp _ _)))⟩⟩
      | panic ch => exact hp.elim
      | outgrown => exact hp.elim
    · rintro e W2 ⟨⟨v, rfl⟩, (⟨xs, hS, hi, hb⟩ | ⟨pre, hSp, c, hi, hb⟩)⟩
      · refine ⟨none, _, by have := run_endLoop (P := P) hb.1 (by rw [hrec]; simp); rw [hrec] at this; exact this, ?_⟩
        exact hdone _ xs _ (by omega) hS (hI.putObj _ hi (by omega) hb.1 rfl) ((World.putObj_heap_other (by omega)).trans hb.2)
      · refine ⟨some c, _, by have := run_endLoop (P := P) hb.1 (by rw [hrec]; simp); rw [hrec] at this; exact this, ?_⟩
        exact hstop _ c pre _ (by omega) hSp ((hIx c).putObj _ hi (by omega) hb.1 rfl) ((World.putObj_heap_other (by omega)).trans hb.2)


/-- A round within another loop's round. -/
theorem yield_within {F : Fence} (hd : F.depth = none) {m : Nat} (m' l' : Nat) {P : Program} {l : Nat} {args : Array Value} {W : World} {R : Ending → World → Prop} (h : YieldAt F m P l args W R) : YieldAt (F.inRound l') m' P l args W R := by
  obtain ⟨fn, tmps, assign, body, hy, hR⟩ := h
  exact ⟨fn, tmps, assign, body, hy, hR.1, fun c cs _ => hR.2 c cs (fun d e => by rw [hd] at e; cases e)⟩
end Go.Proofs.Ytdagcimkajmkaaa
/-
  What it is for a slice to read as numbers of one kind.
  Conditions: none.
-/
namespace Go.Proofs.Ytdagcimkajmkaaa

/-- A slice that reads as these numbers of one kind. -/
def NumsAt (W : World) (k : IntKind) (v : Value) (ns : List Int) : Prop := ∃ p cap, v = .slice p ns.length cap ∧
  (ns ≠ [] → ∃ b off, p = some ⟨b, off, none⟩ ∧ ∀ i (h : i < ns.length), W.cell? ⟨b, off + i, none⟩ = some (.int k ns[i]))

end Go.Proofs.Ytdagcimkajmkaaa
/-
  Words of worlds, rows and slices, for the walks of any layer: what a call keeps, and how slices of numbers read.
  Conditions: as each has them.
-/
namespace Go.Proofs.Ytdagcimkajmkaaa
open Go.RowKit Go.Shelf

theorem ret_bool {a b : Bool} (h : a = b) : Ending.returned (.bool a) = .returned (.bool b) := by rw [h]
theorem ret_int {k : IntKind} {a b : Int} (h : a = b) : Ending.returned (.int k a) = .returned (.int k b) := by rw [h]
theorem below_cell {W W' : World} {p : Addr} {v : Value} (hb : Below W.heap.size W W') (h : W.cell? p = some v) : W'.cell? p = some v := (hb.cell (World.block_lt_of_cell? W _ h)).trans h
theorem below_then {B : Nat} {X Y Z : World} (h : Below B X Y) (hB : B ≤ Y.heap.size) (k : Below Y.heap.size Y Z) : Below B X Z := h.trans (k.mono hB)
theorem below_drewN {B : Nat} {X w : World} (h : Below B X w) (n : Nat) : Below B X (w.drewN n) := ⟨h.os, h.tape, h.output, h.size, h.block⟩
theorem addr_add_off (b off i : Nat) : (⟨b, off, none⟩ : Addr).add i = ⟨b, off + i, none⟩ := by unfold Addr.add; split <;> simp_all
theorem below_grown {W w1 w2 : World} {r : Option Nat} (h1 : Below W.heap.size W w1) (hg : w1.grownBy w2 r) (hr : ∀ k, r = some k → W.heap.size ≤ k) : Below W.heap.size W w2 := h1.grown hg h1.size hr
/-- A slice value of n elements, size cells each, that reads as these cells. -/
def ValsAt (W : World) (v : Value) (size n : Nat) (xs : List Value) : Prop := xs.length = n * size ∧ ∃ p cap, v = .slice p n cap ∧
  ((p = none ∧ n = 0 ∧ cap = 0) ∨ ∃ a : Addr, p = some a ∧ ∀ j u, xs[j]? = some u → W.cell? (a.add j) = some u)
/-- A slice value of new memory that reads as these cells. -/
def OwnsNew (B : Nat) (E : TypeId) (size n : Nat) (xs : List Value) (e : Ending) (w' : World) : Prop := ∃ v', e = .returned v' ∧ w'.ownsRow B E size v' n xs

theorem nums_below {W W' : World} {k : IntKind} {v : Value} {ns : List Int} (h : NumsAt W k v ns) (hb : Below W.heap.size W W') : NumsAt W' k v ns := by
  obtain ⟨p, cap, rfl, hc⟩ := h
  refine ⟨p, cap, rfl, fun hne => ?_⟩
  obtain ⟨b, off, rfl, hcs⟩ := hc hne
  exact ⟨b, off, rfl, fun i hi => below_cell hb (hcs i hi)⟩
theorem nums_of_owns {B : Nat} {E : TypeId} {W : World} {v : Value} {k : IntKind} {ns : List Int} {n : Nat} (hl : ns.length = n) (h : W.ownsRow B E 1 v n (ns.map (Value.int k))) : NumsAt W k v ns := by
  subst hl
  rcases h.2 with ⟨rfl, h0⟩ | ⟨g, cap, cur, rfl, _⟩
  · obtain rfl : ns = [] := List.eq_nil_of_length_eq_zero h0
    exact ⟨none, 0, rfl, fun h => absurd rfl h⟩
  · refine ⟨_, _, rfl, fun _ => ⟨g, 0, rfl, fun i hi => ?_⟩⟩
    have h1 := h.cellAt i (by omega)
    rw [List.getElem?_eq_getElem (by simpa using hi)] at h1
    simpa using h1
/-- A world that is as another one was, but for what the blocks of S hold, and for new blocks. -/
structure Keeps (S : Nat → Prop) (w w' : World) : Prop where
  os : w'.os = w.os
  tape : w'.tape = w.tape
  output : w'.output = w.output
  size : w.heap.size ≤ w'.heap.size
  block : ∀ k, k < w.heap.size → ¬ S k → w'.heap[k]? = w.heap[k]?

theorem Keeps.refl (S : Nat → Prop) (w : World) : Keeps S w w := ⟨rfl, rfl, rfl, Nat.le_refl _, fun _ _ _ => rfl⟩
theorem Keeps.trans {S : Nat → Prop} {a b c : World} (h : Keeps S a b) (k : Keeps S b c) : Keeps S a c :=
  ⟨k.os.trans h.os, k.tape.trans h.tape, k.output.trans h.output, Nat.le_trans h.size k.size, fun i hi hs => (k.block i (Nat.lt_of_lt_of_le hi h.size) hs).trans (h.block i hi hs)⟩
theorem Keeps.sub {S T : Nat → Prop} {a b : World} (h : Keeps S a b) (hST : ∀ k, k < a.heap.size → S k → T k) : Keeps T a b :=
  ⟨h.os, h.tape, h.output, h.size, fun i hi hs => h.block i hi fun hS => hs (hST i hi hS)⟩
theorem Keeps.of_below {S : Nat → Prop} {a b : World} (h : Below a.heap.size a b) : Keeps S a b := ⟨h.os, h.tape, h.output, h.size, fun i hi _ => h.block i hi⟩
theorem Keeps.below {S : Nat → Prop} {a b : World} {B : Nat} (h : Keeps S a b) (hB : B ≤ a.heap.size) (hS : ∀ k, S k → B ≤ k) : Below B a b :=
  ⟨h.os, h.tape, h.output, h.size, fun i hi => h.block i (Nat.lt_of_lt_of_le hi hB) fun hs => absurd (hS i hs) (by omega)⟩
theorem Keeps.alloc (S : Nat → Prop) (w : World) (o : Obj) : Keeps S w (w.alloc o) := ⟨rfl, rfl, rfl, by simp, fun k hk _ => Below.heap_alloc _ _ _ hk⟩
theorem Keeps.setCell {S : Nat → Prop} (w : World) {p : Addr} (hp : S p.block) (u : Value) : Keeps S w (w.setCell p u) :=
  ⟨rfl, rfl, rfl, by simp [World.setCell], fun k _ hk => Below.heap_setCell _ _ _ _ fun e => hk (e ▸ hp)⟩
theorem Keeps.drewN {S : Nat → Prop} {a b : World} (h : Keeps S a b) (n : Nat) : Keeps S a (b.drewN n) := ⟨h.os, h.tape, h.output, h.size, h.block⟩
theorem Keeps.cell {S : Nat → Prop} {a b : World} (h : Keeps S a b) {p : Addr} {v : Value} (hc : a.cell? p = some v) (hp : ¬ S p.block) : b.cell? p = some v :=
  (World.cell?_of_block (w := a) (h.block p.block (World.block_lt_of_cell? a _ hc) hp)).trans hc
theorem Keeps.frozen {S : Nat → Prop} {a b : World} (h : Keeps S a b) {p : Addr} (hp : p.block < a.heap.size) (hS : ¬ S p.block) : b.frozen? p = a.frozen? p :=
  World.frozen?_of_block (w := a) (h.block p.block hp hS)
theorem Keeps.row {S : Nat → Prop} {a b : World} (h : Keeps S a b) {B : Nat} {E : TypeId} {size : Nat} {v : Value} {n : Nat} {xs : List Value} (hr : a.ownsRow B E size v n xs) (hv : ∀ g, v.ownBlock = some g → ¬ S g) : b.ownsRow B E size v n xs := by
  refine ⟨hr.1, ?_⟩
  rcases hr.2 with h' | ⟨g, cap, cur, rfl, h2, h3, h4⟩
  · exact .inl h'
  · exact .inr ⟨g, cap, cur, rfl, h2, (h.block g (Array.getElem?_eq_some_iff.1 h3).1 (hv g rfl)).trans h3, h4⟩
theorem owns_below {B : Nat} {E : TypeId} {size : Nat} {v : Value} {n : Nat} {xs : List Value} {X Y : World} (h : X.ownsRow B E size v n xs) (hb : Below X.heap.size X Y) : Y.ownsRow B E size v n xs :=
  (Keeps.of_below (S := fun _ => False) hb).row h fun _ _ h => h
/-- Rows of other kinds lie in other blocks. -/
theorem owns_ne {W : World} {B B' : Nat} {E E' : TypeId} {s s' n n' : Nat} {v v' : Value} {xs xs' : List Value} (h : W.ownsRow B E s v n xs) (h' : W.ownsRow B' E' s' v' n' xs') (hE : E ≠ E') {g g' : Nat} (hg : v.ownBlock = some g) (hg' : v'.ownBlock = some g') : g ≠ g' := by
  rintro rfl
  obtain ⟨c, f, h1⟩ := Lib.ownsRow_kind h g hg
  obtain ⟨c', f', h2⟩ := Lib.ownsRow_kind h' g hg'
  rw [h1] at h2
  simp at h2
  exact hE h2.2.1

theorem below_frozen {W W' : World} {p : Addr} {v : Value} (hb : Below W.heap.size W W') (h : W.cell? p = some v) (hf : W.frozen? p = false) : W'.frozen? p = false := (hb.frozen (World.block_lt_of_cell? W _ h)).trans hf

/-- A slice reads so before it is written, and behind writes elsewhere. -/
theorem nums_keeps {S : Nat → Prop} {W W' : World} {k : IntKind} {p : Option Addr} {n c : Nat} {ns : List Int} (h : NumsAt W k (.slice p n c) ns) (hk : Keeps S W W') (hS : ∀ a, p = some a → ¬ S a.block) : NumsAt W' k (.slice p n c) ns := by
  obtain ⟨q, cap, e, hc⟩ := h
  injection e with e1 e2 e3
  subst e1
  refine ⟨p, cap, by rw [e2, e3], fun hne => ?_⟩
  obtain ⟨b, off, rfl, hcs⟩ := hc hne
  exact ⟨b, off, rfl, fun i hi => hk.cell (hcs i hi) (show ¬ S b from hS ⟨b, off, none⟩ rfl)⟩
theorem nums_len {W : World} {k : IntKind} {p : Option Addr} {n c : Nat} {ns : List Int} (h : NumsAt W k (.slice p n c) ns) : n = ns.length := by
  obtain ⟨q, cap, e, _⟩ := h
  injection e
/-- A block whole as numbers reads as they. -/
theorem nums_block {W : World} {k : IntKind} {b n c : Nat} {T : TypeId} {xs : List Int} (h : W.heap[b]? = some (.cells (xs.map (Value.int k)).toArray T (0, 0))) (hn : n ≤ xs.length) : NumsAt W k (.slice (some ⟨b, 0, none⟩) n c) (xs.take n) := by
  have hl : (xs.take n).length = n := by rw [List.length_take]; omega
  refine ⟨_, c, by rw [hl], fun _ => ⟨b, 0, rfl, fun i hi => ?_⟩⟩
  have hi2 : i < xs.length := by omega
  simp [World.cell?, h, hi2]
theorem block_cell {W : World} {k : IntKind} {b : Nat} {T : TypeId} {xs : List Int} (h : W.heap[b]? = some (.cells (xs.map (Value.int k)).toArray T (0, 0))) (i : Nat) (hi : i < xs.length) : W.cell? ⟨b, i, none⟩ = some (.int k xs[i]) := by simp [World.cell?, h, hi]
theorem block_free {W : World} {k : IntKind} {b : Nat} {T : TypeId} {xs : List Int} (h : W.heap[b]? = some (.cells (xs.map (Value.int k)).toArray T (0, 0))) (i : Nat) : W.frozen? ⟨b, i, none⟩ = false := by simp [World.frozen?, h]
theorem block_set {W : World} {k : IntKind} {b : Nat} {T : TypeId} {xs : List Int} (h : W.heap[b]? = some (.cells (xs.map (Value.int k)).toArray T (0, 0))) (i : Nat) (x : Int) : (W.setCell ⟨b, i, none⟩ (.int k x)).heap[b]? = some (.cells ((xs.set i x).map (Value.int k)).toArray T (0, 0)) := by
  rw [heap_setCell_same W b i _ _ (.int k x) h]
  simp [List.map_set]

end Go.Proofs.Ytdagcimkajmkaaa
/-
  A region that draws its order, loads cells, and at its end writes over them: what holds throughout (T), and what holds till the first of its last operations (S).
  Conditions: each of the last operations waits for each load of a cell that they write over.
-/
namespace Go.Proofs.Ytdagcimkajmkaaa
open Go

section
variable {P : Program} {ops : Array Oper} {Q : Exit → Act → World → Prop} {md : Region.Mode} {T S : World → Prop} {late : Nat → Bool}

/-- Behind operation i, which was carried out in the world w. -/
def Kept (T S : World → Prop) (late : Nat → Bool) (i : Nat) (w w' : World) : Prop := T w' ∧ (late i = false → S w → S w')
/-- Whatever is picked from here on; behind each operation its word is kept. -/
def wpTwo (P : Program) (md : Region.Mode) (ops : Array Oper) (Q : Exit → Act → World → Prop) (T S : World → Prop) (late : Nat → Bool) : Nat → Array Bool → Act → World → Prop
  | 0, did, a, w => Region.ready md ops did = [] ∧ Q .normal a w
  | n + 1, did, a, w => (Region.ready md ops did = [] → Q .normal a w) ∧
      ∀ i ∈ Region.ready md ops did, wpOp P ops Q i (fun a' w' => Kept T S late i w w' ∧ wpTwo P md ops Q T S late n (did.setIfInBounds i true) a' w') a w
theorem wpTwo_any : ∀ (n : Nat) (did : Array Bool) (a : Act) (w : World), wpTwo P md ops Q T S late n did a w → wpAny P md ops Q n did a w
  | 0, _, _, _, h => h
  | n + 1, _, _, _, h => ⟨h.1, fun i hi => wpOp_mono (fun _ _ hx => wpTwo_any n _ _ _ hx.2) (h.2 i hi)⟩
theorem wpTwo_begin {id : Nat} {a : Act} {w : World} (hm : P.follows .mixedOrders = true) (h : wpTwo P .any ops Q T S late ops.size (Array.replicate ops.size false) a w.drew) : (Code.region id ops true).wp P Q a w :=
  wp_region_any hm (wpTwo_any _ _ _ _ h)
theorem wpTwo_end {did : Array Bool} {a : Act} {w : World} (hr : Region.ready md ops did = []) (h : Q .normal a w) : ∀ n, wpTwo P md ops Q T S late n did a w
  | 0 => ⟨hr, h⟩
  | _ + 1 => ⟨fun _ => h, fun i hi => by rw [hr] at hi; cases hi⟩

/-- An operation that is ready, and yields v in each world that meets R, may be the next: if R is kept by each one that does not wait for it. -/
theorem wpTwo_next {R : World → Prop} {i : Nat} {oi : Oper} {v : Value} (hi : ops[i]? = some oi) (hs : Region.noSelect ops = true)
    (hQ : ∀ c a w, Q (.panic c) (a.put oi.dst v) w → Q (.panic c) a w) (hT : ∀ w, R w → T w)
    (hR : ∀ j oj, ops[j]? = some oj → (∀ e ∈ oj.after, Region.binds md e = true → e.on ≠ i) → ∀ w w', R w → Kept T S late j w w' → R w') (n : Nat) :
    ∀ (did : Array Bool) (a : Act) (w : World), (∀ j oj, ops[j]? = some oj → j ≠ i → did.getD j true = false → (∀ e ∈ oj.after, Region.binds md e = true → e.on ≠ i) → oi.apart ops oj = true) →
      i ∈ Region.ready md ops did → YieldsIf P ops R oi v a → R w → wpTwo P md ops Q T S late n (did.setIfInBounds i true) (a.put oi.dst v) w → wpTwo P md ops Q T S late (n + 1) did a w := by
  have hsel := Region.noSelect_spec hs
  -- the operation itself, where it is picked
  have self : ∀ (n : Nat) (did : Array Bool) (a : Act) (w : World), YieldsIf P ops R oi v a → R w → wpTwo P md ops Q T S late n (did.setIfInBounds i true) (a.put oi.dst v) w →
      wpOp P ops Q i (fun a' w' => Kept T S late i w w' ∧ wpTwo P md ops Q T S late n (did.setIfInBounds i true) a' w') a w :=
    fun _ _ _ w hy hw h => hy.wpOp hi hw ⟨⟨hT w hw, fun _ => id⟩, h⟩
  induction n with
  | zero =>
    intro did a w _ hr hy hw h
    refine ⟨fun e => (List.ne_nil_of_mem hr e).elim, fun j hj => ?_⟩
    by_cases e : j = i
    · subst e; exact self _ _ _ _ hy hw h
    · have := ready_mono hj e
      rw [h.1] at this
      cases this
  | succ n ih =>
    intro did a w hfree hr hy hw h
    refine ⟨fun e => (List.ne_nil_of_mem hr e).elim, fun j hj => ?_⟩
    by_cases e : j = i
    · subst e; exact self _ _ _ _ hy hw h
    · obtain ⟨hun, oj, hoj, hall⟩ := mem_ready.1 hj
      have hiun := (mem_ready.1 hr).1
      have hno : ∀ x ∈ oj.after, Region.binds md x = true → x.on ≠ i := fun x hx hb hxi => by
        have h1 := hall x hx hb
        rw [hxi, getD_both hiun] at h1
        cases h1
      refine wpOp_mono (fun a' w' hx => ⟨hx.2.1, ih (did.setIfInBounds j true) a' w' (fun k ok hk hki hkun hkno => hfree k ok hk hki (by
        by_cases hjk : j = k
        · subst hjk; exact hun
        · rwa [getD_set_ne true hjk] at hkun) hkno) (ready_mono hr (Ne.symm e)) hx.1 (hR j oj hoj hno w w' hw hx.2.1) ?_⟩) (wpOp_putIf hoj (hfree j oj hoj e hun hno) (fun cs b => hsel i oi cs b hi) (fun cs b => hsel j oj cs b hoj) hQ hy (h.2 j (ready_mono hj e)))
      rw [Array.setIfInBounds_comm _ _ e]
      exact hx.2.2

/-- Taken by what holds throughout. -/
theorem wpTwo_takeT {i : Nat} {oi : Oper} {v : Value} {n : Nat} {did : Array Bool} {a : Act} {w : World} (hi : ops[i]? = some oi) (hs : Region.noSelect ops = true) (hf : Region.free md ops did i = true)
    (hr : (Region.ready md ops did).contains i = true) (hQ : ∀ c a w, Q (.panic c) (a.put oi.dst v) w → Q (.panic c) a w)
    (hy : Region.wanted oi (yielded ops a.tmps) = true ∧ ∀ w, T w → (execOp a.eval oi).run P w = .ok (.value v) w) (hw : T w)
    (h : wpTwo P md ops Q T S late n (did.setIfInBounds i true) (a.put oi.dst v) w) : wpTwo P md ops Q T S late (n + 1) did a w :=
  wpTwo_next (R := T) hi hs hQ (fun _ h => h) (fun _ _ _ _ _ _ _ hk => hk.1) n did a w (Region.free_spec hi hf) (by simpa using hr) (.inl hy) hw h
/-- Taken by what holds till the last ones begin: they wait for it. -/
theorem wpTwo_takeS {i : Nat} {oi : Oper} {v : Value} {n : Nat} {did : Array Bool} {a : Act} {w : World} (hl : ∀ j, late j = true → Region.waitsFor md ops j i = true) (hi : ops[i]? = some oi) (hs : Region.noSelect ops = true) (hf : Region.free md ops did i = true)
    (hr : (Region.ready md ops did).contains i = true) (hQ : ∀ c a w, Q (.panic c) (a.put oi.dst v) w → Q (.panic c) a w)
    (hy : Region.wanted oi (yielded ops a.tmps) = true ∧ ∀ w, T w ∧ S w → (execOp a.eval oi).run P w = .ok (.value v) w) (hw : T w ∧ S w)
    (h : wpTwo P md ops Q T S late n (did.setIfInBounds i true) (a.put oi.dst v) w) : wpTwo P md ops Q T S late (n + 1) did a w :=
  wpTwo_next (R := fun w => T w ∧ S w) hi hs hQ (fun _ h => h.1) (fun j oj hoj hno w w' hR hk => ⟨hk.1, hk.2 (by
    cases hlj : late j with
    | false => rfl
    | true =>
      obtain ⟨o', ho', e, he, hb, hei⟩ := Region.waitsFor_spec (hl j hlj)
      rw [hoj] at ho'
      cases ho'
      exact (hno e he hb hei).elim) hR.2⟩) n did a w (Region.free_spec hi hf) (by simpa using hr) (.inl hy) hw h

theorem waits_all {l : List Nat} {i : Nat} (h : (l.all fun j => Region.waitsFor md ops j i) = true) : ∀ j, (l.contains j) = true → Region.waitsFor md ops j i = true := fun j hj =>
  List.all_eq_true.1 h j (by simpa using hj)
/-- Each of the operations rs comes up next. -/
def AllTwo (P : Program) (md : Region.Mode) (ops : Array Oper) (Q : Exit → Act → World → Prop) (T S : World → Prop) (late : Nat → Bool) (n : Nat) (did : Array Bool) (a : Act) (w : World) (rs : List Nat) : Prop :=
  ∀ i ∈ rs, wpOp P ops Q i (fun a' w' => Kept T S late i w w' ∧ wpTwo P md ops Q T S late n (did.setIfInBounds i true) a' w') a w
theorem wpTwo_ready {rs : List Nat} {n : Nat} {did : Array Bool} {a : Act} {w : World} (hr : Region.ready md ops did = rs) (hne : rs ≠ []) (h : AllTwo P md ops Q T S late n did a w rs) : wpTwo P md ops Q T S late (n + 1) did a w :=
  ⟨fun e => (hne (hr ▸ e)).elim, hr ▸ h⟩
theorem AllTwo.nil {n : Nat} {did : Array Bool} {a : Act} {w : World} : AllTwo P md ops Q T S late n did a w [] := fun _ h => by cases h
theorem AllTwo.cons {n : Nat} {did : Array Bool} {a : Act} {w : World} {i : Nat} {o : Oper} {rs : List Nat} (ho : ops[i]? = some o)
    (h : ∀ K : Act → World → Prop, Shut (∀ a' w', Kept T S late i w w' → wpTwo P md ops Q T S late n (did.setIfInBounds i true) a' w' → K a' w') → if Region.wanted o (yielded ops a.tmps) = true then Oper.wp P o a w K Q else K (a.put o.dst undef) w)
    (hs : AllTwo P md ops Q T S late n did a w rs) : AllTwo P md ops Q T S late n did a w (i :: rs) := fun j hj => by
  rcases List.mem_cons.1 hj with rfl | hj
  · exact wpOp_step ho fun K hK => h K fun a' w' h1 h2 => hK a' w' ⟨h1, h2⟩
  · exact hs j hj
end

end Go.Proofs.Ytdagcimkajmkaaa
/-
  Package queue: rows of callbacks; boxes of queues; what may stand behind what.
  Conditions: the ranges of Go's types.
-/
namespace Go.Proofs.Ytdagcimkajmkaaa
set_option maxRecDepth 100000
open Go.RowKit Go.Shelf
attribute [local go_sem] Oper.semAt_some

theorem ret_b {b c : Bool} (h : b = c) : Ending.returned (.bool b) = Ending.returned (.bool c) := by rw [h]
theorem below1 (W : World) (o1 : Obj) : Below W.heap.size W (W.alloc o1) := (Below.refl _ _).alloc (Nat.le_refl _) _
theorem below2 (W : World) (o1 o2 : Obj) : Below W.heap.size W ((W.alloc o1).alloc o2) := (below1 W o1).alloc (by simp) _
theorem below3 (W : World) (o1 o2 o3 : Obj) : Below W.heap.size W (((W.alloc o1).alloc o2).alloc o3) := (below2 W o1 o2).alloc (by simp; omega) _
theorem below4 (W : World) (o1 o2 o3 o4 : Obj) : Below W.heap.size W ((((W.alloc o1).alloc o2).alloc o3).alloc o4) := (below3 W o1 o2 o3).alloc (by simp; omega) _
theorem owns_slice {B : Nat} {E : TypeId} {W : World} {v : Value} {s n : Nat} {xs : List Value} (h : W.ownsRow B E s v n xs) : ∃ p c, v = .slice p n c := by
  rcases h.2 with ⟨rfl, h0⟩ | ⟨g, cap, cur, rfl, _⟩
  · exact ⟨none, 0, by rw [h0]⟩
  · exact ⟨_, _, rfl⟩
theorem boxed_under {W W' : World} {B : Nat} {t : TypeId} {v : Value} (h : Boxed W B t v) (hb : Below W.heap.size W W') : Boxed W' B t v := (hb.block B h.lt).trans h

/-- The cells of a row of callbacks. -/
def cvs : List (Int × Int) → List Value
  | [] => []
  | c :: l => .int .u64 c.1 :: .int .u64 c.2 :: cvs l
theorem cvs_len : ∀ l : List (Int × Int), (cvs l).length = l.length * 2
  | [] => rfl
  | c :: l => by simp only [cvs, List.length_cons, cvs_len l]; omega
theorem cvs_append : ∀ l m : List (Int × Int), cvs (l ++ m) = cvs l ++ cvs m
  | [], _ => rfl
  | c :: l, m => by simp only [List.cons_append, cvs, cvs_append l m]
theorem cvs_take : ∀ (l : List (Int × Int)) (n : Nat), cvs (l.take n) = (cvs l).take (n * 2)
  | [], n => by simp [cvs]
  | c :: l, 0 => by simp [cvs]
  | c :: l, n + 1 => by rw [show (n + 1) * 2 = n * 2 + 1 + 1 by omega]; simp only [List.take_succ_cons, cvs, cvs_take l n]
theorem cvs_get : ∀ (l : List (Int × Int)) (i : Nat) (h : i < l.length), (cvs l)[i * 2]? = some (.int .u64 l[i].1) ∧ (cvs l)[i * 2 + 1]? = some (.int .u64 l[i].2)
  | c :: l, 0, h => ⟨rfl, rfl⟩
  | c :: l, i + 1, h => by
    have := cvs_get l i (by simpa using h)
    rw [show (i + 1) * 2 = i * 2 + 1 + 1 by omega]
    simpa [cvs] using this
theorem cvs_one : ∀ (l : List (Int × Int)), ∀ u ∈ cvs l, u.oneCell' = true
  | [], u, h => by cases h
  | c :: l, u, h => by
    rcases List.mem_cons.1 h with rfl | h
    · rfl
    · rcases List.mem_cons.1 h with rfl | h
      · rfl
      · exact cvs_one l u h

/-- A row of callbacks lies there, outside of S. -/
def CbOut (S : Nat → Prop) (W : World) (v : Value) (l : List (Int × Int)) : Prop := ∃ p cap, v = .slice p l.length cap ∧ l.length ≤ cap ∧ cap ≤ 9223372036854775807 ∧
  (l ≠ [] → ∃ b off, p = some ⟨b, off, none⟩ ∧ ¬ S b ∧ ∀ i (h : i < l.length), W.cell? ⟨b, off + i * 2, none⟩ = some (.int .u64 l[i].1) ∧ W.cell? ⟨b, off + i * 2 + 1, none⟩ = some (.int .u64 l[i].2))
def NoS : Nat → Prop := fun _ => False
theorem CbOut.below {S : Nat → Prop} {W W' : World} {v : Value} {l : List (Int × Int)} (h : CbOut S W v l) (hb : Below W.heap.size W W') : CbOut S W' v l := by
  obtain ⟨p, cap, rfl, h1, h2, hc⟩ := h
  refine ⟨p, cap, rfl, h1, h2, fun hne => ?_⟩
  obtain ⟨b, off, rfl, hS, hcs⟩ := hc hne
  exact ⟨b, off, rfl, hS, fun i hi => ⟨below_cell hb (hcs i hi).1, below_cell hb (hcs i hi).2⟩⟩
theorem CbOut.keeps {S : Nat → Prop} {W W' : World} {v : Value} {l : List (Int × Int)} (h : CbOut S W v l) (hk : Keeps S W W') : CbOut S W' v l := by
  obtain ⟨p, cap, rfl, h1, h2, hc⟩ := h
  refine ⟨p, cap, rfl, h1, h2, fun hne => ?_⟩
  obtain ⟨b, off, rfl, hS, hcs⟩ := hc hne
  exact ⟨b, off, rfl, hS, fun i hi => ⟨hk.cell (hcs i hi).1 hS, hk.cell (hcs i hi).2 hS⟩⟩
theorem CbOut.sub {S T : Nat → Prop} {W : World} {v : Value} {l : List (Int × Int)} (h : CbOut S W v l) (hST : ∀ q, T q → S q) : CbOut T W v l := by
  obtain ⟨p, cap, rfl, h1, h2, hc⟩ := h
  refine ⟨p, cap, rfl, h1, h2, fun hne => ?_⟩
  obtain ⟨b, off, rfl, hS, hcs⟩ := hc hne
  exact ⟨b, off, rfl, fun h => hS (hST b h), hcs⟩
/-- New blocks lie apart from it. -/
theorem CbOut.apart {S T : Nat → Prop} {W : World} {v : Value} {l : List (Int × Int)} (h : CbOut S W v l) (hT : ∀ q, T q → S q ∨ W.heap.size ≤ q) : CbOut T W v l := by
  obtain ⟨p, cap, rfl, h1, h2, hc⟩ := h
  refine ⟨p, cap, rfl, h1, h2, fun hne => ?_⟩
  obtain ⟨b, off, rfl, hS, hcs⟩ := hc hne
  have hlt := World.block_lt_of_cell? W _ (hcs 0 (List.length_pos_iff.2 hne)).1
  have hlt' : b < W.heap.size := hlt
  exact ⟨b, off, rfl, fun h => by rcases hT b h with h | h; exact hS h; omega, hcs⟩
/-- The first ones of it. -/
theorem CbOut.take {S : Nat → Prop} {W : World} {p : Option Addr} {n c : Nat} {l : List (Int × Int)} (h : CbOut S W (.slice p n c) l) (k : Nat) (hk : k ≤ n) : CbOut S W (.slice p k c) (l.take k) := by
  obtain ⟨p', cap, e, h1, h2, hc⟩ := h
  injection e with e1 e2 e3
  subst e1 e2 e3
  have hl : (l.take k).length = k := by rw [List.length_take]; omega
  refine ⟨p, c, by rw [hl], by omega, h2, fun hne => ?_⟩
  obtain ⟨b, off, rfl, hS, hcs⟩ := hc (by rintro rfl; simp at hne)
  exact ⟨b, off, rfl, hS, fun i hi => by rw [List.getElem_take]; exact hcs i (by rw [hl] at hi; omega)⟩
theorem CbOut.len {S : Nat → Prop} {W : World} {p : Option Addr} {n c : Nat} {l : List (Int × Int)} (h : CbOut S W (.slice p n c) l) : n = l.length ∧ n ≤ c ∧ c ≤ 9223372036854775807 := by
  obtain ⟨p', cap, e, h1, h2, hc⟩ := h
  injection e with e1 e2 e3
  subst e1 e2 e3
  exact ⟨rfl, h1, h2⟩
theorem cb_of_owns {B : Nat} {E : TypeId} {W : World} {v : Value} {l : List (Int × Int)} {n : Nat} (h : W.ownsRow B E 2 v n (cvs l)) : CbOut (fun q => q < B) W v l := by
  have hl := h.1
  rw [cvs_len] at hl
  obtain rfl : n = l.length := by omega
  rcases h.2 with ⟨rfl, h0⟩ | ⟨g, cap, cur, rfl, hB, hg, hcp, hmx, _⟩
  · obtain rfl : l = [] := List.eq_nil_of_length_eq_zero h0
    exact ⟨none, 0, rfl, by simp, by omega, fun h => absurd rfl h⟩
  · refine ⟨_, _, rfl, hcp, by unfold maxLen at hmx; omega, fun _ => ⟨g, 0, rfl, by omega, fun i hi => ?_⟩⟩
    have h1 := h.cellAt (i * 2) (by omega)
    have h2 := h.cellAt (i * 2 + 1) (by omega)
    rw [(cvs_get l i hi).1] at h1
    rw [(cvs_get l i hi).2] at h2
    rw [Nat.zero_add]
    exact ⟨by simpa using h1, by simpa using h2⟩

/-- What box a queue lies in; a callback. -/
def QBox (W : World) (z : Nat) (v : Value) (over : Int) : Prop := W.heap[z]? = some (.cells #[v, .int .u64 over] 25 (0, 0))
theorem QBox.cells {W : World} {z : Nat} {v : Value} {o : Int} (h : QBox W z v o) : W.cell? ⟨z, 0, none⟩ = some v ∧ W.cell? ⟨z, 1, none⟩ = some (.int .u64 o) := by
  have h' : W.heap[z]? = _ := h
  simp [World.cell?, h']
theorem QBox.marks {W : World} {z : Nat} {v : Value} {o : Int} (h : QBox W z v o) (i : Nat) : W.frozen? ⟨z, i, none⟩ = false := by
  have h' : W.heap[z]? = _ := h
  simp [World.frozen?, h']
theorem QBox.lt {W : World} {z : Nat} {v : Value} {o : Int} (h : QBox W z v o) : z < W.heap.size := (Array.getElem?_eq_some_iff.1 h).1
theorem QBox.below {W W' : World} {z : Nat} {v : Value} {o : Int} (h : QBox W z v o) (hb : Below W.heap.size W W') : QBox W' z v o := (hb.block z h.lt).trans h
theorem QBox.keeps {S : Nat → Prop} {W W' : World} {z : Nat} {v : Value} {o : Int} (h : QBox W z v o) (hk : Keeps S W W') (hz : ¬ S z) : QBox W' z v o := (hk.block z h.lt hz).trans h
theorem QBox.new (W : World) (v : Value) (o : Int) : QBox (W.alloc (.cells #[v, .int .u64 o] 25)) W.heap.size v o := World.alloc_heap_new W _
theorem QBox.put {W : World} {z : Nat} {v0 : Value} {o0 : Int} (h : QBox W z v0 o0) (v : Value) (o : Int) : QBox ((W.setCell ⟨z, 0, none⟩ v).setCell ⟨z, 1, none⟩ (.int .u64 o)) z v o := by
  have h0 := heap_setCell_same W z 0 _ _ v h
  have h1 := heap_setCell_same _ z 1 _ _ (.int .u64 o) h0
  unfold QBox
  rw [h1]
  rfl
theorem QBox.put0 {W : World} {z : Nat} {v0 : Value} {o : Int} (h : QBox W z v0 o) (v : Value) : QBox (W.setCell ⟨z, 0, none⟩ v) z v o := by
  have h0 := heap_setCell_same W z 0 _ _ v h
  unfold QBox
  rw [h0]
  rfl
theorem QBox.put1 {W : World} {z : Nat} {v : Value} {o0 : Int} (h : QBox W z v o0) (o : Int) : QBox (W.setCell ⟨z, 1, none⟩ (.int .u64 o)) z v o := by
  have h0 := heap_setCell_same W z 1 _ _ (.int .u64 o) h
  unfold QBox
  rw [h0]
  rfl
theorem set1K (W : World) (z i : Nat) (v : Value) : Keeps (fun k => k = z) W (W.setCell ⟨z, i, none⟩ v) := Keeps.setCell W (S := (· = z)) (p := ⟨z, i, none⟩) rfl _
theorem QBox.putK (W : World) (z : Nat) (v : Value) (o : Int) : Keeps (fun k => k = z) W ((W.setCell ⟨z, 0, none⟩ v).setCell ⟨z, 1, none⟩ (.int .u64 o)) := (set1K W z 0 _).trans (set1K _ z 1 _)
def CBox (W : World) (z : Nat) (p x : Int) : Prop := W.heap[z]? = some (.cells #[.int .u64 p, .int .u64 x] 53 (0, 0))
theorem CBox.cells {W : World} {z : Nat} {p x : Int} (h : CBox W z p x) : W.cell? ⟨z, 0, none⟩ = some (.int .u64 p) ∧ W.cell? ⟨z, 1, none⟩ = some (.int .u64 x) := by
  have h' : W.heap[z]? = _ := h
  simp [World.cell?, h']
theorem CBox.lt {W : World} {z : Nat} {p x : Int} (h : CBox W z p x) : z < W.heap.size := (Array.getElem?_eq_some_iff.1 h).1
theorem CBox.below {W W' : World} {z : Nat} {p x : Int} (h : CBox W z p x) (hb : Below W.heap.size W W') : CBox W' z p x := (hb.block z h.lt).trans h
theorem CBox.new (W : World) (p x : Int) : CBox (W.alloc (.cells #[.int .u64 p, .int .u64 x] 53)) W.heap.size p x := World.alloc_heap_new W _
theorem CBox.keeps {S : Nat → Prop} {W W' : World} {z : Nat} {p x : Int} (h : CBox W z p x) (hk : Keeps S W W') (hz : ¬ S z) : CBox W' z p x := (hk.block z h.lt hz).trans h
theorem bx_keeps {S : Nat → Prop} {W W' : World} {z : Nat} {t : TypeId} {v : Value} (h : Boxed W z t v) (hk : Keeps S W W') (hz : ¬ S z) : Boxed W' z t v := (hk.block z h.lt hz).trans h

/-- The last one's period. -/
def lastP (l : List (Int × Int)) : Int := if h : l = [] then 0 else (l[l.length - 1]'(by have := List.length_pos_iff.2 h; omega)).1
/-- May a callback of this period stand there? -/
def allowsB (least over p : Int) : Bool := decide (least ≤ p) && decide (p ≤ over + 2)
/-- May these stand behind one of this period? -/
def upB (over : Int) : Int → List (Int × Int) → Bool
  | _, [] => true
  | least, c :: l => allowsB least over c.1 && upB over c.1 l
def mayB (over : Int) (l : List (Int × Int)) : Bool := decide (over ≤ 9223372036854775806) && decide (l.length ≤ 16) && upB over 0 l
/-- The numbers of a row are ones of Go's. -/
def RgL (l : List (Int × Int)) : Prop := ∀ c ∈ l, 0 ≤ c.1 ∧ c.1 < 18446744073709551616 ∧ 0 ≤ c.2 ∧ c.2 < 18446744073709551616
theorem RgL.take {l : List (Int × Int)} (h : RgL l) (k : Nat) : RgL (l.take k) := fun c hc => h c (List.mem_of_mem_take hc)
theorem lastP_take (l : List (Int × Int)) (i : Nat) (h : i < l.length) : lastP (l.take (i + 1)) = l[i].1 := by
  have hl : (l.take (i + 1)).length = i + 1 := by rw [List.length_take]; omega
  have hne : l.take (i + 1) ≠ [] := by intro e; rw [e] at hl; simp at hl
  unfold lastP
  rw [dif_neg hne]
  simp only [List.getElem_take, hl, Nat.add_sub_cancel]
theorem up_step (over least : Int) (l : List (Int × Int)) (i : Nat) (h : i < l.length) : upB over least (l.drop i) = (allowsB least over l[i].1 && upB over l[i].1 (l.drop (i + 1))) := by
  rw [List.drop_eq_getElem_cons h]
  rfl

theorem wrap_u64 (x : Int) (h0 : 0 ≤ x) (h1 : x < 18446744073709551616) : IntKind.u64.wrap x = x := by
  simp [IntKind.wrap, IntKind.signed, IntKind.bits]
  omega

set_option maxHeartbeats 4000000 in
theorem allows1_c (bl bq : Nat) (least over p : Int) (v : Value) (W : World) (hl : Boxed W bl 23 (.int .u64 least)) (hq : QBox W bq v over) (h0 : 0 ≤ over) (h1 : over ≤ 9223372036854775806) :
    Calls Try.prog 33 #[.int .u64 p, .pointer (some ⟨bl, 0, none⟩), .pointer (some ⟨bq, 0, none⟩)] W fun e w' => e = .returned (.bool (allowsB least over p)) ∧ w' = W := by
  have hc := hl.cell
  obtain ⟨q0, q1⟩ := hq.cells
  have hwr : IntKind.u64.wrap (over + 2) = over + 2 := wrap_u64 _ (by omega) (by omega)
  unfold allowsB
  by_cases hle : least ≤ p
  · rw [decide_eq_true hle, Bool.true_and]
    by_cases hp : p ≤ over + 2
    · rw [decide_eq_true hp]
      go_enter Try.func33, Try.ntmps33
      go_wp2
      go_ret
      exact ⟨rfl, rfl⟩
    · rw [decide_eq_false hp]
      go_enter Try.func33, Try.ntmps33
      go_wp2
      go_ret
      exact ⟨rfl, rfl⟩
  · rw [decide_eq_false hle, Bool.false_and]
    go_enter Try.func33, Try.ntmps33
    go_wp2
    go_ret
    exact ⟨rfl, rfl⟩

/-- What allows answers. -/
def alV (B : Nat) : Value := .func (.func 33) #[] #[.pointer (some ⟨B + 1, 0, none⟩), .pointer (some ⟨B, 0, none⟩)]
def AllowsQ (v : Value) (over : Int) (l : List (Int × Int)) (e : Ending) (W w' : World) : Prop :=
  e = .returned (alV W.heap.size) ∧ QBox w' W.heap.size v over ∧ Boxed w' (W.heap.size + 1) 23 (.int .u64 (lastP l)) ∧ Below W.heap.size W w'
set_option maxHeartbeats 4000000 in
theorem allows_c (S : Nat → Prop) (v : Value) (over : Int) (l : List (Int × Int)) (W : World) (hv : CbOut S W v l) :
    Calls Try.prog 26 #[.agg #[v, .int .u64 over]] W fun e w' => AllowsQ v over l e W w' := by
  unfold AllowsQ alV
  obtain ⟨p, cap, rfl, hl1, hl2, hc⟩ := hv
  by_cases hne : l = []
  · have e : lastP l = 0 := by unfold lastP; rw [dif_pos hne]
    rw [e]
    have h0 : l.length = 0 := by rw [hne]; rfl
    rw [h0]
    clear hc e
    go_enter Try.func26, Try.ntmps26
    go_wp2
    go_ret
    refine ⟨rfl, (QBox.new W _ _).below (below1 _ _), ?_, below2 _ _ _⟩
    have := Boxed.new (W.alloc (.cells #[.slice p 0 cap, .int .u64 over] 25)) 23 (.int .u64 0)
    rwa [World.size_alloc] at this
  · obtain ⟨b, off, rfl, hS, hcs⟩ := hc hne
    have hpos := List.length_pos_iff.2 hne
    have hx := (hcs (l.length - 1) (by omega)).1
    have e : lastP l = (l[l.length - 1]'(by omega)).1 := by unfold lastP; rw [dif_neg hne]
    rw [← e] at hx
    obtain ⟨n, hn⟩ : ∃ n, n = l.length := ⟨_, rfl⟩
    rw [← hn] at hpos hx hl1 ⊢
    clear hcs hn hne e
    have hi : (0 : Int) ≤ (n : Int) - 1 ∧ (n : Int) - 1 < (n : Int) := by omega
    obtain ⟨m, hm⟩ : ∃ m, n = m + 1 := ⟨n - 1, by omega⟩
    subst hm
    rw [Nat.add_sub_cancel] at hx
    have hblt := World.block_lt_of_cell? W _ hx
    have hgt : ((m + 1 : Nat) : Int) > 0 := by omega
    go_enter Try.func26, Try.ntmps26
    go_wp2
    go_ret
    have hb := Boxed.new (W.alloc (.cells #[.slice (some ⟨b, off, none⟩) (m + 1) cap, .int .u64 over] 25)) 23 (.int .u64 (lastP l))
    rw [World.size_alloc] at hb
    exact ⟨rfl, (QBox.new W _ _).below (below1 _ _), hb, below2 W _ _⟩

end Go.Proofs.Ytdagcimkajmkaaa
/-
  Package queue: which queues may be.
  Conditions: the ranges of Go's types.
-/
namespace Go.Proofs.Ytdagcimkajmkaaa
set_option maxRecDepth 100000
open Go.RowKit Go.Shelf
attribute [local go_sem] Oper.semAt_some

/-- Between two rounds. -/
structure MyI (W : World) (v : Value) (over : Int) (l : List (Int × Int)) (w : World) : Prop where
  q : QBox w W.heap.size v over
  cb : CbOut NoS w v l
  b : Below W.heap.size W w
theorem MyI.below {W : World} {v : Value} {over : Int} {l : List (Int × Int)} {w w' : World} (h : MyI W v over l w) (hb : Below w.heap.size w w') : MyI W v over l w' :=
  ⟨h.q.below hb, h.cb.below hb, below_then h.b h.b.size hb⟩
theorem run_cutC (p : Option Addr) (n c k : Nat) (h : k ≤ c) (_ : c ≤ 9223372036854775807) (wx : World) :
    (Instr.slice 22 (.slice p n c) none (some (.int .i64 (k : Int))) none).run Try.prog wx = .ok (.slice p k c) wx := by
  rw [run_slice_h wx 22 p n c Try.underlying22 .i64 (k : Int) (by omega) (by omega)]
  have hE : (sizeOf (Try.prog.elem 22)).run Try.prog wx = .ok 2 wx := by go_simp
  rw [hE]
  have : Option.map (fun x : Addr => x.add 0) p = p := by cases p <;> simp [Addr.add_zero']
  simp [sliced, Result.andThen, this]

set_option maxHeartbeats 16000000 in
theorem may_c (v : Value) (over : Int) (l : List (Int × Int)) (W : World) (hv : CbOut NoS W v l) (ho : 0 ≤ over) :
    Calls Try.prog 25 #[.agg #[v, .int .u64 over]] W fun e w' => e = .returned (.bool (mayB over l)) ∧ Below W.heap.size W w' := by
  obtain ⟨p, cap, rfl, hcp, hmx, -⟩ := id hv
  obtain ⟨n, hn⟩ : ∃ n, n = l.length := ⟨_, rfl⟩
  unfold mayB
  rw [← hn] at hcp hv ⊢
  by_cases h1 : 9223372036854775806 < over
  · rw [decide_eq_false (show ¬ over ≤ 9223372036854775806 by omega), Bool.false_and, Bool.false_and]
    go_enter Try.func25, Try.ntmps25
    go_wp2
    go_ret
    exact ⟨rfl, below1 _ _⟩
  have h1' : over ≤ 9223372036854775806 := by omega
  rw [decide_eq_true h1', Bool.true_and]
  by_cases h2 : 16 < n
  · rw [decide_eq_false (show ¬ n ≤ 16 by omega), Bool.false_and]
    have h2' : (16 : Int) < (n : Int) := by omega
    go_enter Try.func25, Try.ntmps25
    go_wp2
    go_ret
    exact ⟨rfl, below1 _ _⟩
  have h2' : (n : Int) ≤ 16 := by omega
  rw [decide_eq_true (show n ≤ 16 by omega), Bool.true_and]
  have HI := Lib.hid (show MyI W (.slice p n cap) over l (W.alloc (.cells #[.slice p n cap, .int .u64 over] 25)) from ⟨QBox.new W _ _, hv.below (below1 _ _), below1 _ _⟩)
  have HN := Lib.hid hn
  have HO := Lib.hid ho
  have hnm : n ≤ 9223372036854775807 := by omega
  clear hv hn ho
  go_enter Try.func25, Try.ntmps25
  go_wp2
  go_loopw [18] (fun iv wr => ∃ i : Nat, i ≤ n ∧ iv = .int .i64 (i : Int) ∧ Hid (MyI W (.slice p n cap) over l wr) ∧ Hid (upB over 0 l = upB over (lastP (l.take i)) (l.drop i))) (fun iv _ => n - (intOf iv).toNat)
  case atStart => exact ⟨0, Nat.zero_le _, rfl, HI, Lib.hid (by simp [lastP])⟩
  case round =>
    clear HI
    obtain ⟨i, hi, rfl, HM, HU⟩ := hrel
    by_cases hlt : i < n
    · have hil : i < l.length := by have := HN.out; omega
      have hne : l ≠ [] := by rintro rfl; simp at hil
      obtain ⟨p', cap', e, -, -, hc⟩ := HM.out.cb
      injection e with e1 e2 e3
      subst e1 e3
      obtain ⟨b, off, rfl, -, hcs⟩ := hc hne
      obtain ⟨hx, hy⟩ := hcs i hil
      have hup := up_step over (lastP (l.take i)) l i hil
      have hlp := lastP_take l i hil
      obtain ⟨x, hxe⟩ : ∃ x, x = l[i].1 := ⟨_, rfl⟩
      obtain ⟨y, hye⟩ : ∃ y, y = l[i].2 := ⟨_, rfl⟩
      rw [← hxe] at hx hup hlp
      rw [← hye] at hy
      have hbl := World.block_lt_of_cell? wr _ hx
      obtain ⟨w1, hw1⟩ : ∃ X : World, X = wr.alloc (.cells #[.int .u64 x, .int .u64 y] 53) := ⟨_, rfl⟩
      have HC1 := Lib.hid (show CBox w1 wr.heap.size x y ∧ MyI W (.slice (some ⟨b, off, none⟩) n cap) over l w1 by rw [hw1]; exact ⟨CBox.new wr x y, HM.out.below (below1 _ _)⟩)
      have HW1 := Lib.hid hw1
      have HUP := Lib.hid (And.intro hup hlp)
      have hji := (run_cutC (some ⟨b, off, none⟩) n cap i (by omega) hmx)
      have hi0 : (0 : Int) ≤ (i : Int) := by omega
      have hlt' : (i : Int) < (n : Int) := by omega
      obtain ⟨q0, q1⟩ := HM.out.q.cells
      clear hc hcs hup hlp hxe hye hw1 hne e2
      go_upto_region 6 with fail
      rw [← HW1.out]
      clear HW1 q0 q1 hx hy hbl
      obtain ⟨cz, hcz⟩ : ∃ z, z = wr.heap.size := ⟨_, rfl⟩
      rw [← hcz] at HC1 ⊢
      have HCZ := Lib.hid hcz
      clear hcz
      refine wpTwo_begin (T := fun w' => QBox w' W.heap.size (.slice (some ⟨b, off, none⟩) n cap) over) (S := fun _ => True) (late := fun _ => false) (by kernel_rfl) ?_
      obtain ⟨X, hX⟩ : ∃ Y : World, Y = w1.drew := ⟨_, rfl⟩
      rw [← hX]
      have hbx : Below w1.heap.size w1 X := by rw [hX]; exact (Below.refl _ _).drew
      clear hX
      have HX := Lib.hid (show CBox X cz x y ∧ MyI W (.slice (some ⟨b, off, none⟩) n cap) over l X from ⟨HC1.out.1.below hbx, HC1.out.2.below hbx⟩)
      have hT0 := HX.out.2.q
      clear hbx HC1
      refine wpTwo_takeT (i := 0) (v := .pointer (some ⟨W.heap.size, 0, none⟩)) rfl (by kernel_rfl) (by kernel_rfl) (by kernel_rfl) (fun _ _ _ h => h) ⟨by rfl, ?_⟩ hT0 ?_
      · rintro w hTw
        obtain ⟨t0', t1'⟩ := hTw.cells
        go_simp
      (try simp only [Act.put, List.getElem_toArray, List.getElem_cons_zero, List.setIfInBounds_toArray, List.set_cons_succ, List.set_cons_zero])
      refine wpTwo_takeT (i := 1) (v := .slice (some ⟨b, off, none⟩) n cap) rfl (by kernel_rfl) (by kernel_rfl) (by kernel_rfl) (fun _ _ _ h => h) ⟨by rfl, ?_⟩ hT0 ?_
      · rintro w hTw
        obtain ⟨t0', t1'⟩ := hTw.cells
        go_simp
      (try simp only [Act.put, List.getElem_toArray, List.getElem_cons_succ, List.getElem_cons_zero, List.setIfInBounds_toArray, List.set_cons_succ, List.set_cons_zero])
      refine wpTwo_takeT (i := 2) (v := .int .i64 (i : Int)) rfl (by kernel_rfl) (by kernel_rfl) (by kernel_rfl) (fun _ _ _ h => h) ⟨by rfl, ?_⟩ hT0 ?_
      · rintro w hTw
        obtain ⟨t0', t1'⟩ := hTw.cells
        go_simp
      (try simp only [Act.put, List.getElem_toArray, List.getElem_cons_succ, List.getElem_cons_zero, List.setIfInBounds_toArray, List.set_cons_succ, List.set_cons_zero])
      refine wpTwo_takeT (i := 3) (v := .slice (some ⟨b, off, none⟩) i cap) rfl (by kernel_rfl) (by kernel_rfl) (by kernel_rfl) (fun _ _ _ h => h) ⟨by rfl, ?_⟩ hT0 ?_
      · rintro w hTw
        obtain ⟨t0', t1'⟩ := hTw.cells
        go_simp
      (try simp only [Act.put, List.getElem_toArray, List.getElem_cons_succ, List.getElem_cons_zero, List.setIfInBounds_toArray, List.set_cons_succ, List.set_cons_zero])
      refine wpTwo_takeT (i := 4) (v := .pointer (some ⟨W.heap.size, 1, none⟩)) rfl (by kernel_rfl) (by kernel_rfl) (by kernel_rfl) (fun _ _ _ h => h) ⟨by rfl, ?_⟩ hT0 ?_
      · rintro w hTw
        obtain ⟨t0', t1'⟩ := hTw.cells
        go_simp
      (try simp only [Act.put, List.getElem_toArray, List.getElem_cons_succ, List.getElem_cons_zero, List.setIfInBounds_toArray, List.set_cons_succ, List.set_cons_zero])
      refine wpTwo_takeT (i := 5) (v := .int .u64 over) rfl (by kernel_rfl) (by kernel_rfl) (by kernel_rfl) (fun _ _ _ h => h) ⟨by rfl, ?_⟩ hT0 ?_
      · rintro w hTw
        obtain ⟨t0', t1'⟩ := hTw.cells
        go_simp
      (try simp only [Act.put, List.getElem_toArray, List.getElem_cons_succ, List.getElem_cons_zero, List.setIfInBounds_toArray, List.set_cons_succ, List.set_cons_zero])
      refine wpTwo_takeT (i := 6) (v := .agg #[.slice (some ⟨b, off, none⟩) i cap, .int .u64 over]) rfl (by kernel_rfl) (by kernel_rfl) (by kernel_rfl) (fun _ _ _ h => h) ⟨by rfl, ?_⟩ hT0 ?_
      · rintro w hTw
        obtain ⟨t0', t1'⟩ := hTw.cells
        go_simp
      (try simp only [Act.put, List.getElem_toArray, List.getElem_cons_succ, List.getElem_cons_zero, List.setIfInBounds_toArray, List.set_cons_succ, List.set_cons_zero])
      refine wpTwo_ready (rs := [7]) (by kernel_rfl) (by simp) ?_
      refine (AllTwo.cons rfl (fun K hK => ?_) AllTwo.nil)
      go_simp
      obtain ⟨Xa, hXa⟩ : ∃ Y : World, Y = X.alloc (.cells #[.slice none 0 0, .int .u64 0] 25) := ⟨_, rfl⟩
      have hqa : QBox Xa X.heap.size (.slice none 0 0) 0 := by rw [hXa]; exact QBox.new X _ _
      have hba : Below X.heap.size X Xa := by rw [hXa]; exact below1 _ _
      rw [← hXa]
      clear hXa
      refine hK.out _ _ ⟨hT0.below hba, fun _ _ => trivial⟩ ?_
      clear hK K
      (try simp only [Act.put, List.getElem_toArray, List.getElem_cons_succ, List.getElem_cons_zero, List.setIfInBounds_toArray, List.set_cons_succ, List.set_cons_zero])
      obtain ⟨g0, g1⟩ := hqa.cells
      have m0 := hqa.marks 0
      have m1 := hqa.marks 1
      refine wpTwo_ready (rs := [8]) (by kernel_rfl) (by simp) ?_
      refine (AllTwo.cons rfl (fun K hK => ?_) AllTwo.nil)
      go_simp
      obtain ⟨Xb, hXb⟩ : ∃ Y : World, Y = (Xa.setCell ⟨X.heap.size, 0, none⟩ (.slice (some ⟨b, off, none⟩) i cap)).setCell ⟨X.heap.size, 1, none⟩ (.int .u64 over) := ⟨_, rfl⟩
      have hqb : QBox Xb X.heap.size (.slice (some ⟨b, off, none⟩) i cap) over := by rw [hXb]; exact hqa.put _ _
      have hkb : Keeps (fun k => k = X.heap.size) Xa Xb := by rw [hXb]; exact QBox.putK _ _ _ _
      have hbb : Below X.heap.size X Xb := hba.trans (hkb.below hba.size (fun k e => by omega))
      rw [← hXb]
      clear hXb
      refine hK.out _ _ ⟨hT0.below hbb, fun _ _ => trivial⟩ ?_
      clear hK K g0 g1 m0 m1
      (try simp only [Act.put, List.getElem_toArray, List.getElem_cons_succ, List.getElem_cons_zero, List.setIfInBounds_toArray, List.set_cons_succ, List.set_cons_zero])
      have HB := Lib.hid (show CBox Xb cz x y ∧ MyI W (.slice (some ⟨b, off, none⟩) n cap) over l Xb ∧ QBox Xb X.heap.size (.slice (some ⟨b, off, none⟩) i cap) over ∧ CbOut NoS Xb (.slice (some ⟨b, off, none⟩) i cap) (l.take i) from ⟨HX.out.1.below hbb, HX.out.2.below hbb, hqb, (HX.out.2.below hbb).cb.take i (by omega)⟩)
      refine wpTwo_end (by kernel_rfl) ?_ _
      clear hT0 hba hkb hbb hqa HX hqb
      obtain ⟨az, haz⟩ : ∃ z, z = X.heap.size := ⟨_, rfl⟩
      rw [← haz] at HB ⊢
      clear haz
      go_upto_region 7 with fail
      refine wpTwo_begin (T := fun w' => CBox w' cz x y ∧ QBox w' az (.slice (some ⟨b, off, none⟩) i cap) over) (S := fun _ => True) (late := fun _ => false) (by kernel_rfl) ?_
      obtain ⟨Y, hY⟩ : ∃ Y : World, Y = Xb.drew := ⟨_, rfl⟩
      rw [← hY]
      have hby : Below Xb.heap.size Xb Y := by rw [hY]; exact (Below.refl _ _).drew
      clear hY
      have hT0 : CBox Y cz x y ∧ QBox Y az (.slice (some ⟨b, off, none⟩) i cap) over := ⟨HB.out.1.below hby, HB.out.2.2.1.below hby⟩
      have HY := Lib.hid (show MyI W (.slice (some ⟨b, off, none⟩) n cap) over l Y ∧ CbOut NoS Y (.slice (some ⟨b, off, none⟩) i cap) (l.take i) from ⟨HB.out.2.1.below hby, HB.out.2.2.2.below hby⟩)
      clear hby HB
      refine wpTwo_takeT (i := 0) (v := .agg #[.slice (some ⟨b, off, none⟩) i cap, .int .u64 over]) rfl (by kernel_rfl) (by kernel_rfl) (by kernel_rfl) (fun _ _ _ h => h) ⟨by rfl, ?_⟩ hT0 ?_
      · rintro w ⟨hT1, hT2⟩
        obtain ⟨t0', t1'⟩ := hT1.cells
        obtain ⟨t2', t3'⟩ := hT2.cells
        go_simp
      (try simp only [Act.put, List.getElem_toArray, List.getElem_cons_zero, List.setIfInBounds_toArray, List.set_cons_succ, List.set_cons_zero])
      refine wpTwo_takeT (i := 2) (v := .pointer (some ⟨cz, 0, none⟩)) rfl (by kernel_rfl) (by kernel_rfl) (by kernel_rfl) (fun _ _ _ h => h) ⟨by rfl, ?_⟩ hT0 ?_
      · rintro w ⟨hT1, hT2⟩
        obtain ⟨t0', t1'⟩ := hT1.cells
        obtain ⟨t2', t3'⟩ := hT2.cells
        go_simp
      (try simp only [Act.put, List.getElem_toArray, List.getElem_cons_succ, List.getElem_cons_zero, List.setIfInBounds_toArray, List.set_cons_succ, List.set_cons_zero])
      refine wpTwo_takeT (i := 3) (v := .int .u64 x) rfl (by kernel_rfl) (by kernel_rfl) (by kernel_rfl) (fun _ _ _ h => h) ⟨by rfl, ?_⟩ hT0 ?_
      · rintro w ⟨hT1, hT2⟩
        obtain ⟨t0', t1'⟩ := hT1.cells
        obtain ⟨t2', t3'⟩ := hT2.cells
        go_simp
      (try simp only [Act.put, List.getElem_toArray, List.getElem_cons_succ, List.getElem_cons_zero, List.setIfInBounds_toArray, List.set_cons_succ, List.set_cons_zero])
      refine wpTwo_ready (rs := [1]) (by kernel_rfl) (by simp) ?_
      refine (AllTwo.cons rfl (fun K hK => ?_) AllTwo.nil)
      go_simp
      (with_reducible refine (allows_c NoS _ over (l.take i) Y HY.out.2).mono ?_)
      rintro e Y1 ⟨rfl, hq1, hl1, hb1⟩
      have hc1 := allows1_c (Y.heap.size + 1) Y.heap.size (lastP (l.take i)) over x _ Y1 hl1 hq1 HO.out h1'
      have HY1 := Lib.hid (HY.out.1.below hb1)
      have hT1 : CBox Y1 cz x y ∧ QBox Y1 az (.slice (some ⟨b, off, none⟩) i cap) over := ⟨hT0.1.below hb1, hT0.2.below hb1⟩
      clear hq1 hl1 hb1 hT0 HY
      unfold alV
      go_wp2_with fail
      refine hK.out _ _ ⟨hT1, fun _ _ => trivial⟩ ?_
      clear hK K
      (try simp only [Act.put, List.getElem_toArray, List.getElem_cons_succ, List.getElem_cons_zero, List.setIfInBounds_toArray, List.set_cons_succ, List.set_cons_zero])
      refine wpTwo_ready (rs := [4]) (by kernel_rfl) (by simp) ?_
      refine (AllTwo.cons rfl (fun K hK => ?_) AllTwo.nil)
      go_simp
      (with_reducible refine hc1.mono ?_)
      rintro e Y2 ⟨rfl, rfl⟩
      clear hc1
      go_wp2_with fail
      refine hK.out _ _ ⟨hT1, fun _ _ => trivial⟩ ?_
      clear hK K
      (try simp only [Act.put, List.getElem_toArray, List.getElem_cons_succ, List.getElem_cons_zero, List.setIfInBounds_toArray, List.set_cons_succ, List.set_cons_zero])
      refine wpTwo_takeT (i := 5) (v := .bool (!allowsB (lastP (l.take i)) over x)) rfl (by kernel_rfl) (by kernel_rfl) (by kernel_rfl) (fun _ _ _ h => h) ⟨by rfl, ?_⟩ hT1 ?_
      · rintro w -
        go_simp
      (try simp only [Act.put, List.getElem_toArray, List.getElem_cons_succ, List.getElem_cons_zero, List.setIfInBounds_toArray, List.set_cons_succ, List.set_cons_zero])
      refine wpTwo_end (by kernel_rfl) ?_ _
      clear hT1
      cases ha : allowsB (lastP (l.take i)) over x with
      | false =>
        go_wp2
        go_ret
        exact ⟨ret_b (by rw [HU.out, HUP.out.1, ha]; rfl), HY1.out.b⟩
      | true =>
        have HU2 := Lib.hid (show upB over 0 l = upB over (lastP (l.take (i + 1))) (l.drop (i + 1)) by rw [HU.out, HUP.out.1, HUP.out.2, ha, Bool.true_and])
        go_wp2
        go_roundw
        case rel => exact ⟨i + 1, by omega, by go_num, HY1, HU2⟩
        case measure => simp [intOf]; omega
    · have hin : i = n := by omega
      have HE := Lib.hid (show upB over 0 l = true by rw [HU.out, hin, HN.out, List.drop_length]; rfl)
      clear hin
      go_wp2
      go_ret
      exact ⟨ret_b HE.out.symm, HM.out.b⟩

end Go.Proofs.Ytdagcimkajmkaaa
namespace Go.Proofs.Ytdagcimkajmkaaa
set_option maxRecDepth 100000
open Go.RowKit Go.Shelf
attribute [local go_sem] Oper.semAt_some

theorem run_fmap {α β : Type} {P : Program} (f : α → β) (s : Sem α) (w : World) : Sem.run P (f <$> s) w = (Sem.run P s w).andThen fun a w' => .ok (f a) w' := by
  show Sem.run P (s >>= fun a => pure (f a)) w = _
  rw [Sem.run_bind]
  rfl
theorem results_cell1 {fn : Func} {a : Tmp} {t : TypeId} (h : fn.results = #[.cell a t]) (tmps : Array Value) (P : Program) (w : World) {p : Addr} {x : Value} (ha : tmps.getD a undef = .pointer (some p)) (hx : (loadVar t p).run P w = .ok x w) : (results fn tmps).run P w = .ok x w := by
  unfold results
  rw [h]
  simp only [Array.mapM_eq_foldlM, List.foldlM_toArray, List.foldlM_cons, List.foldlM_nil, ha, asAddr, run_fmap, Sem.run_bind, Sem.run_pure, Result.andThen_ok, hx]
  rfl
theorem queue_load {W : World} {z : Nat} {v : Value} {o : Int} (h : QBox W z v o) : (loadVar 25 ⟨z, 0, none⟩).run Try.prog W = .ok (.agg #[v, .int .u64 o]) W := by
  obtain ⟨h0, h1⟩ := h.cells
  simp [go_sem, h0, h1]

/-- A queue in memory of its own. -/
def GivesQ (B : Nat) (over : Int) (l : List (Int × Int)) (e : Ending) (w' : World) : Prop := ∃ v, e = .returned (.agg #[v, .int .u64 over]) ∧ w'.ownsRow B 53 2 v l.length (cvs l)

theorem run_copy_many {P : Program} (w : World) (dT sT ty elem : TypeId) (sz : Nat) (g dLen dCap sLen sCap : Nat) (ad : Addr) (cur : Array Value) (t : TypeId) (cs : List Value)
    (hu : P.underlying dT = some (.slice elem)) (hs : (P.info? elem).map (·.size) = some sz) (hg : w.heap[g]? = some (.cells cur t (0, 0))) (hn : cs.length = Nat.min sLen dLen * sz)
    (hsrc : ∀ j v, cs[j]? = some v → w.cell? (ad.add j) = some v) (hfit : cs.length = cur.size) (h1 : ∀ v ∈ cs, v.oneCell' = true) :
    (Builtin.copy_ #[dT, sT] ty #[.slice (some ⟨g, 0, none⟩) dLen dCap, .slice (some ad) sLen sCap]).run P w = .ok (goInt (Nat.min sLen dLen)) (w.setRow g cs.toArray) := by
  have hl := run_loadCells_list (P := P) w ad cs hsrc
  have hst := run_storeCells_at P g 0 t cs 0 cur w hg (by omega) h1
  have hdr : cur.toList.drop (0 + 0 + cs.length) = [] := List.drop_eq_nil_of_le (by rw [Array.length_toList]; omega)
  rw [hdr] at hst
  cases hq : P.info? elem with
  | none => simp [hq] at hs
  | some i =>
    have hi : i.size = sz := by simpa [hq] using hs
    simp [Builtin.copy_, run_underlying hu, Builtin.lenOf, Builtin.firstCells, sizeOf, typeInfo, hq, hi, ← hn, hl, hst]
theorem run_copy_zero {P : Program} (w : World) (dT sT ty elem : TypeId) (sz : Nat) (g dCap sCap : Nat) (a : Option Addr)
    (hu : P.underlying dT = some (.slice elem)) (hs : (P.info? elem).map (·.size) = some sz) :
    (Builtin.copy_ #[dT, sT] ty #[.slice (some ⟨g, 0, none⟩) 0 dCap, .slice a 0 sCap]).run P w = .ok (goInt 0) w := by
  cases hq : P.info? elem with
  | none => simp [hq] at hs
  | some i =>
    cases a <;> simp [Builtin.copy_, run_underlying hu, Builtin.lenOf, Builtin.firstCells, sizeOf, typeInfo, hq, storeCells, loadCells, loadCellsFrom]

theorem info_cb : (Try.prog.info? 53).map (fun i => (i.zero, i.size, i.bytes)) = some (some (.agg #[.int .u64 0, .int .u64 0]), 2, 16) := by kernel_rfl
theorem run_makeC (n : Nat) (hn : n ≤ 1099511627776) (w : World) : (Instr.makeSlice 22 (.int .i64 (n : Int)) (.int .i64 (n : Int))).run Try.prog w = .ok (.slice (some ⟨w.heap.size, 0, none⟩) n n) (w.alloc (.cells (madeCells #[.int .u64 0, .int .u64 0] (n * 2)) 53)) := by
  obtain ⟨i0, hi, hz0, hz1, hz2⟩ := info_parts info_cb
  have := run_make (P := Try.prog) w 22 53 i0 (.agg #[.int .u64 0, .int .u64 0]) Try.underlying22 hi hz0 .i64 .i64 (n : Int) (n : Int) (by omega) (by omega) (by rw [hz2]; omega) (by omega)
  rw [this, hz1, Int.toNat_natCast]
  rfl
theorem owns_block {W : World} {B g : Nat} {l : List (Int × Int)} (h : W.heap[g]? = some (.cells (cvs l).toArray 53 (0, 0))) (hB : B ≤ g) (hl : l.length ≤ 1099511627776) : W.ownsRow B 53 2 (.slice (some ⟨g, 0, none⟩) l.length l.length) l.length (cvs l) :=
  ⟨by rw [cvs_len], .inr ⟨g, l.length, _, rfl, hB, h, Nat.le_refl _, by unfold maxLen; omega, by rw [List.size_toArray, cvs_len], by rw [List.toList_toArray]; exact List.take_of_length_le (by rw [cvs_len]; omega)⟩⟩

set_option maxHeartbeats 8000000 in
theorem own_c (v : Value) (over : Int) (l : List (Int × Int)) (W : World) (hv : CbOut NoS W v l) (hl : l.length ≤ 1000) :
    Calls Try.prog 27 #[.agg #[v, .int .u64 over]] W fun e w' => GivesQ W.heap.size over l e w' ∧ Below W.heap.size W w' := by
  obtain ⟨p, cap, rfl, hcp, hmx, hc⟩ := id hv
  obtain ⟨n, hn⟩ : ∃ n, n = l.length := ⟨_, rfl⟩
  rw [← hn] at hcp hl ⊢
  obtain ⟨w0, hw0⟩ : ∃ X : World, X = ((W.alloc (.cells #[.slice p n cap, .int .u64 over] 25)).alloc (.cells #[.slice none 0 0, .int .u64 0] 25)).alloc (.cells (madeCells #[.int .u64 0, .int .u64 0] (n * 2)) 53) := ⟨_, rfl⟩
  have hb0 : Below W.heap.size W w0 := by rw [hw0]; exact below3 _ _ _ _
  have HB0 := Lib.hid (show QBox w0 W.heap.size (.slice p n cap) over ∧ QBox w0 (W.heap.size + 1) (.slice none 0 0) 0 ∧ w0.heap[W.heap.size + 2]? = some (.cells (madeCells #[.int .u64 0, .int .u64 0] (n * 2)) 53 (0, 0)) ∧ w0.heap.size = W.heap.size + 3 ∧ Below W.heap.size W w0 by
    rw [hw0]
    refine ⟨((QBox.new W _ _).below (below1 _ _)).below (below1 _ _), ?_, ?_, by simp, by rw [← hw0]; exact hb0⟩
    · have := QBox.new (W.alloc (.cells #[.slice p n cap, .int .u64 over] 25)) (.slice none 0 0) 0
      rw [World.size_alloc] at this
      exact this.below (below1 _ _)
    · have := World.alloc_heap_new ((W.alloc (.cells #[.slice p n cap, .int .u64 over] 25)).alloc (.cells #[.slice none 0 0, .int .u64 0] 25)) (.cells (madeCells #[.int .u64 0, .int .u64 0] (n * 2)) 53)
      rwa [World.size_alloc, World.size_alloc] at this)
  have HV := Lib.hid (hv.below hb0)
  have hmk := run_makeC n (by omega)
  have HW0 := Lib.hid hw0
  have HN := Lib.hid hn
  have hnm : n ≤ 9223372036854775807 := by omega
  obtain ⟨w2, hw2⟩ : ∃ w2, (Builtin.copy_ #[22, 22] 3 #[.slice (some ⟨W.heap.size + 2, 0, none⟩) n n, .slice p n cap]).run Try.prog w0 = .ok (goInt n) w2 ∧ w2.heap[W.heap.size + 2]? = some (.cells (cvs l).toArray 53 (0, 0)) ∧ Keeps (fun k => k = W.heap.size + 2) w0 w2 := by
    by_cases hne : l = []
    · have h0 : n = 0 := by rw [hn, hne]; rfl
      subst h0
      refine ⟨w0, run_copy_zero w0 _ _ _ 53 2 _ _ _ _ Try.underlying22 (by kernel_rfl), ?_, Keeps.refl _ _⟩
      rw [hne]
      have := HB0.out.2.2.1
      rw [Array.eq_empty_of_size_eq_zero (show (madeCells #[Value.int .u64 0, Value.int .u64 0] (0 * 2)).size = 0 from size_madeCells _ _)] at this
      exact this
    · obtain ⟨b, off, rfl, -, hcs⟩ := hc hne
      have h := run_copy_many (P := Try.prog) w0 22 22 3 53 2 (W.heap.size + 2) n n n cap ⟨b, off, none⟩ _ _ (cvs l) Try.underlying22 (by kernel_rfl) HB0.out.2.2.1 (by rw [cvs_len, ← hn]; simp) ?_ (by rw [cvs_len, size_madeCells, hn]) (cvs_one l)
      · rw [show Nat.min n n = n from Nat.min_self n] at h
        refine ⟨_, h, setRow_heap w0 _ _ _ _ _ HB0.out.2.2.1, ⟨rfl, rfl, rfl, by simp [World.setRow], fun k _ hk => setRow_other w0 _ k _ hk⟩⟩
      · intro j u hj
        obtain ⟨hj1, hj2⟩ := List.getElem?_eq_some_iff.1 hj
        rw [cvs_len] at hj1
        rw [addr_add_off]
        have hg := cvs_get l (j / 2) (by omega)
        have hcc := hcs (j / 2) (by omega)
        rcases (show j = j / 2 * 2 ∨ j = j / 2 * 2 + 1 by omega) with e | e
        · rw [← e, hj] at hg
          rw [← e] at hcc
          rw [Option.some.inj hg.1]
          exact below_cell hb0 hcc.1
        · rw [← e, hj] at hg
          have e2 : off + j = off + j / 2 * 2 + 1 := by omega
          rw [Option.some.inj hg.2, e2]
          exact below_cell hb0 hcc.2
  obtain ⟨hw2, hrow, hk2⟩ := hw2
  have HW2 := Lib.hid (show QBox w2 W.heap.size (.slice p n cap) over ∧ QBox w2 (W.heap.size + 1) (.slice none 0 0) 0 ∧ Below W.heap.size W w2 ∧ w2.ownsRow W.heap.size 53 2 (.slice (some ⟨W.heap.size + 2, 0, none⟩) n n) n (cvs l) from ⟨HB0.out.1.keeps hk2 (by omega), HB0.out.2.1.keeps hk2 (by omega), hb0.trans (hk2.below hb0.size (fun k e => by omega)), by rw [hn]; exact owns_block hrow (by omega) (by omega)⟩)
  have HK2 := Lib.hid (And.intro hrow hk2)
  clear hw0 hc hv hn hrow hk2 hb0
  go_enter Try.func27, Try.ntmps27
  go_upto_region 2 with fail
  rw [← HW0.out]
  clear hmk
  obtain ⟨q0, q1⟩ := HB0.out.1.cells
  go_upto_region 3 with fail
  clear HW0 hw2 q0 q1 HB0
  obtain ⟨q0, q1⟩ := HW2.out.1.cells
  have hr := HW2.out.2.1
  obtain ⟨r0, r1⟩ := hr.cells
  have m0 := hr.marks 0
  have m1 := hr.marks 1
  obtain ⟨w3, hw3⟩ : ∃ Y : World, Y = (w2.setCell ⟨W.heap.size + 1, 0, none⟩ (.slice (some ⟨W.heap.size + 2, 0, none⟩) n n)).setCell ⟨W.heap.size + 1, 1, none⟩ (.int .u64 over) := ⟨_, rfl⟩
  have hk3 : Keeps (fun k => k = W.heap.size + 1) w2 w3 := by rw [hw3]; exact QBox.putK _ _ _ _
  have H3 := Lib.hid (show QBox w3 (W.heap.size + 1) (.slice (some ⟨W.heap.size + 2, 0, none⟩) n n) over ∧ Below W.heap.size W w3 ∧ w3.ownsRow W.heap.size 53 2 (.slice (some ⟨W.heap.size + 2, 0, none⟩) n n) n (cvs l) from ⟨by rw [hw3]; exact hr.put _ _, HW2.out.2.2.1.trans (hk3.below HW2.out.2.2.1.size (fun k e => by omega)), hk3.row HW2.out.2.2.2 (fun g e => by simp [Value.ownBlock] at e; omega)⟩)
  have HW3 := Lib.hid hw3
  clear hk3 hw3 hr
  go_wp2
  rw [← HW3.out]
  refine bodyPost_ret (results_cell1 rfl _ _ _ rfl (queue_load H3.out.1)) rfl ⟨⟨_, rfl, by rw [← HN.out]; exact H3.out.2.2⟩, H3.out.2.1⟩

set_option maxHeartbeats 2000000 in
theorem cloneC (v : Value) (n : Nat) (xs : List Value) (W : World) (hv : ValsAt W v 2 n xs) (h1 : ∀ u ∈ xs, u.oneCell' = true) (hn : n ≤ 1099511627776) :
    Calls Try.prog 24 #[v] W fun e w' => OwnsNew W.heap.size 53 2 n xs e w' ∧ Below W.heap.size W w' := by
  obtain ⟨hlen, p, cap, rfl, ⟨rfl, rfl, rfl⟩ | ⟨ad, rfl, hcells⟩⟩ := hv
  · obtain rfl : xs = [] := List.eq_nil_of_length_eq_zero (by omega)
    have hcmp := fun w => Lib.run_eql_slice_nil (P := Try.prog) w 22 53 none 0 0 0 0 Try.underlying22
    go_enter Try.func24, Try.ntmps24
    go_wp2
    go_ret
    exact ⟨⟨_, rfl, World.ownsRow_nil _ _ _ _⟩, Below.refl _ _⟩
  · have hcmp := fun w => Lib.run_eql_slice_nil (P := Try.prog) w 22 53 (some ad) n cap 0 0 Try.underlying22
    obtain ⟨i0, hi, hz0, hz1, hz2⟩ := info_parts info_cb
    have hown := World.ownsRow_lit (base := W.heap.size) (e := 53) (size := 2) W #[] 0 (Nat.le_refl _) (by decide) rfl
    have hnews : ∀ j u, xs[j]? = some u → (W.alloc (Obj.cells #[] 53)).cell? (ad.add j) = some u := fun j u hj => by
      have h0 := hcells j u hj
      rw [World.cell?_alloc_lt _ _ _ (World.block_lt_of_cell? W _ h0)]
      exact h0
    have HN := Lib.hid hnews
    have H1 := Lib.hid h1
    have HO := Lib.hid hown
    clear hnews h1 hown hcells
    go_enter Try.func24, Try.ntmps24
    go_wp2_with (at_builtin; refine wpList_append_own _ rfl _ _ 22 rfl W.heap.size 53 i0 (.agg #[.int .u64 0, .int .u64 0]) 2 16 Try.underlying22 hi hz0 hz1 hz2 rfl (by decide) _ _ _ rfl HO.out ad n cap xs rfl hlen HN.out H1.out (by unfold maxLen; omega) (by omega) (by simp) ?_; intro v' w1 hown' hgrow _)
    go_ret
    rw [Nat.zero_add, List.nil_append] at hown'
    exact ⟨⟨v', rfl, hown'⟩, below_grown ((Below.refl _ _).alloc (Nat.le_refl _) _) hgrow (fun k e => by cases e; exact Nat.le_refl _)⟩

end Go.Proofs.Ytdagcimkajmkaaa
