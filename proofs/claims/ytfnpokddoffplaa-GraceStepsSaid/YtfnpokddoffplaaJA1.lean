/-
  Package reader: which CPUs there are; boxes of readers; who is in a section.
  Conditions: none.
-/
import Derived.Test.YtfnpokddoffplaaRows
import Derived.ProofKit
import Derived.OpenShut
import Derived.RangeFuncNested
import Derived.RangeFuncBound
import Derived.RangeFuncCalls
import Derived.RangeFuncLeaves
import Derived.Scope
import Derived.WalkKit
import Derived.Test.YtfnpokddoffplaaProg
import Derived.Shelf.Abstract
import Derived.OwnWalk
import Derived.WalkSpells
import Derived.Laws.OwnMore
import Derived.Deep.Onto
import Derived.Lib.OwnKind
import Derived.Lib.Hide
import Derived.RangeFuncBox
import Derived.Deep.QuietTactic
import Derived.BigQuiet
import Derived.Shelf.RegionOpen
import Derived.OwnWalkIn
import Derived.TacticsInMore
import Derived.LoopNIn
import Derived.LoopIn
import Derived.Deep.RegionHeld
import Derived.Deep.RegionHeld3
import Derived.OneCell
/-
  From a walk to a row: where a law returned true and what was in memory stays, the row's word holds; for any number of arguments.
  Conditions: the arguments' types can be read whole.
-/
namespace Go.Proofs.Ytfnpokddoffplaa
open Go.ChangeShapes Go.WideShapes Go.ChangeAt Go.RowKit

theorem own : ownKnob Try.prog.godebug = none := by kernel_rfl
theorem laidOut : laidOutB Try.prog = true := by kernel_rfl

theorem trodAll_stays {H : Type} {enc : TypeId × Value → H} {P : Program} (hl : laidOutB P = true) {W W' : World} (hb : Below W.heap.size W W') : ∀ {ts : List TypeId} {vs : List Value} {ds : List (DataW H)} {ps : List MemPlace},
    (ts.all fun t => P.readableRec t && decide (t < P.types.size)) = true → DataW.TrodAll enc P W 0 (fun _ => true) true ts vs ds ps → (∀ x ∈ ps, x.block < W.heap.size) → DataW.TrodAll enc P W' 0 (fun b => decide (b < W.heap.size)) true ts vs ds ps
  | [], [], [], _, _, h, _ => h
  | t :: ts, v :: vs, d :: ds, _, hr, ⟨p, q, h, hs, e⟩, hlt => by
    subst e
    simp only [List.all_cons, Bool.and_eq_true, decide_eq_true_eq] at hr
    exact ⟨p, q, Below.trod hl hr.1.1 hr.1.2 h hb (fun x hx => hlt x (List.mem_append_left _ hx)), trodAll_stays hl hb hr.2 hs (fun x hx => hlt x (List.mem_append_right _ hx)), rfl⟩

end Go.Proofs.Ytfnpokddoffplaa
/-
  A range over a function value that has bound arguments ahead of yield (a method value) runs as one whose iterator has none: the law of a loop over such a value, for an outermost loop.
  Conditions: the loop stands in no round of another one; the iterator keeps the contract 'SeqBound' below.
-/
namespace Go.Proofs.Ytfnpokddoffplaa
open Go.RowKit

/-- The iterator's contract, for a value with bound arguments bd and captured ones lb: it is called at bd, yield, lb. -/
def SeqBound {α : Type} (F : Fence) (n : Nat) (P : Program) (g : Nat) (bd lb : Array Value) (encs : α → Array Value) (Kp : World → World → Prop) (S Sp : List α → Prop) (N : Nat) (w : World) : Prop :=
  ∀ (l : Nat) (J Jx : List α → World → Prop) (W : World), Below w.heap.size w W → AbidesFrom W.heap.size J → AbidesFrom W.heap.size Jx →
    (∀ pre x W1, J pre W1 → pre.length < N → YieldAt F (n - 1) P l (encs x) W1 fun e W' =>
      (e = .returned (.bool true) ∧ J (pre ++ [x]) W' ∧ Kp W1 W') ∨ (e = .returned (.bool false) ∧ Jx (pre ++ [x]) W')) →
    J [] W →
    CallsIn F n P g (bd ++ #[.func (.yield l) #[] #[]] ++ lb) W fun e W' => (∃ v, e = .returned v) ∧ ((∃ xs, S xs ∧ J xs W') ∨ (∃ pre, Sp pre ∧ Jx pre W'))

/-- The two blocks that an outermost loop lays where a heap of z blocks ends: the one for the rounds' deferred calls, and behind it the loop's record. -/
def Books (z : Nat) (r : Loop) (W : World) : Prop := W.heap[z + 1]? = some (.loop r) ∧ W.heap[z]? = some (.deferred (some []))

theorem Books.lt {z : Nat} {r : Loop} {W : World} (h : Books z r W) : z + 1 < W.heap.size := (Array.getElem?_eq_some_iff.1 h.1).1
theorem Books.from {z : Nat} {r : Loop} {W W' : World} (h : Books z r W) (hk : KeepsFrom z W W') : Books z r W' :=
  ⟨hk.same _ _ (by omega) h.1 rfl, hk.same _ _ (Nat.le_refl _) h.2 rfl⟩
theorem Books.turn {z : Nat} {r r' : Loop} {W : World} (h : Books z r W) : Books z r' (W.putObj (z + 1) (.loop r')) :=
  ⟨World.putObj_heap_same h.lt, (World.putObj_heap_other (by omega)).trans h.2⟩

/-- THE LAW. I: what holds between two rounds; Ix: what holds where a round has left by a jump; Ax: what holds behind the assignment to the loop's variables. -/
theorem wpIn_rangeBound {α : Type} {F : Fence} {n : Nat} {P : Program} {w : World} {g : Operand} {ps : Array Tmp} {assign body : Code} {Q : Exit → Act → World → Prop} {a : Act}
    (hro : F.round = none) (h1 : 1 ≤ n) {gf : Nat} {bd lb : Array Value} (hg : a.eval g = .func (.func gf) bd lb) (hFg : F.fn gf) (eg : ∀ args w, (callFunc gf args).run P w = .ok (.enter gf args) w)
    {encs : α → Array Value} {Kp : World → World → Prop} {S Sp : List α → Prop} {N : Nat} {w0 : World} (hseq : SeqBound F (n - 1) P gf bd lb encs Kp S Sp N w0)
    (hKt : ∀ {A B C : World}, Kp A B → Kp B C → Kp A C) (hKb : ∀ (W : World) (l : Nat) (o o' : Obj), w.heap.size ≤ l → W.heap[l]? = some o → o.isCells = false → o.isWalk = false → Kp W (W.putObj l o')) (hb0 : Below w0.heap.size w0 w) (hps : ∀ x, (encs x).size = ps.size)
    (I : List α → World → Prop) (Ix : Code → List α → World → Prop) (hI : OwnFrom w.heap.size I) (hIx : ∀ c, OwnFrom w.heap.size (Ix c)) (h0 : I [] w) (Ax : α → Act → World → Prop) (hAx : ∀ x a', OwnFrom w.heap.size (fun (_ : Unit) W => Ax x a' W))
    (hassign : ∀ (l : Nat) (pre : List α) (x : α) (W : World) (K : Act → World → Prop), I pre W → (∀ a' W', KeepsFrom w.heap.size W W' → Kp W W' → I pre W' → Ax x a' W' → K a' W') →
      assign.wpIn (F.inRound l) (n - 1 - 1) P (Exit.then K (fun _ _ _ => False)) { tmps := (ps.zip (encs x)).foldl (fun t (p, v) => t.setIfInBounds p v) a.tmps, defers := [] } W)
    (hbody : ∀ (l : Nat) (pre : List α) (x : α) (a' : Act) (W : World), w.heap.size ≤ l → (∃ r, W.heap[l]? = some (.loop r)) → I pre W → Ax x a' W → pre.length < N → body.wpIn (F.inRound l) (n - 1 - 1) P (ownPostG w.heap.size Kp I Ix (pre ++ [x]) W) a' W)
    (hdone : ∀ (D : Nat) (xs : List α) (W : World), w.heap.size ≤ D → S xs → I xs W → W.heap[D]? = some (.deferred (some [])) → Q .normal { a with defers := { target := .collected D, args := #[] } :: a.defers } W)
    (hstop : ∀ (D : Nat) (c : Code) (pre : List α) (W : World), w.heap.size ≤ D → Sp pre → Ix c pre W → W.heap[D]? = some (.deferred (some [])) → c.wpIn F n P Q { a with defers := { target := .collected D, args := #[] } :: a.defers } W) :
    (Code.rangeFunc g ps assign body).wpIn F n P Q a w := by
  refine wpIn_rangeFunc fun fn hfn => ?_
  rw [hro]
  generalize hz : w.heap.size = z at *
  obtain ⟨rec, hrec⟩ : ∃ rec : LoopState → Option Code → Loop, ∀ st pe, rec st pe = { state := st, pending := pe, fn, tmps := a.tmps, params := ps, assign, body, defers := z } := ⟨fun st pe => _, fun _ _ => rfl⟩
  obtain ⟨W1, hW1⟩ : ∃ W1, W1 = (w.alloc (.deferred (some []))).alloc (.loop (rec .ready none)) := ⟨_, rfl⟩
  have hz1 : W1.heap.size = z + 2 := by rw [hW1]; simp [hz]
  have hB1 : Books z (rec .ready none) W1 := by
    rw [hW1]
    constructor
    · have := World.alloc_heap_new (w.alloc (.deferred (some []))) (.loop (rec .ready none))
      rwa [World.size_alloc, hz] at this
    · rw [← hz]; exact (Below.heap_alloc _ _ _ (by simp)).trans (World.alloc_heap_new w _)
  have hI1 : I [] W1 := by rw [hW1]; exact hI.alloc _ (hI.alloc _ h0)
  have hb1 : Below w0.heap.size w0 W1 := by
    rw [hW1]; exact hb0.trans ((((Below.refl _ w).alloc (Nat.le_refl _) _).alloc (by simp) _).mono hb0.size)
  have hwalk : ∀ {A : World} {row : Option Nat}, (∀ r, row = some r → W1.heap.size ≤ r ∧ ∃ o : Obj, A.heap[r]? = some o ∧ o.isWalk = true) → ∀ r, row = some r → z ≤ r ∧ ∃ o : Obj, A.heap[r]? = some o ∧ o.isCells = false :=
    fun hr r e => by obtain ⟨hB, o, ho, hw⟩ := hr r e; exact ⟨by omega, o, ho, Obj.not_cells_of_walk hw⟩
  have hbooks : ∀ {st : LoopState} {pe : Option Code} {A B : World} {row : Option Nat}, Books z (rec st pe) A → A.grownBy B row → (∀ r, row = some r → W1.heap.size ≤ r ∧ ∃ o : Obj, A.heap[r]? = some o ∧ o.isWalk = true) → Books z (rec st pe) B :=
    fun hs hg' hr => ⟨(grownBy_keeps hg' (fun r e => (hr r e).2) hs.1 rfl).trans hs.1, (grownBy_keeps hg' (fun r e => (hr r e).2) hs.2 rfl).trans hs.2⟩
  refine ⟨z + 1, [{ target := .collected z, args := #[] }], W1, { target := .fn (.func gf) lb, args := bd ++ #[.func (.yield (z + 1)) #[] #[]] }, W1, gf, bd ++ #[.func (.yield (z + 1)) #[] #[]] ++ lb, W1, ?_, ?_, ?_, ?_, fun _ => h1, ?_⟩
  · have := run_enterLoop_outer (P := P) (w := w) fn a.tmps ps assign body
    rw [hW1, hrec, ← hz]; exact this
  · simp only [resolve, hg]
    simp [go_sem]
  · intro f' hf'; simp [Target.leads] at hf'; subst hf'; exact hFg
  · simp only [invoke, eg]
  · refine (hseq (z + 1) (fun pre W => I pre W ∧ Books z (rec .ready none) W) (fun pre W => ∃ c, Ix c pre W ∧ Books z (rec .done (some c)) W) W1 hb1
      (fun s A B row hs hg' hr => ⟨hI s A B row hs.1 hg' (hwalk hr), hbooks hs.2 hg' hr⟩)
      (fun s A B row hs hg' hr => by
        obtain ⟨c, hc, hb⟩ := hs
        exact ⟨c, hIx c s A B row hc hg' (hwalk hr), hbooks hb hg' hr⟩)
      ?_ ⟨hI1, hB1⟩).mono ?_
    · rintro pre x W ⟨hi, hb⟩ hlen
      have hy := run_yield (P := P) (args := encs x) hb.1 (by rw [hrec]; exact hps x)
      rw [hrec] at hy
      refine ⟨fn, _, assign, body, hy, roundIn_of_wpIn hfn (hassign _ pre x W _ hi ?_)⟩
      clear hy
      intro a' Wa hkfa hkpa hia hax
      have hba := hb.from hkfa
      refine ⟨_, run_beginRound hba.1 (by rw [hrec]), ?_⟩
      have hb2 : Books z (rec .busy none) (Wa.putObj (z + 1) (.loop (rec .busy none))) := hba.turn
      have hw2 : Kp Wa (Wa.putObj (z + 1) (.loop (rec .busy none))) := hKb _ _ _ _ (by omega) hba.1 rfl rfl
      have hsame : ({ rec .ready none with state := .busy } : Loop) = rec .busy none := by rw [hrec, hrec]
      rw [hsame]
      refine wpIn_mono (hbody _ pre x a' _ (by omega) ⟨_, hb2.1⟩ (hI.putObj _ hia (by omega) hba.1 rfl) ((hAx x a').putObj (s := ()) _ hax (by omega) hba.1 rfl) hlen) ?_
      have fin : ∀ (jump : Option Code) (W3 : World), KeepsFrom z (Wa.putObj (z + 1) (.loop (rec .busy none))) W3 →
          (Instr.endRound (z + 1) jump).run P W3 = .ok (.bool jump.isNone) (W3.putObj (z + 1) (.loop (rec (if jump.isNone then .ready else .done) jump))) ∧
          Books z (rec .busy none) W3 ∧ Books z (rec (if jump.isNone then .ready else .done) jump) (W3.putObj (z + 1) (.loop (rec (if jump.isNone then .ready else .done) jump))) := fun jump W3 hk3 => by
        have hb3 := hb2.from hk3
        have := run_endRound (P := P) jump hb3.1
        rw [hrec] at this
        rw [hrec]
        exact ⟨this, hb3, by rw [← hrec]; exact hb3.turn⟩
      rintro e a3 W3 hp
      cases e with
      | normal =>
        obtain ⟨hk3, hkp3, hi3⟩ := hp
        obtain ⟨hr, hb3, hb4⟩ := fin none W3 hk3
        exact ⟨_, _, hr, .inl ⟨rfl, ⟨hI.putObj _ hi3 (by omega) hb3.1 rfl, hb4⟩, hKt hkpa (hKt (hKt hw2 hkp3) (hKb _ _ _ _ (by omega) hb3.1 rfl rfl))⟩⟩
      | ret =>
        obtain ⟨hk3, hi3⟩ := hp
        obtain ⟨hr, hb3, hb4⟩ := fin (some .ret) W3 hk3
        exact ⟨_, _, hr, .inr ⟨rfl, .ret, (hIx _).putObj _ hi3 (by omega) hb3.1 rfl, hb4⟩⟩
      | exit id =>
        obtain ⟨hk3, hi3⟩ := hp
        obtain ⟨hr, hb3, hb4⟩ := fin (some (.exit id)) W3 hk3
        exact ⟨_, _, hr, .inr ⟨rfl, .exit id, (hIx _).putObj _ hi3 (by omega) hb3.1 rfl, hb4⟩⟩
      | goto t =>
        obtain ⟨hk3, hi3⟩ := hp
        obtain ⟨hr, hb3, hb4⟩ := fin (some (.goto t)) W3 hk3
        exact ⟨_, _, hr, .inr ⟨rfl, .goto t, (hIx _).putObj _ hi3 (by omega) hb3.1 rfl, hb4⟩⟩
      | panic ch => exact hp.elim
      | outgrown => exact hp.elim
    · rintro e W2 ⟨⟨v, rfl⟩, (⟨xs, hS, hi, hb⟩ | ⟨pre, hSp, c, hi, hb⟩)⟩
      · refine ⟨none, _, by have := run_endLoop (P := P) hb.1 (by rw [hrec]; simp); rw [hrec] at this; exact this, ?_⟩
        exact hdone _ xs _ (by omega) hS (hI.putObj _ hi (by omega) hb.1 rfl) ((World.putObj_heap_other (by omega)).trans hb.2)
      · refine ⟨some c, _, by have := run_endLoop (P := P) hb.1 (by rw [hrec]; simp); rw [hrec] at this; exact this, ?_⟩
        exact hstop _ c pre _ (by omega) hSp ((hIx c).putObj _ hi (by omega) hb.1 rfl) ((World.putObj_heap_other (by omega)).trans hb.2)

/-- A scope through which the run goes without a goto, under a fence. -/
theorem wpIn_scope {F : Fence} {n : Nat} {P : Program} {c : Code} {Q : Exit → Act → World → Prop} {a : Act} {w : World} (h : c.wpIn F n P (Exit.noGoto Q) a w) : (Code.scope c).wpIn F n P Q a w := by
  intro b k cs hro hb hr
  have h0 : (lone (b.atR a (.code (.scope c) :: k)) cs w).fenced P F := fenced_calm hb hr rfl
  have s0 : step P (lone (b.atR a (.code (.scope c) :: k)) cs w) = .next (lone (b.atR a (.code c :: .inScope c :: k)) cs w) := step_lone_go (by simp [stepG, stepG.exec, Frame.atR])
  obtain ⟨e, a₁, w₁, hq, harr⟩ := h b (.inScope c :: k) cs hro hb hr
  cases e with
  | normal => exact ⟨.normal, a₁, w₁, hq, .head h0 s0 (StepsIn.trans harr (.one (fenced_calm hb hr rfl) (step_lone_go (by simp [stepG, stepG.exec, Frame.atR]))))⟩
  | exit id =>
    have hx : exitTo id (.inScope c :: k) = exitTo id k := by simp [exitTo]
    exact ⟨.exit id, a₁, w₁, hq, fun k' hk => .head h0 s0 (harr.1 k' (by rw [hx]; exact hk)),
      fun hr' hk => let ⟨k₁, h1, h2⟩ := harr.2 hr' (by rw [hx]; exact hk); ⟨k₁, h1, .head h0 s0 h2⟩⟩
  | goto l => exact hq.elim
  | ret => exact ⟨_, a₁, w₁, hq, .of_steps (.one h0 s0) harr⟩
  | panic ch => exact ⟨_, a₁, w₁, hq, .of_steps (.one h0 s0) harr⟩
  | outgrown => exact ⟨_, a₁, w₁, hq, .of_steps (.one h0 s0) harr⟩

/-- The marks that loops over functions have left among the deferred calls: the block of each, from B on, hands over nothing. -/
def Marks (B : Nat) (Ds : List Nat) (W : World) : Prop := Ds.Nodup ∧ ∀ D ∈ Ds, B ≤ D ∧ W.heap[D]? = some (.deferred (some []))
theorem Marks.nil (B : Nat) (W : World) : Marks B [] W := ⟨List.nodup_nil, fun _ h => by cases h⟩
theorem Marks.keeps {B : Nat} {Ds : List Nat} {W W' : World} (h : Marks B Ds W) (hk : KeepsOthers W W') : Marks B Ds W' := ⟨h.1, fun D hD => ⟨(h.2 D hD).1, hk.same _ _ (h.2 D hD).2 rfl⟩⟩
theorem Marks.below {B : Nat} {Ds : List Nat} {W W' : World} (h : Marks B Ds W) (hk : Below W.heap.size W W') : Marks B Ds W' :=
  ⟨h.1, fun D hD => ⟨(h.2 D hD).1, (hk.block D (Array.getElem?_eq_some_iff.1 (h.2 D hD).2).1).trans (h.2 D hD).2⟩⟩
theorem Marks.lt {B : Nat} {Ds : List Nat} {W : World} (h : Marks B Ds W) {D : Nat} (hD : D ∈ Ds) : D < W.heap.size := (Array.getElem?_eq_some_iff.1 (h.2 D hD).2).1
theorem Marks.cons {B : Nat} {Ds : List Nat} {W : World} (h : Marks B Ds W) {D : Nat} (hB : B ≤ D) (hne : D ∉ Ds) (hK : W.heap[D]? = some (.deferred (some []))) : Marks B (D :: Ds) W :=
  ⟨List.nodup_cons.2 ⟨hne, h.1⟩, fun E hE => by
    rcases List.mem_cons.1 hE with e | e
    · subst e; exact ⟨hB, hK⟩
    · exact h.2 E e⟩
/-- The marks abide a turn of a loop's own books, where the loop began behind them. -/
theorem marks_own {β : Type} {B z : Nat} {Ds : List Nat} (hz : ∀ D ∈ Ds, D < z) : OwnFrom z (fun (_ : β) W => Marks B Ds W) := fun _ _ _ row hs hg hr =>
  ⟨hs.1, fun D hD => ⟨(hs.2 D hD).1, (hg.block D (hs.lt hD) (fun e => by have := (hr D e.symm).1; have := hz D hD; omega)).trans (hs.2 D hD).2⟩⟩

def marksOf (Ds : List Nat) : List Deferred := Ds.map fun D => { target := .collected D, args := #[] }

/-- A function that has left such marks returns as one that has left none, but that their blocks are shut. -/
theorem leaves_marks {F : Fence} {n : Nat} {P : Program} {fn : Func} {tmps : Array Value} {R : Ending → World → Prop} {B : Nat} : ∀ (Ds : List Nat) (W : World), Marks B Ds W →
    (∀ W', Below B W W' → LeavesIn F n P fn tmps R [] .returning W') → LeavesInM F n P fn tmps R (marksOf Ds) .returning W
  | [], W, _, h => h W (Below.refl _ _)
  | D :: Ds, W, hm, h => by
    obtain ⟨hB, hK⟩ := hm.2 D List.mem_cons_self
    have hlt := hm.lt (D := D) List.mem_cons_self
    have hb : Below B W (W.putObj D (.deferred none)) := (Below.refl B W).grown (grownBy_putObj' W D _) (by omega) (fun k e => by cases e; exact hB)
    refine ⟨by simp, .inl ⟨D, _, rfl, run_takeDeferred hK, leaves_marks Ds _ ⟨(List.nodup_cons.1 hm.1).2, fun E hE => ?_⟩ fun W' hW' => h W' (hb.trans hW')⟩⟩
    have hne : E ≠ D := fun e => (List.nodup_cons.1 hm.1).1 (e ▸ hE)
    obtain ⟨h1, h2⟩ := hm.2 E (List.mem_cons_of_mem _ hE)
    exact ⟨h1, (World.putObj_heap_other hne).trans h2⟩

end Go.Proofs.Ytfnpokddoffplaa
/-
  A range over an iterator that itself ranges over one: the iterator's contract, and the law of an outermost loop over it.
  Conditions: the loop stands in no round of another one; the iterator keeps the contract 'SeqDeep' below.
-/
namespace Go.Proofs.Ytfnpokddoffplaa
open Go.RowKit

/-- The iterator's contract: what the caller says between rounds abides turns of records of loops that began behind the call; a round keeps such records. -/
def SeqDeep {α : Type} (F : Fence) (n : Nat) (P : Program) (g : Nat) (lb : Array Value) (encs : α → Array Value) (Kp : World → World → Prop) (S Sp : List α → Prop) (N : Nat) (w : World) : Prop :=
  ∀ (l : Nat) (J Jx : List α → World → Prop) (W : World), Below w.heap.size w W → OwnFrom W.heap.size J → OwnFrom W.heap.size Jx →
    (∀ pre x W1, J pre W1 → pre.length < N → Sp (pre ++ [x]) → YieldAt F (n - 1) P l (encs x) W1 fun e W' =>
      (e = .returned (.bool true) ∧ J (pre ++ [x]) W' ∧ Kp W1 W' ∧ KeepsFrom W.heap.size W1 W') ∨ (e = .returned (.bool false) ∧ Jx (pre ++ [x]) W' ∧ KeepsFrom W.heap.size W1 W')) →
    J [] W →
    CallsIn F n P g (#[.func (.yield l) #[] #[]] ++ lb) W fun e W' => (∃ v, e = .returned v) ∧ ((∃ xs, S xs ∧ J xs W') ∨ (∃ pre, Sp pre ∧ Jx pre W'))

/-- THE LAW. I: what holds between two rounds; Ix: what holds where a round has left by a jump; Ax: what holds behind the assignment to the loop's variables. -/
theorem wpIn_rangeDeep {α : Type} {F : Fence} {n : Nat} {P : Program} {w : World} {g : Operand} {ps : Array Tmp} {assign body : Code} {Q : Exit → Act → World → Prop} {a : Act}
    (hro : F.round = none) (h1 : 1 ≤ n) {gf : Nat} {lb : Array Value} (hg : a.eval g = .func (.func gf) #[] lb) (hFg : F.fn gf) (eg : ∀ args w, (callFunc gf args).run P w = .ok (.enter gf args) w)
    {encs : α → Array Value} {Kp : World → World → Prop} {S Sp : List α → Prop} {N : Nat} {w0 : World} (hseq : SeqDeep F (n - 1) P gf lb encs Kp S Sp N w0)
    (hKt : ∀ {A B C : World}, Kp A B → Kp B C → Kp A C) (hKb : ∀ (W : World) (l : Nat) (o o' : Obj), w.heap.size ≤ l → W.heap[l]? = some o → o.isCells = false → o.isWalk = false → Kp W (W.putObj l o')) (hb0 : Below w0.heap.size w0 w) (hps : ∀ x, (encs x).size = ps.size)
    (I : List α → World → Prop) (Ix : Code → List α → World → Prop) (hI : OwnFrom w.heap.size I) (hIx : ∀ c, OwnFrom w.heap.size (Ix c)) (h0 : I [] w) (Ax : α → Act → World → Prop) (hAx : ∀ x a', OwnFrom w.heap.size (fun (_ : Unit) W => Ax x a' W))
    (hassign : ∀ (l : Nat) (pre : List α) (x : α) (W : World) (K : Act → World → Prop), I pre W → (∀ a' W', KeepsFrom w.heap.size W W' → Kp W W' → I pre W' → Ax x a' W' → K a' W') →
      assign.wpIn (F.inRound l) (n - 1 - 1) P (Exit.then K (fun _ _ _ => False)) { tmps := (ps.zip (encs x)).foldl (fun t (p, v) => t.setIfInBounds p v) a.tmps, defers := [] } W)
    (hbody : ∀ (l : Nat) (pre : List α) (x : α) (a' : Act) (W : World), w.heap.size ≤ l → (∃ r, W.heap[l]? = some (.loop r)) → I pre W → Ax x a' W → pre.length < N → Sp (pre ++ [x]) → body.wpIn (F.inRound l) (n - 1 - 1) P (ownPostG w.heap.size Kp I Ix (pre ++ [x]) W) a' W)
    (hdone : ∀ (D : Nat) (xs : List α) (W : World), w.heap.size ≤ D → S xs → I xs W → W.heap[D]? = some (.deferred (some [])) → Q .normal { a with defers := { target := .collected D, args := #[] } :: a.defers } W)
    (hstop : ∀ (D : Nat) (c : Code) (pre : List α) (W : World), w.heap.size ≤ D → Sp pre → Ix c pre W → W.heap[D]? = some (.deferred (some [])) → c.wpIn F n P Q { a with defers := { target := .collected D, args := #[] } :: a.defers } W) :
    (Code.rangeFunc g ps assign body).wpIn F n P Q a w := by
  refine wpIn_rangeFunc fun fn hfn => ?_
  rw [hro]
  generalize hz : w.heap.size = z at *
  obtain ⟨rec, hrec⟩ : ∃ rec : LoopState → Option Code → Loop, ∀ st pe, rec st pe = { state := st, pending := pe, fn, tmps := a.tmps, params := ps, assign, body, defers := z } := ⟨fun st pe => _, fun _ _ => rfl⟩
  obtain ⟨W1, hW1⟩ : ∃ W1, W1 = (w.alloc (.deferred (some []))).alloc (.loop (rec .ready none)) := ⟨_, rfl⟩
  have hz1 : W1.heap.size = z + 2 := by rw [hW1]; simp [hz]
  have hB1 : Books z (rec .ready none) W1 := by
    rw [hW1]
    constructor
    · have := World.alloc_heap_new (w.alloc (.deferred (some []))) (.loop (rec .ready none))
      rwa [World.size_alloc, hz] at this
    · rw [← hz]; exact (Below.heap_alloc _ _ _ (by simp)).trans (World.alloc_heap_new w _)
  have hI1 : I [] W1 := by rw [hW1]; exact hI.alloc _ (hI.alloc _ h0)
  have hb1 : Below w0.heap.size w0 W1 := by
    rw [hW1]; exact hb0.trans ((((Below.refl _ w).alloc (Nat.le_refl _) _).alloc (by simp) _).mono hb0.size)
  have hup : ∀ {A : World} {row : Option Nat}, (∀ r, row = some r → W1.heap.size ≤ r ∧ ∃ o : Obj, A.heap[r]? = some o ∧ o.isCells = false) → ∀ r, row = some r → z ≤ r ∧ ∃ o : Obj, A.heap[r]? = some o ∧ o.isCells = false :=
    fun hr r e => ⟨by have := (hr r e).1; omega, (hr r e).2⟩
  have hbooks : ∀ {st : LoopState} {pe : Option Code} {A B : World} {row : Option Nat}, Books z (rec st pe) A → A.grownBy B row → (∀ r, row = some r → W1.heap.size ≤ r ∧ ∃ o : Obj, A.heap[r]? = some o ∧ o.isCells = false) → Books z (rec st pe) B :=
    fun hs hg' hr => ⟨(hg'.block (z + 1) hs.lt (fun e => by have := (hr _ e.symm).1; omega)).trans hs.1, (hg'.block z (by have := hs.lt; omega) (fun e => by have := (hr _ e.symm).1; omega)).trans hs.2⟩
  have hkf : ∀ {A B : World}, KeepsFrom z A B → KeepsFrom W1.heap.size A B := fun h => ⟨h.size, fun k o hk => h.same k o (by omega)⟩
  have hkp : ∀ (A : World) (o : Obj), KeepsFrom W1.heap.size A (A.putObj (z + 1) o) := fun A o => ⟨by simp, fun k o' hk h _ => (World.putObj_heap_other (by omega)).trans h⟩
  refine ⟨z + 1, [{ target := .collected z, args := #[] }], W1, { target := .fn (.func gf) lb, args := #[.func (.yield (z + 1)) #[] #[]] }, W1, gf, #[.func (.yield (z + 1)) #[] #[]] ++ lb, W1, ?_, ?_, ?_, ?_, fun _ => h1, ?_⟩
  · have := run_enterLoop_outer (P := P) (w := w) fn a.tmps ps assign body
    rw [hW1, hrec, ← hz]; exact this
  · simp only [resolve, hg]
    simp [go_sem]
  · intro f' hf'; simp [Target.leads] at hf'; subst hf'; exact hFg
  · simp only [invoke, eg]
  · refine (hseq (z + 1) (fun pre W => I pre W ∧ Books z (rec .ready none) W) (fun pre W => ∃ c, Ix c pre W ∧ Books z (rec .done (some c)) W) W1 hb1
      (fun s A B row hs hg' hr => ⟨hI s A B row hs.1 hg' (hup hr), hbooks hs.2 hg' hr⟩)
      (fun s A B row hs hg' hr => by
        obtain ⟨c, hc, hb⟩ := hs
        exact ⟨c, hIx c s A B row hc hg' (hup hr), hbooks hb hg' hr⟩)
      ?_ ⟨hI1, hB1⟩).mono ?_
    · rintro pre x W ⟨hi, hb⟩ hlen hsp
      have hy := run_yield (P := P) (args := encs x) hb.1 (by rw [hrec]; exact hps x)
      rw [hrec] at hy
      refine ⟨fn, _, assign, body, hy, roundIn_of_wpIn hfn (hassign _ pre x W _ hi ?_)⟩
      clear hy
      intro a' Wa hkfa hkpa hia hax
      have hba := hb.from hkfa
      refine ⟨_, run_beginRound hba.1 (by rw [hrec]), ?_⟩
      have hb2 : Books z (rec .busy none) (Wa.putObj (z + 1) (.loop (rec .busy none))) := hba.turn
      have hw2 : Kp Wa (Wa.putObj (z + 1) (.loop (rec .busy none))) := hKb _ _ _ _ (by omega) hba.1 rfl rfl
      have hsame : ({ rec .ready none with state := .busy } : Loop) = rec .busy none := by rw [hrec, hrec]
      rw [hsame]
      refine wpIn_mono (hbody _ pre x a' _ (by omega) ⟨_, hb2.1⟩ (hI.putObj _ hia (by omega) hba.1 rfl) ((hAx x a').putObj (s := ()) _ hax (by omega) hba.1 rfl) hlen hsp) ?_
      have fin : ∀ (jump : Option Code) (W3 : World), KeepsFrom z (Wa.putObj (z + 1) (.loop (rec .busy none))) W3 →
          (Instr.endRound (z + 1) jump).run P W3 = .ok (.bool jump.isNone) (W3.putObj (z + 1) (.loop (rec (if jump.isNone then .ready else .done) jump))) ∧
          Books z (rec .busy none) W3 ∧ Books z (rec (if jump.isNone then .ready else .done) jump) (W3.putObj (z + 1) (.loop (rec (if jump.isNone then .ready else .done) jump))) := fun jump W3 hk3 => by
        have hb3 := hb2.from hk3
        have := run_endRound (P := P) jump hb3.1
        rw [hrec] at this
        rw [hrec]
        exact ⟨this, hb3, by rw [← hrec]; exact hb3.turn⟩
      rintro e a3 W3 hp
      cases e with
      | normal =>
        obtain ⟨hk3, hkp3, hi3⟩ := hp
        obtain ⟨hr, hb3, hb4⟩ := fin none W3 hk3
        exact ⟨_, _, hr, .inl ⟨rfl, ⟨hI.putObj _ hi3 (by omega) hb3.1 rfl, hb4⟩, hKt hkpa (hKt (hKt hw2 hkp3) (hKb _ _ _ _ (by omega) hb3.1 rfl rfl)), (hkf hkfa).trans ((hkp _ _).trans ((hkf hk3).trans (hkp _ _)))⟩⟩
      | ret =>
        obtain ⟨hk3, hi3⟩ := hp
        obtain ⟨hr, hb3, hb4⟩ := fin (some .ret) W3 hk3
        exact ⟨_, _, hr, .inr ⟨rfl, ⟨.ret, (hIx _).putObj _ hi3 (by omega) hb3.1 rfl, hb4⟩, (hkf hkfa).trans ((hkp _ _).trans ((hkf hk3).trans (hkp _ _)))⟩⟩
      | exit id =>
        obtain ⟨hk3, hi3⟩ := hp
        obtain ⟨hr, hb3, hb4⟩ := fin (some (.exit id)) W3 hk3
        exact ⟨_, _, hr, .inr ⟨rfl, ⟨.exit id, (hIx _).putObj _ hi3 (by omega) hb3.1 rfl, hb4⟩, (hkf hkfa).trans ((hkp _ _).trans ((hkf hk3).trans (hkp _ _)))⟩⟩
      | goto t =>
        obtain ⟨hk3, hi3⟩ := hp
        obtain ⟨hr, hb3, hb4⟩ := fin (some (.goto t)) W3 hk3
        exact ⟨_, _, hr, .inr ⟨rfl, ⟨.goto t, (hIx _).putObj _ hi3 (by omega) hb3.1 rfl, hb4⟩, (hkf hkfa).trans ((hkp _ _).trans ((hkf hk3).trans (hkp _ _)))⟩⟩
      | panic ch => exact hp.elim
      | outgrown => exact hp.elim
    · rintro e W2 ⟨⟨v, rfl⟩, (⟨xs, hS, hi, hb⟩ | ⟨pre, hSp, c, hi, hb⟩)⟩
      · refine ⟨none, _, by have := run_endLoop (P := P) hb.1 (by rw [hrec]; simp); rw [hrec] at this; exact this, ?_⟩
        exact hdone _ xs _ (by omega) hS (hI.putObj _ hi (by omega) hb.1 rfl) ((World.putObj_heap_other (by omega)).trans hb.2)
      · refine ⟨some c, _, by have := run_endLoop (P := P) hb.1 (by rw [hrec]; simp); rw [hrec] at this; exact this, ?_⟩
        exact hstop _ c pre _ (by omega) hSp ((hIx c).putObj _ hi (by omega) hb.1 rfl) ((World.putObj_heap_other (by omega)).trans hb.2)


/-- A round within another loop's round. -/
theorem yield_within {F : Fence} (hd : F.depth = none) {m : Nat} (m' l' : Nat) {P : Program} {l : Nat} {args : Array Value} {W : World} {R : Ending → World → Prop} (h : YieldAt F m P l args W R) : YieldAt (F.inRound l') m' P l args W R := by
  obtain ⟨fn, tmps, assign, body, hy, hR⟩ := h
  exact ⟨fn, tmps, assign, body, hy, hR.1, fun c cs _ => hR.2 c cs (fun d e => by rw [hd] at e; cases e)⟩
end Go.Proofs.Ytfnpokddoffplaa
/-
  What it is for a slice to read as numbers of one kind.
  Conditions: none.
-/
namespace Go.Proofs.Ytfnpokddoffplaa

/-- A slice that reads as these numbers of one kind. -/
def NumsAt (W : World) (k : IntKind) (v : Value) (ns : List Int) : Prop := ∃ p cap, v = .slice p ns.length cap ∧
  (ns ≠ [] → ∃ b off, p = some ⟨b, off, none⟩ ∧ ∀ i (h : i < ns.length), W.cell? ⟨b, off + i, none⟩ = some (.int k ns[i]))

end Go.Proofs.Ytfnpokddoffplaa
/-
  Words of worlds, rows and slices, for the walks of any layer: what a call keeps, and how slices of numbers read.
  Conditions: as each has them.
-/
namespace Go.Proofs.Ytfnpokddoffplaa
open Go.RowKit Go.Shelf

theorem ret_bool {a b : Bool} (h : a = b) : Ending.returned (.bool a) = .returned (.bool b) := by rw [h]
theorem ret_int {k : IntKind} {a b : Int} (h : a = b) : Ending.returned (.int k a) = .returned (.int k b) := by rw [h]
theorem below_cell {W W' : World} {p : Addr} {v : Value} (hb : Below W.heap.size W W') (h : W.cell? p = some v) : W'.cell? p = some v := (hb.cell (World.block_lt_of_cell? W _ h)).trans h
theorem below_then {B : Nat} {X Y Z : World} (h : Below B X Y) (hB : B ≤ Y.heap.size) (k : Below Y.heap.size Y Z) : Below B X Z := h.trans (k.mono hB)
theorem below_drewN {B : Nat} {X w : World} (h : Below B X w) (n : Nat) : Below B X (w.drewN n) := ⟨h.os, h.tape, h.output, h.size, h.block⟩
theorem addr_add_off (b off i : Nat) : (⟨b, off, none⟩ : Addr).add i = ⟨b, off + i, none⟩ := by unfold Addr.add; split <;> simp_all
theorem below_grown {W w1 w2 : World} {r : Option Nat} (h1 : Below W.heap.size W w1) (hg : w1.grownBy w2 r) (hr : ∀ k, r = some k → W.heap.size ≤ k) : Below W.heap.size W w2 := h1.grown hg h1.size hr
/-- A slice value of n elements, size cells each, that reads as these cells. -/
def ValsAt (W : World) (v : Value) (size n : Nat) (xs : List Value) : Prop := xs.length = n * size ∧ ∃ p cap, v = .slice p n cap ∧
  ((p = none ∧ n = 0 ∧ cap = 0) ∨ ∃ a : Addr, p = some a ∧ ∀ j u, xs[j]? = some u → W.cell? (a.add j) = some u)
/-- A slice value of new memory that reads as these cells. -/
def OwnsNew (B : Nat) (E : TypeId) (size n : Nat) (xs : List Value) (e : Ending) (w' : World) : Prop := ∃ v', e = .returned v' ∧ w'.ownsRow B E size v' n xs

theorem nums_below {W W' : World} {k : IntKind} {v : Value} {ns : List Int} (h : NumsAt W k v ns) (hb : Below W.heap.size W W') : NumsAt W' k v ns := by
  obtain ⟨p, cap, rfl, hc⟩ := h
  refine ⟨p, cap, rfl, fun hne => ?_⟩
  obtain ⟨b, off, rfl, hcs⟩ := hc hne
  exact ⟨b, off, rfl, fun i hi => below_cell hb (hcs i hi)⟩
theorem nums_of_owns {B : Nat} {E : TypeId} {W : World} {v : Value} {k : IntKind} {ns : List Int} {n : Nat} (hl : ns.length = n) (h : W.ownsRow B E 1 v n (ns.map (Value.int k))) : NumsAt W k v ns := by
  subst hl
  rcases h.2 with ⟨rfl, h0⟩ | ⟨g, cap, cur, rfl, _⟩
  · obtain rfl : ns = [] := List.eq_nil_of_length_eq_zero h0
    exact ⟨none, 0, rfl, fun h => absurd rfl h⟩
  · refine ⟨_, _, rfl, fun _ => ⟨g, 0, rfl, fun i hi => ?_⟩⟩
    have h1 := h.cellAt i (by omega)
    rw [List.getElem?_eq_getElem (by simpa using hi)] at h1
    simpa using h1
/-- A world that is as another one was, but for what the blocks of S hold, and for new blocks. -/
structure Keeps (S : Nat → Prop) (w w' : World) : Prop where
  os : w'.os = w.os
  tape : w'.tape = w.tape
  output : w'.output = w.output
  size : w.heap.size ≤ w'.heap.size
  block : ∀ k, k < w.heap.size → ¬ S k → w'.heap[k]? = w.heap[k]?

theorem Keeps.refl (S : Nat → Prop) (w : World) : Keeps S w w := ⟨rfl, rfl, rfl, Nat.le_refl _, fun _ _ _ => rfl⟩
theorem Keeps.trans {S : Nat → Prop} {a b c : World} (h : Keeps S a b) (k : Keeps S b c) : Keeps S a c :=
  ⟨k.os.trans h.os, k.tape.trans h.tape, k.output.trans h.output, Nat.le_trans h.size k.size, fun i hi hs => (k.block i (Nat.lt_of_lt_of_le hi h.size) hs).trans (h.block i hi hs)⟩
theorem Keeps.sub {S T : Nat → Prop} {a b : World} (h : Keeps S a b) (hST : ∀ k, k < a.heap.size → S k → T k) : Keeps T a b :=
  ⟨h.os, h.tape, h.output, h.size, fun i hi hs => h.block i hi fun hS => hs (hST i hi hS)⟩
theorem Keeps.of_below {S : Nat → Prop} {a b : World} (h : Below a.heap.size a b) : Keeps S a b := ⟨h.os, h.tape, h.output, h.size, fun i hi _ => h.block i hi⟩
theorem Keeps.below {S : Nat → Prop} {a b : World} {B : Nat} (h : Keeps S a b) (hB : B ≤ a.heap.size) (hS : ∀ k, S k → B ≤ k) : Below B a b :=
  ⟨h.os, h.tape, h.output, h.size, fun i hi => h.block i (Nat.lt_of_lt_of_le hi hB) fun hs => absurd (hS i hs) (by omega)⟩
theorem Keeps.alloc (S : Nat → Prop) (w : World) (o : Obj) : Keeps S w (w.alloc o) := ⟨rfl, rfl, rfl, by simp, fun k hk _ => Below.heap_alloc _ _ _ hk⟩
theorem Keeps.setCell {S : Nat → Prop} (w : World) {p : Addr} (hp : S p.block) (u : Value) : Keeps S w (w.setCell p u) :=
  ⟨rfl, rfl, rfl, by simp [World.setCell], fun k _ hk => Below.heap_setCell _ _ _ _ fun e => hk (e ▸ hp)⟩
theorem Keeps.drewN {S : Nat → Prop} {a b : World} (h : Keeps S a b) (n : Nat) : Keeps S a (b.drewN n) := ⟨h.os, h.tape, h.output, h.size, h.block⟩
theorem Keeps.cell {S : Nat → Prop} {a b : World} (h : Keeps S a b) {p : Addr} {v : Value} (hc : a.cell? p = some v) (hp : ¬ S p.block) : b.cell? p = some v :=
  (World.cell?_of_block (w := a) (h.block p.block (World.block_lt_of_cell? a _ hc) hp)).trans hc
theorem Keeps.frozen {S : Nat → Prop} {a b : World} (h : Keeps S a b) {p : Addr} (hp : p.block < a.heap.size) (hS : ¬ S p.block) : b.frozen? p = a.frozen? p :=
  World.frozen?_of_block (w := a) (h.block p.block hp hS)
theorem Keeps.row {S : Nat → Prop} {a b : World} (h : Keeps S a b) {B : Nat} {E : TypeId} {size : Nat} {v : Value} {n : Nat} {xs : List Value} (hr : a.ownsRow B E size v n xs) (hv : ∀ g, v.ownBlock = some g → ¬ S g) : b.ownsRow B E size v n xs := by
  refine ⟨hr.1, ?_⟩
  rcases hr.2 with h' | ⟨g, cap, cur, rfl, h2, h3, h4⟩
  · exact .inl h'
  · exact .inr ⟨g, cap, cur, rfl, h2, (h.block g (Array.getElem?_eq_some_iff.1 h3).1 (hv g rfl)).trans h3, h4⟩
theorem owns_below {B : Nat} {E : TypeId} {size : Nat} {v : Value} {n : Nat} {xs : List Value} {X Y : World} (h : X.ownsRow B E size v n xs) (hb : Below X.heap.size X Y) : Y.ownsRow B E size v n xs :=
  (Keeps.of_below (S := fun _ => False) hb).row h fun _ _ h => h
/-- Rows of other kinds lie in other blocks. -/
theorem owns_ne {W : World} {B B' : Nat} {E E' : TypeId} {s s' n n' : Nat} {v v' : Value} {xs xs' : List Value} (h : W.ownsRow B E s v n xs) (h' : W.ownsRow B' E' s' v' n' xs') (hE : E ≠ E') {g g' : Nat} (hg : v.ownBlock = some g) (hg' : v'.ownBlock = some g') : g ≠ g' := by
  rintro rfl
  obtain ⟨c, f, h1⟩ := Lib.ownsRow_kind h g hg
  obtain ⟨c', f', h2⟩ := Lib.ownsRow_kind h' g hg'
  rw [h1] at h2
  simp at h2
  exact hE h2.2.1

theorem below_frozen {W W' : World} {p : Addr} {v : Value} (hb : Below W.heap.size W W') (h : W.cell? p = some v) (hf : W.frozen? p = false) : W'.frozen? p = false := (hb.frozen (World.block_lt_of_cell? W _ h)).trans hf

/-- A slice reads so before it is written, and behind writes elsewhere. -/
theorem nums_keeps {S : Nat → Prop} {W W' : World} {k : IntKind} {p : Option Addr} {n c : Nat} {ns : List Int} (h : NumsAt W k (.slice p n c) ns) (hk : Keeps S W W') (hS : ∀ a, p = some a → ¬ S a.block) : NumsAt W' k (.slice p n c) ns := by
  obtain ⟨q, cap, e, hc⟩ := h
  injection e with e1 e2 e3
  subst e1
  refine ⟨p, cap, by rw [e2, e3], fun hne => ?_⟩
  obtain ⟨b, off, rfl, hcs⟩ := hc hne
  exact ⟨b, off, rfl, fun i hi => hk.cell (hcs i hi) (show ¬ S b from hS ⟨b, off, none⟩ rfl)⟩
theorem nums_len {W : World} {k : IntKind} {p : Option Addr} {n c : Nat} {ns : List Int} (h : NumsAt W k (.slice p n c) ns) : n = ns.length := by
  obtain ⟨q, cap, e, _⟩ := h
  injection e
/-- A block whole as numbers reads as they. -/
theorem nums_block {W : World} {k : IntKind} {b n c : Nat} {T : TypeId} {xs : List Int} (h : W.heap[b]? = some (.cells (xs.map (Value.int k)).toArray T (0, 0))) (hn : n ≤ xs.length) : NumsAt W k (.slice (some ⟨b, 0, none⟩) n c) (xs.take n) := by
  have hl : (xs.take n).length = n := by rw [List.length_take]; omega
  refine ⟨_, c, by rw [hl], fun _ => ⟨b, 0, rfl, fun i hi => ?_⟩⟩
  have hi2 : i < xs.length := by omega
  simp [World.cell?, h, hi2]
theorem block_cell {W : World} {k : IntKind} {b : Nat} {T : TypeId} {xs : List Int} (h : W.heap[b]? = some (.cells (xs.map (Value.int k)).toArray T (0, 0))) (i : Nat) (hi : i < xs.length) : W.cell? ⟨b, i, none⟩ = some (.int k xs[i]) := by simp [World.cell?, h, hi]
theorem block_free {W : World} {k : IntKind} {b : Nat} {T : TypeId} {xs : List Int} (h : W.heap[b]? = some (.cells (xs.map (Value.int k)).toArray T (0, 0))) (i : Nat) : W.frozen? ⟨b, i, none⟩ = false := by simp [World.frozen?, h]
theorem block_set {W : World} {k : IntKind} {b : Nat} {T : TypeId} {xs : List Int} (h : W.heap[b]? = some (.cells (xs.map (Value.int k)).toArray T (0, 0))) (i : Nat) (x : Int) : (W.setCell ⟨b, i, none⟩ (.int k x)).heap[b]? = some (.cells ((xs.set i x).map (Value.int k)).toArray T (0, 0)) := by
  rw [heap_setCell_same W b i _ _ (.int k x) h]
  simp [List.map_set]

end Go.Proofs.Ytfnpokddoffplaa
/-
  slices.Clone, slices.Equal and slices.Index at rows of ints; what was in memory stays.
  Conditions: a row that is cloned has at most 2 to the power 40 elements.
-/
namespace Go.Proofs.Ytfnpokddoffplaa
open Go.RowKit Go.Shelf

theorem cloneI_info : (Try.prog.info? 3).map (fun i => (i.zero, i.size, i.bytes)) = some (some (.int .i64 0), 1, 8) := by kernel_rfl

set_option maxHeartbeats 2000000 in
theorem cloneI (v : Value) (n : Nat) (xs : List Value) (W : World) (hv : ValsAt W v 1 n xs) (h1 : ∀ u ∈ xs, u.oneCell' = true) (hn : n ≤ 1099511627776) :
    Calls Try.prog 50 #[v] W fun e w' => OwnsNew W.heap.size 3 1 n xs e w' ∧ Below W.heap.size W w' := by
  obtain ⟨hlen, p, cap, rfl, ⟨rfl, rfl, rfl⟩ | ⟨ad, rfl, hcells⟩⟩ := hv
  · obtain rfl : xs = [] := List.eq_nil_of_length_eq_zero (by omega)
    have hcmp := fun w => Lib.run_eql_slice_nil (P := Try.prog) w 25 3 none 0 0 0 0 Try.underlying25
    go_enter Try.func50, Try.ntmps50
    go_wp2
    go_ret
    exact ⟨⟨_, rfl, World.ownsRow_nil _ _ _ _⟩, Below.refl _ _⟩
  · have hcmp := fun w => Lib.run_eql_slice_nil (P := Try.prog) w 25 3 (some ad) n cap 0 0 Try.underlying25
    obtain ⟨i0, hi, hz0, hz1, hz2⟩ := info_parts cloneI_info
    have hown := World.ownsRow_lit (base := W.heap.size) (e := 3) (size := 1) W #[] 0 (Nat.le_refl _) (by decide) rfl
    have hnews : ∀ j u, xs[j]? = some u → (W.alloc (Obj.cells #[] 3)).cell? (ad.add j) = some u := fun j u hj => by
      have h0 := hcells j u hj
      rw [World.cell?_alloc_lt _ _ _ (World.block_lt_of_cell? W _ h0)]
      exact h0
    have HN := Lib.hid hnews
    have H1 := Lib.hid h1
    have HO := Lib.hid hown
    clear hnews h1 hown hcells
    go_enter Try.func50, Try.ntmps50
    go_wp2_with (at_builtin; refine wpList_append_own _ rfl _ _ 25 rfl W.heap.size 3 i0 (.int .i64 0) 1 8 Try.underlying25 hi hz0 hz1 hz2 rfl (by decide) _ _ _ rfl HO.out ad n cap xs rfl hlen HN.out H1.out (by unfold maxLen; omega) (by omega) (by simp) ?_; intro v' w1 hown' hgrow _)
    go_ret
    rw [Nat.zero_add, List.nil_append] at hown'
    exact ⟨⟨v', rfl, hown'⟩, below_grown ((Below.refl _ _).alloc (Nat.le_refl _) _) hgrow (fun k e => by cases e; exact Nat.le_refl _)⟩

set_option maxHeartbeats 4000000 in
theorem equalI_c (v0 v1 : Value) (xs ys : List Int) (W : World) (hv0 : NumsAt W .i64 v0 xs) (hv1 : NumsAt W .i64 v1 ys) (hl0 : xs.length ≤ 9223372036854775807) (hl1 : ys.length ≤ 9223372036854775807) :
    Calls Try.prog 28 #[v0, v1] W fun e w' => e = .returned (.bool (decide (xs = ys))) ∧ Below W.heap.size W w' := by
  obtain ⟨p0, cap0, rfl, hc0⟩ := hv0
  obtain ⟨p1, cap1, rfl, hc1⟩ := hv1
  go_enter Try.func28, Try.ntmps28
  by_cases hlen : xs.length = ys.length
  · have hne : ((xs.length : Int) != (ys.length : Int)) = false := by rw [bne_eq_false_iff_eq]; omega
    have HL := Lib.hid hlen
    clear hlen
    go_wp2
    clear hne
    go_loopw [13] (fun iv wr => ∃ i : Nat, i ≤ xs.length ∧ iv = .int .i64 i ∧ xs.take i = ys.take i ∧ Below W.heap.size W wr) (fun iv _ => xs.length - (intOf iv).toNat)
    case atStart => exact ⟨0, Nat.zero_le _, rfl, rfl, Below.refl _ _⟩
    case round =>
      obtain ⟨i, hi, rfl, heq, hB⟩ := hrel
      by_cases hlt : i < xs.length
      · obtain ⟨b0, off0, rfl, hcs0⟩ := hc0 (by intro e; rw [e] at hlt; cases hlt)
        have hlt1 : i < ys.length := by have := HL.out; omega
        obtain ⟨b1, off1, rfl, hcs1⟩ := hc1 (by intro e; rw [e] at hlt1; cases hlt1)
        have hx := hcs0 i hlt
        have hy := hcs1 i hlt1
        have ha := List.take_succ_eq_append_getElem hlt
        have hb := List.take_succ_eq_append_getElem hlt1
        obtain ⟨x, hxe⟩ : ∃ x, x = xs[i] := ⟨_, rfl⟩
        obtain ⟨y, hye⟩ : ∃ y, y = ys[i] := ⟨_, rfl⟩
        rw [← hxe] at hx ha
        rw [← hye] at hy hb
        have hx' := (hB.cell (World.block_lt_of_cell? W _ hx)).trans hx
        have hy' := (hB.cell (World.block_lt_of_cell? W _ hy)).trans hy
        have HE := Lib.hid heq
        have HA := Lib.hid ha
        have HB := Lib.hid hb
        have HXY := Lib.hid (And.intro hxe hye)
        clear hx hy hcs0 hcs1 heq ha hb hxe hye
        by_cases hxy : x = y
        · subst hxy
          go_wp2
          go_quiet (fail)
          go_wp2
          all_goals
            go_roundw
            case rel => exact ⟨i + 1, by omega, by go_num, by rw [HA.out, HB.out, HE.out], below_drewN hB _⟩
            case measure => simp [intOf]; omega
        · have hne : (x != y) = true := by rw [bne_iff_ne]; exact hxy
          have hr : decide (xs = ys) = false := by
            rw [decide_eq_false_iff_not]
            intro e
            subst e
            exact hxy (HXY.out.1.trans HXY.out.2.symm)
          have HR := Lib.hid hr
          clear hr hxy
          go_wp2
          go_quiet (fail)
          go_wp2
          all_goals go_ret
          all_goals exact ⟨ret_bool HR.out.symm, below_drewN hB _⟩
      · have heq2 : xs = ys := by rwa [List.take_of_length_le (by omega), List.take_of_length_le (by have := HL.out; omega)] at heq
        have HE := Lib.hid heq2
        clear heq heq2
        go_wp2
        go_ret
        exact ⟨ret_bool (by simp [HE.out]), hB⟩
  · have hne : ((xs.length : Int) != (ys.length : Int)) = true := by rw [bne_iff_ne]; omega
    have hr : decide (xs = ys) = false := by rw [decide_eq_false_iff_not]; intro e; rw [e] at hlen; exact hlen rfl
    have HR := Lib.hid hr
    clear hr hlen
    go_wp2
    go_ret
    exact ⟨ret_bool HR.out.symm, Below.refl _ _⟩

/-- The first n of a row that reads so. -/
theorem vals_nums {W : World} {p : Option Addr} {n c : Nat} {ns : List Int} (h : NumsAt W .i64 (.slice p n c) ns) (hz : n = 0 → p = none → c = 0) : ValsAt W (.slice p n c) 1 n (ns.map (Value.int .i64)) := by
  obtain ⟨q, cap, e, hc⟩ := h
  injection e with e1 e2 e3
  subst e1 e2 e3
  refine ⟨by simp, p, c, rfl, ?_⟩
  by_cases hne : ns = []
  · subst hne
    cases p with
    | none => exact .inl ⟨rfl, rfl, hz rfl rfl⟩
    | some a => exact .inr ⟨a, rfl, fun j u hj => by simp at hj⟩
  · obtain ⟨b, off, rfl, hcs⟩ := hc hne
    refine .inr ⟨_, rfl, fun j u hj => ?_⟩
    rw [List.getElem?_map] at hj
    obtain ⟨x, hx, rfl⟩ := Option.map_eq_some_iff.1 hj
    obtain ⟨hlt, rfl⟩ := List.getElem?_eq_some_iff.1 hx
    rw [addr_add_off]
    exact hcs j hlt

end Go.Proofs.Ytfnpokddoffplaa
namespace Go.Proofs.Ytfnpokddoffplaa
open Go.RowKit Go.Shelf
attribute [local go_sem] Oper.semAt_some

theorem ret_b {b c : Bool} (h : b = c) : Ending.returned (.bool b) = Ending.returned (.bool c) := by rw [h]
theorem below1 (W : World) (o1 : Obj) : Below W.heap.size W (W.alloc o1) := (Below.refl _ _).alloc (Nat.le_refl _) _
theorem below2 (W : World) (o1 o2 : Obj) : Below W.heap.size W ((W.alloc o1).alloc o2) := (below1 W o1).alloc (by simp) _
theorem below3 (W : World) (o1 o2 o3 : Obj) : Below W.heap.size W (((W.alloc o1).alloc o2).alloc o3) := (below2 W o1 o2).alloc (by simp; omega) _
theorem below4 (W : World) (o1 o2 o3 o4 : Obj) : Below W.heap.size W ((((W.alloc o1).alloc o2).alloc o3).alloc o4) := (below3 W o1 o2 o3).alloc (by simp; omega) _
theorem owns_slice {B : Nat} {E : TypeId} {W : World} {v : Value} {s n : Nat} {xs : List Value} (h : W.ownsRow B E s v n xs) : ∃ p c, v = .slice p n c := by
  rcases h.2 with ⟨rfl, h0⟩ | ⟨g, cap, cur, rfl, _⟩
  · exact ⟨none, 0, by rw [h0]⟩
  · exact ⟨_, _, rfl⟩

/-- Readers. -/
structure RdS where
  now : Int
  ns : List Int
  os : List Int

def mayCpus (n : Int) : Bool := decide (1 ≤ n) && decide (n ≤ 8)
def hasB (k : Nat) (n : Int) : Bool := decide (0 ≤ n) && decide (n < (k : Int))

set_option maxRecDepth 100000 in
set_option maxHeartbeats 4000000 in
theorem mayBe_c (n : Int) (W : World) : Calls Try.prog 71 #[.int .i64 n] W fun e w' => e = .returned (.bool (mayCpus n)) ∧ w' = W := by
  have hc : (n < 1 ∧ mayCpus n = false) ∨ (1 ≤ n ∧ mayCpus n = decide (n ≤ 8)) := by
    unfold mayCpus
    by_cases h : 1 ≤ n
    · rw [decide_eq_true h]; exact .inr ⟨h, rfl⟩
    · rw [decide_eq_false h]; exact .inl ⟨by omega, rfl⟩
  rcases hc with ⟨h0, hr⟩ | ⟨h0, hr⟩
  all_goals
    rw [hr]; clear hr
    go_enter Try.func71, Try.ntmps71
    go_wp2
    go_ret
    exact ⟨rfl, rfl⟩

/-- What box readers lie in. -/
def RBox (W : World) (z : Nat) (now : Int) (u v : Value) : Prop := W.heap[z]? = some (.cells #[.int .i64 now, u, v] 45 (0, 0))
theorem RBox.cells {W : World} {z : Nat} {b : Int} {u v : Value} (h : RBox W z b u v) : W.cell? ⟨z, 0, none⟩ = some (.int .i64 b) ∧ W.cell? ⟨z, 1, none⟩ = some u ∧ W.cell? ⟨z, 2, none⟩ = some v := by
  have h' : W.heap[z]? = _ := h
  simp [World.cell?, h']
theorem RBox.marks {W : World} {z : Nat} {b : Int} {u v : Value} (h : RBox W z b u v) (i : Nat) : W.frozen? ⟨z, i, none⟩ = false := by
  have h' : W.heap[z]? = _ := h
  simp [World.frozen?, h']
theorem RBox.lt {W : World} {z : Nat} {b : Int} {u v : Value} (h : RBox W z b u v) : z < W.heap.size := (Array.getElem?_eq_some_iff.1 h).1
theorem RBox.below {W W' : World} {z : Nat} {b : Int} {u v : Value} (h : RBox W z b u v) (hb : Below W.heap.size W W') : RBox W' z b u v := (hb.block z h.lt).trans h
theorem RBox.keeps {S : Nat → Prop} {W W' : World} {z : Nat} {b : Int} {u v : Value} (h : RBox W z b u v) (hk : Keeps S W W') (hz : ¬ S z) : RBox W' z b u v := (hk.block z h.lt hz).trans h
theorem RBox.new (W : World) (b : Int) (u v : Value) : RBox (W.alloc (.cells #[.int .i64 b, u, v] 45)) W.heap.size b u v := World.alloc_heap_new W _
theorem RBox.put {W : World} {z : Nat} {b0 : Int} {u0 v0 : Value} (h : RBox W z b0 u0 v0) (b : Int) (u v : Value) : RBox (((W.setCell ⟨z, 0, none⟩ (.int .i64 b)).setCell ⟨z, 1, none⟩ u).setCell ⟨z, 2, none⟩ v) z b u v := by
  have h0 := heap_setCell_same W z 0 _ _ (.int .i64 b) h
  have h1 := heap_setCell_same _ z 1 _ _ u h0
  have h2 := heap_setCell_same _ z 2 _ _ v h1
  unfold RBox
  rw [h2]
  rfl
theorem RBox.putK (W : World) (z : Nat) (b : Int) (u v : Value) : Keeps (fun k => k = z) W (((W.setCell ⟨z, 0, none⟩ (.int .i64 b)).setCell ⟨z, 1, none⟩ u).setCell ⟨z, 2, none⟩ v) :=
  ((Keeps.setCell W (S := (· = z)) (p := ⟨z, 0, none⟩) rfl _).trans (Keeps.setCell _ (S := (· = z)) (p := ⟨z, 1, none⟩) rfl _)).trans (Keeps.setCell _ (S := (· = z)) (p := ⟨z, 2, none⟩) rfl _)

set_option maxRecDepth 100000 in
set_option maxHeartbeats 4000000 in
theorem has_c (b n : Int) (p : Option Addr) (k c : Nat) (v : Value) (W : World) : Calls Try.prog 85 #[.agg #[.int .i64 b, .slice p k c, v], .int .i64 n] W fun e w' => e = .returned (.bool (hasB k n)) ∧ Below W.heap.size W w' := by
  have hc : (n < 0 ∧ hasB k n = false) ∨ (0 ≤ n ∧ hasB k n = decide (n < (k : Int))) := by
    unfold hasB
    by_cases h : 0 ≤ n
    · rw [decide_eq_true h]; exact .inr ⟨h, rfl⟩
    · rw [decide_eq_false h]; exact .inl ⟨by omega, rfl⟩
  rcases hc with ⟨h0, hr⟩ | ⟨h0, hr⟩
  all_goals
    rw [hr]; clear hr
    go_enter Try.func85, Try.ntmps85
    go_wp2
    go_ret
    exact ⟨rfl, by first | exact below1 _ _ | exact below2 _ _ _⟩

set_option maxRecDepth 100000 in
set_option maxHeartbeats 4000000 in
theorem sections_c (b : Int) (u v : Value) (W : World) : Calls Try.prog 73 #[.agg #[.int .i64 b, u, v]] W fun e w' => e = .returned (.func (.func 84) #[] #[.pointer (some ⟨W.heap.size, 0, none⟩)]) ∧ w' = W.alloc (.cells #[.int .i64 b, u, v] 45) := by
  go_enter Try.func73, Try.ntmps73
  go_wp2
  go_ret
  exact ⟨rfl, rfl⟩

theorem run_cmp_sec (a p a' p' : Int) (w : World) : (Op.equalIn 10000 107 (.agg #[.int .i64 a, .int .i64 p]) (.agg #[.int .i64 a', .int .i64 p'])).run Try.prog w = .ok (decide (a = a' ∧ p = p')) w := by
  rw [Op.equalIn]
  have hst : Try.prog.stoodInHeld 107 = false := by kernel_rfl
  have hpr : ∀ w, Sem.run Try.prog program w = .ok Try.prog w := fun _ => rfl
  simp only [Sem.run_bind, run_underlying Try.underlying107, Result.andThen_ok, hpr, hst, Bool.false_eq_true, if_false]
  have p0 : ∀ (a p : Int) w, (part 3 #[.int .i64 a, .int .i64 p] 0).run Try.prog w = .ok (.int .i64 a) w := fun a p w => by kernel_rfl
  have p1 : ∀ (a p : Int) w, (part 3 #[.int .i64 a, .int .i64 p] 1).run Try.prog w = .ok (.int .i64 p) w := fun a p w => by kernel_rfl
  have e0 : ∀ (p q : Int) w, (Op.equalIn 9999 3 (.int .i64 p) (.int .i64 q)).run Try.prog w = .ok (p == q) w := fun p q w => by rw [run_equalIn_int w 9998 3 .i64 .i64 p q Try.underlying3]
  simp [Sem.run_bind, Result.andThen_ok, p0, p1, e0]
  clear p0 p1 e0 hst hpr
  by_cases h0 : a = a' <;> by_cases h1 : p = p' <;> simp [*]
/-- Is it in a section, or seems so? -/
def secB (a p : Int) : Bool := !decide (a = 0 ∧ p = 0)
theorem run_neq_sec (a p : Int) (w : World) : (binOp .neq 107 (.agg #[.int .i64 a, .int .i64 p]) (.agg #[.int .i64 0, .int .i64 0])).run Try.prog w = .ok (.bool (secB a p)) w := by
  rw [run_neq_struct]
  have := run_cmp_sec a p 0 0 w
  simp [this, secB]

/-- The cells outside of some blocks stay as they are. -/
def KeepsCells (S : Nat → Prop) (W W' : World) : Prop := ∀ b o v, ¬ S b → W.cell? ⟨b, o, none⟩ = some v → W'.cell? ⟨b, o, none⟩ = some v
theorem KeepsCells.refl (S : Nat → Prop) (W : World) : KeepsCells S W W := fun _ _ _ _ h => h
theorem KeepsCells.trans {S : Nat → Prop} {X Y Z : World} (h : KeepsCells S X Y) (k : KeepsCells S Y Z) : KeepsCells S X Z := fun b o v hb hx => k b o v hb (h b o v hb hx)
theorem KeepsCells.keeps {S : Nat → Prop} {X Y : World} (h : Keeps S X Y) : KeepsCells S X Y := fun b _ _ hb hx => h.cell hx (by simpa using hb)
theorem KeepsCells.turn (S : Nat → Prop) (W : World) (l : Nat) (o o' : Obj) (hl : W.heap[l]? = some o) (ho : o.isCells = false) (_ : o.isWalk = false) : KeepsCells S W (W.putObj l o') := fun b i v _ h => by
  by_cases e : b = l
  · subst e
    simp only [World.cell?, hl] at h
    cases o <;> simp_all [Obj.isCells]
  · have hp : (W.putObj l o').heap[b]? = W.heap[b]? := World.putObj_heap_other e
    simp only [World.cell?] at h ⊢
    rw [hp]
    exact h

/-- A row of ints lies there, outside of S. -/
def RowOut (S : Nat → Prop) (W : World) (p : Option Addr) (fs : List Int) : Prop := fs ≠ [] → ∃ b off, p = some ⟨b, off, none⟩ ∧ ¬ S b ∧ ∀ i (h : i < fs.length), W.cell? ⟨b, off + i, none⟩ = some (.int .i64 fs[i])
theorem RowOut.keeps {S : Nat → Prop} {W W' : World} {p : Option Addr} {fs : List Int} (h : RowOut S W p fs) (hk : KeepsCells S W W') : RowOut S W' p fs := fun hne => by
  obtain ⟨b, off, e, hS, hc⟩ := h hne
  exact ⟨b, off, e, hS, fun i hi => hk _ _ _ hS (hc i hi)⟩
theorem RowOut.below {S : Nat → Prop} {W W' : World} {p : Option Addr} {fs : List Int} (h : RowOut S W p fs) (hb : Below W.heap.size W W') : RowOut S W' p fs := fun hne => by
  obtain ⟨b, off, e, hS, hc⟩ := h hne
  exact ⟨b, off, e, hS, fun i hi => below_cell hb (hc i hi)⟩


end Go.Proofs.Ytfnpokddoffplaa
