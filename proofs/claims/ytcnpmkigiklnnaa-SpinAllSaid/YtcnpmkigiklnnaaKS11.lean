/-
  Play, of package spin: all picks, one behind the other.
  Conditions: the memory may be, and all; the picks are few.
-/
import Derived.Test.YtcnpmkigiklnnaaKS10
import Derived.Test.YtcnpmkigiklnnaaKS4
import Derived.Shelf.RegionOpen
import Derived.WalkKit
import Derived.OwnWalkIn
import Derived.TacticsInMore
import Derived.LoopNIn
import Derived.LoopIn
import Derived.Deep.RegionHeld
import Derived.Sort.QuietIn
import Derived.Test.YtcnpmkigiklnnaaKS5
/-
  Which pick comes next, of package spin; and all of a play, in the order of its picks.
  Conditions: the play lies so, and the picks.
-/
namespace Go.Proofs.Ytcnpmkigiklnnaa
open Go.RowKit Go.Shelf
attribute [local go_sem] Oper.semAt_some

/-- Is somebody there who is picked, and not done? -/
def okPick (n : Nat) (ss : List SpM) (p : Int) : Bool := decide (0 ≤ p) && decide (p < (n : Int)) && !decide ((ss.getD p.toNat dS).p = 5)
/-- The first such pick, from one on. -/
def pickF (n : Nat) (ss : List SpM) : List Int → Nat
  | [] => 0
  | p :: r => if okPick n ss p = true then 0 else pickF n ss r + 1
def pickAt (n : Nat) (ss : List SpM) (ps : List Int) (i : Nat) : Nat := i + pickF n ss (ps.drop i)
theorem pickF_le (n : Nat) (ss : List SpM) : ∀ l : List Int, pickF n ss l ≤ l.length
  | [] => Nat.le_refl _
  | p :: r => by
    have := pickF_le n ss r
    simp only [pickF, List.length_cons]; split <;> omega
theorem pickAt_le (n : Nat) (ss : List SpM) (ps : List Int) (i : Nat) (hi : i ≤ ps.length) : pickAt n ss ps i ≤ ps.length := by
  have := pickF_le n ss (ps.drop i)
  rw [List.length_drop] at this
  unfold pickAt; omega
theorem pickAt_end (n : Nat) (ss : List SpM) (ps : List Int) (i : Nat) (hi : ps.length ≤ i) : pickAt n ss ps i = i := by
  unfold pickAt; rw [List.drop_eq_nil_of_le hi]; rfl
theorem pickAt_yes {n : Nat} {ss : List SpM} {ps : List Int} {i : Nat} (hi : i < ps.length) (h : okPick n ss ps[i] = true) : pickAt n ss ps i = i := by
  unfold pickAt; rw [List.drop_eq_getElem_cons hi, pickF, if_pos h]; rfl
theorem pickAt_no {n : Nat} {ss : List SpM} {ps : List Int} {i : Nat} (hi : i < ps.length) (h : okPick n ss ps[i] = false) : pickAt n ss ps i = pickAt n ss ps (i + 1) := by
  unfold pickAt; rw [List.drop_eq_getElem_cons hi, pickF, if_neg (by rw [h]; decide)]; omega
/-- All of a play, and who comes to hold a lock. -/
def playR (ls : List Bool) (n : Nat) : List Int → PlM → List Int → PlM × List Int
  | [], P, h => (P, h)
  | p :: r, P, h => if okPick n P.ss p = true then playR ls n r (turnP ls P p.toNat) (if ((turnP ls P p.toNat).ss.getD p.toNat dS).p = 3 then h ++ [p] else h) else playR ls n r P h
theorem pickF_ok (n : Nat) (ss : List SpM) : ∀ (l : List Int) (h : pickF n ss l < l.length), okPick n ss l[pickF n ss l] = true
  | [], h => by cases h
  | p :: r, h => by
    by_cases hp : okPick n ss p = true
    · have e : pickF n ss (p :: r) = 0 := by rw [pickF, if_pos hp]
      simp only [e, List.getElem_cons_zero]
      exact hp
    · have e : pickF n ss (p :: r) = pickF n ss r + 1 := by rw [pickF, if_neg hp]
      simp only [e, List.getElem_cons_succ]
      have hl : pickF n ss r < r.length := by rw [e] at h; simpa using h
      exact pickF_ok n ss r hl
theorem pickAt_ok {n : Nat} {ss : List SpM} {ps : List Int} {i : Nat} (h : pickAt n ss ps i < ps.length) : okPick n ss ps[pickAt n ss ps i] = true := by
  have hl : pickF n ss (ps.drop i) < (ps.drop i).length := by
    rw [List.length_drop]; unfold pickAt at h; omega
  have := pickF_ok n ss (ps.drop i) hl
  rw [List.getElem_drop] at this
  exact this
theorem playR_skip (ls : List Bool) (n : Nat) (P : PlM) (h : List Int) : ∀ l : List Int, playR ls n l P h = playR ls n (l.drop (pickF n P.ss l)) P h
  | [] => rfl
  | p :: r => by
    by_cases hp : okPick n P.ss p = true
    · rw [pickF, if_pos hp]; rfl
    · rw [pickF, if_neg hp, List.drop_succ_cons]
      rw [← playR_skip ls n P h r]
      simp only [playR, if_neg hp]
theorem playR_at (ls : List Bool) (n : Nat) (P : PlM) (h : List Int) (ps : List Int) (i : Nat) : playR ls n (ps.drop i) P h = playR ls n (ps.drop (pickAt n P.ss ps i)) P h := by
  rw [playR_skip ls n P h (ps.drop i), List.drop_drop]
  rfl
theorem playR_turn {ls : List Bool} {n : Nat} {P : PlM} {h : List Int} {ps : List Int} {i : Nat} (hi : i < ps.length) (ho : okPick n P.ss ps[i] = true) :
    playR ls n (ps.drop i) P h = playR ls n (ps.drop (i + 1)) (turnP ls P ps[i].toNat) (if ((turnP ls P ps[i].toNat).ss.getD ps[i].toNat dS).p = 3 then h ++ [ps[i]] else h) := by
  rw [List.drop_eq_getElem_cons hi, playR, if_pos ho]
theorem okPick_iff {n : Nat} {ss : List SpM} {p : Int} (h : okPick n ss p = true) : ∃ k : Nat, p = (k : Int) ∧ k < n ∧ (ss.getD k dS).p ≠ 5 := by
  simp only [okPick, Bool.and_eq_true, decide_eq_true_eq, Bool.not_eq_true', decide_eq_false_iff_not] at h
  obtain ⟨⟨h1, h2⟩, h3⟩ := h
  exact ⟨p.toNat, by omega, by omega, h3⟩

set_option maxRecDepth 100000 in
set_option maxHeartbeats 4000000 in
theorem qpicked (B r g n : Nat) (ls : List Bool) (P : PlM) (x y : Value) (W : World) (h : PlayIn W B r g ls P x y n) (hn : n ≤ 1099511627776) (pp : Option Addr) (np dp : Nat) (ps : List Int) (hp : NumsAt W .i64 (.slice pp np dp) ps) (hnp : np ≤ 1099511627776) (i : Nat) (hi : i ≤ np) :
    Calls Try.prog 68 #[.pointer (some ⟨r, 0, none⟩), .slice pp np dp, .int .i64 (i : Int)] W fun e w' => e = .returned (.int .i64 ((pickAt n P.ss ps i : Nat) : Int)) ∧ w' = W := by
  have hl : np = ps.length := by obtain ⟨q, cap, e, _⟩ := hp; injection e
  obtain ⟨q, cap, e, hc⟩ := hp
  injection e with e1 e2 e3
  subst e1
  obtain ⟨k0, k1, k2, k3⟩ := h.box.cells
  have HH := Lib.hid h
  have HC := Lib.hid hc
  have HL := Lib.hid hl
  have HN := Lib.hid hn
  clear h hc e2 e3 hl k0 k1 k2
  go_enter Try.func68, Try.ntmps68
  go_wp2_with fail
  refine (wpIn_wide (n := 9)).1 (wpIn_scope ((wpIn_wide (n := 9)).2 ?_))
  go_wp2_with fail
  refine wp_label ?_
  go_wp2_with fail
  have HA0 := Lib.hid (rfl : pickAt n P.ss ps i = pickAt n P.ss ps i)
  go_loop [2, 7, 16] (fun iv _ _ => ∃ j : Nat, i ≤ j ∧ j ≤ np ∧ iv = .int .i64 j ∧ Hid (pickAt n P.ss ps j = pickAt n P.ss ps i)) (fun iv _ _ => np - (intOf iv).toNat)
  case atStart => exact ⟨i, Nat.le_refl _, hi, rfl, HA0⟩
  case round =>
    obtain ⟨j, hj, hjn, rfl, HA⟩ := hrel
    clear HA0
    by_cases hlt : j < np
    · have hjl : j < ps.length := by have := HL.out; omega
      obtain ⟨b, off, rfl, hcs⟩ := HC.out (by intro e; rw [e] at hjl; cases hjl)
      have hx := hcs j hjl
      obtain ⟨p, hpe⟩ : ∃ p, p = ps[j] := ⟨_, rfl⟩
      rw [← hpe] at hx
      have HP := Lib.hid hpe
      clear hcs hpe
      by_cases hp0 : p < 0
      · have HN2 := Lib.hid (show pickAt n P.ss ps (j + 1) = pickAt n P.ss ps i from by
          rw [← HA.out, pickAt_no hjl (by rw [← HP.out]; simp [okPick]; omega)])
        go_wp2
        go_round
        case rel => exact ⟨j + 1, by omega, by omega, by go_num, HN2⟩
        case measure => simp [intOf]; omega
      · by_cases hpn : p < (n : Int)
        · obtain ⟨k, rfl⟩ := Int.eq_ofNat_of_zero_le (Int.not_lt.1 hp0)
          have hkn : k < n := by omega
          obtain ⟨⟨c0, c1, c2⟩, hfz, hg⟩ := HH.out.cell hkn
          have hq1 : ¬ (n : Int) ≤ (k : Int) := by omega
          by_cases h5 : (P.ss.getD k dS).p = 5
          · rw [h5] at c1
            have HN2 := Lib.hid (show pickAt n P.ss ps (j + 1) = pickAt n P.ss ps i from by
              rw [← HA.out, pickAt_no hjl (by rw [← HP.out]; simp only [okPick, Int.toNat_natCast, h5]; simp)])
            clear h5 hfz hg c0 c2
            go_wp2
            go_round
            case rel => exact ⟨j + 1, by omega, by omega, by go_num, HN2⟩
            case measure => simp [intOf]; omega
          · have HN2 := Lib.hid (show pickAt n P.ss ps i = j from by
              rw [← HA.out, pickAt_yes hjl (by rw [← HP.out]; simp only [okPick, Int.toNat_natCast, h5]; simp; omega)])
            obtain ⟨q, hq⟩ : ∃ q, q = (P.ss.getD k dS).p := ⟨_, rfl⟩
            rw [← hq] at c1 h5
            have hq5 : (q == 5) = false := by rw [beq_eq_false_iff_ne]; exact h5
            clear h5 hq hfz hg c0 c2
            go_wp2
            go_ret
            exact ⟨ret_int (by rw [HN2.out]), rfl⟩
        · have HN2 := Lib.hid (show pickAt n P.ss ps (j + 1) = pickAt n P.ss ps i from by
            rw [← HA.out, pickAt_no hjl (by rw [← HP.out]; simp [okPick, hpn])])
          go_wp2
          go_round
          case rel => exact ⟨j + 1, by omega, by omega, by go_num, HN2⟩
          case measure => simp [intOf]; omega
    · have HN2 := Lib.hid (show pickAt n P.ss ps i = j from by rw [← HA.out, pickAt_end n P.ss ps j (by have := HL.out; omega)])
      go_wp2
      go_ret
      exact ⟨ret_int (by rw [HN2.out]), rfl⟩

end Go.Proofs.Ytcnpmkigiklnnaa
/-
  A range over a function value whose iterator writes memory of its own between the rounds: the law of a loop over such a value, for an outermost loop.
  Conditions: the loop stands in no round of another one; what holds between two rounds abides the iterator's writes; the iterator keeps the contract 'SeqOwn' below.
-/
namespace Go.Proofs.Ytcnpmkigiklnnaa
open Go.RowKit

/-- The iterator's contract: Kp is what each round keeps, Ow what the iterator does between the rounds; S says what has been handed out, and how memory is then. -/
def SeqOwn {α : Type} (F : Fence) (n : Nat) (P : Program) (g : Nat) (bd lb : Array Value) (encs : α → Array Value) (Kp Ow : World → World → Prop) (S : List α → World → Prop) (Sp : List α → Prop) (N : Nat) (w : World) : Prop :=
  ∀ (l : Nat) (J Jx : List α → World → Prop) (W : World), Below w.heap.size w W → AbidesFrom W.heap.size J → AbidesFrom W.heap.size Jx → (∀ pre A B, J pre A → Ow A B → J pre B) →
    (∀ pre x W1, J pre W1 → pre.length < N → YieldAt F (n - 1) P l (encs x) W1 fun e W' =>
      (e = .returned (.bool true) ∧ J (pre ++ [x]) W' ∧ Kp W1 W') ∨ (e = .returned (.bool false) ∧ Jx (pre ++ [x]) W')) →
    J [] W →
    CallsIn F n P g (bd ++ #[.func (.yield l) #[] #[]] ++ lb) W fun e W' => (∃ v, e = .returned v) ∧ ((∃ xs, S xs W' ∧ J xs W') ∨ (∃ pre, Sp pre ∧ Jx pre W'))

/-- THE LAW. I: what holds between two rounds; Ix: what holds where a round has left by a jump; Ax: what holds behind the assignment to the loop's variables. -/
theorem wpIn_rangeOwn {α : Type} {F : Fence} {n : Nat} {P : Program} {w : World} {g : Operand} {ps : Array Tmp} {assign body : Code} {Q : Exit → Act → World → Prop} {a : Act}
    (hro : F.round = none) (h1 : 1 ≤ n) {gf : Nat} {bd lb : Array Value} (hg : a.eval g = .func (.func gf) bd lb) (hFg : F.fn gf) (eg : ∀ args w, (callFunc gf args).run P w = .ok (.enter gf args) w)
    {encs : α → Array Value} {Kp Ow : World → World → Prop} {S : List α → World → Prop} {Sp : List α → Prop} {N : Nat} {w0 : World} (hseq : SeqOwn F (n - 1) P gf bd lb encs Kp Ow S Sp N w0)
    (hOb : ∀ (A B : World) (l : Nat) (o : Obj), Ow A B → A.heap[l]? = some o → o.isCells = false → B.heap[l]? = some o) (hSt : ∀ (xs : List α) (A : World) (l : Nat) (o o' : Obj), w.heap.size ≤ l → S xs A → A.heap[l]? = some o → o.isCells = false → S xs (A.putObj l o'))
    (hKt : ∀ {A B C : World}, Kp A B → Kp B C → Kp A C) (hKb : ∀ (W : World) (l : Nat) (o o' : Obj), w.heap.size ≤ l → W.heap[l]? = some o → o.isCells = false → o.isWalk = false → Kp W (W.putObj l o')) (hb0 : Below w0.heap.size w0 w) (hps : ∀ x, (encs x).size = ps.size)
    (I : List α → World → Prop) (Ix : Code → List α → World → Prop) (hI : OwnFrom w.heap.size I) (hIx : ∀ c, OwnFrom w.heap.size (Ix c)) (hIo : ∀ pre A B, I pre A → Ow A B → I pre B) (h0 : I [] w) (Ax : α → Act → World → Prop) (hAx : ∀ x a', OwnFrom w.heap.size (fun (_ : Unit) W => Ax x a' W))
    (hassign : ∀ (l : Nat) (pre : List α) (x : α) (W : World) (K : Act → World → Prop), I pre W → (∀ a' W', KeepsFrom w.heap.size W W' → Kp W W' → I pre W' → Ax x a' W' → K a' W') →
      assign.wpIn (F.inRound l) (n - 1 - 1) P (Exit.then K (fun _ _ _ => False)) { tmps := (ps.zip (encs x)).foldl (fun t (p, v) => t.setIfInBounds p v) a.tmps, defers := [] } W)
    (hbody : ∀ (l : Nat) (pre : List α) (x : α) (a' : Act) (W : World), w.heap.size ≤ l → (∃ r, W.heap[l]? = some (.loop r)) → I pre W → Ax x a' W → pre.length < N → body.wpIn (F.inRound l) (n - 1 - 1) P (ownPostG w.heap.size Kp I Ix (pre ++ [x]) W) a' W)
    (hdone : ∀ (D : Nat) (xs : List α) (W : World), w.heap.size ≤ D → S xs W → I xs W → W.heap[D]? = some (.deferred (some [])) → Q .normal { a with defers := { target := .collected D, args := #[] } :: a.defers } W)
    (hstop : ∀ (D : Nat) (c : Code) (pre : List α) (W : World), w.heap.size ≤ D → Sp pre → Ix c pre W → W.heap[D]? = some (.deferred (some [])) → c.wpIn F n P Q { a with defers := { target := .collected D, args := #[] } :: a.defers } W) :
    (Code.rangeFunc g ps assign body).wpIn F n P Q a w := by
  refine wpIn_rangeFunc fun fn hfn => ?_
  rw [hro]
  generalize hz : w.heap.size = z at *
  obtain ⟨rec, hrec⟩ : ∃ rec : LoopState → Option Code → Loop, ∀ st pe, rec st pe = { state := st, pending := pe, fn, tmps := a.tmps, params := ps, assign, body, defers := z } := ⟨fun st pe => _, fun _ _ => rfl⟩
  obtain ⟨W1, hW1⟩ : ∃ W1, W1 = (w.alloc (.deferred (some []))).alloc (.loop (rec .ready none)) := ⟨_, rfl⟩
  have hz1 : W1.heap.size = z + 2 := by rw [hW1]; simp [hz]
  have hB1 : Books z (rec .ready none) W1 := by
    rw [hW1]
    constructor
    · have := World.alloc_heap_new (w.alloc (.deferred (some []))) (.loop (rec .ready none))
      rwa [World.size_alloc, hz] at this
    · rw [← hz]; exact (Below.heap_alloc _ _ _ (by simp)).trans (World.alloc_heap_new w _)
  have hI1 : I [] W1 := by rw [hW1]; exact hI.alloc _ (hI.alloc _ h0)
  have hb1 : Below w0.heap.size w0 W1 := by
    rw [hW1]; exact hb0.trans ((((Below.refl _ w).alloc (Nat.le_refl _) _).alloc (by simp) _).mono hb0.size)
  have hwalk : ∀ {A : World} {row : Option Nat}, (∀ r, row = some r → W1.heap.size ≤ r ∧ ∃ o : Obj, A.heap[r]? = some o ∧ o.isWalk = true) → ∀ r, row = some r → z ≤ r ∧ ∃ o : Obj, A.heap[r]? = some o ∧ o.isCells = false :=
    fun hr r e => by obtain ⟨hB, o, ho, hw⟩ := hr r e; exact ⟨by omega, o, ho, Obj.not_cells_of_walk hw⟩
  have hbooks : ∀ {st : LoopState} {pe : Option Code} {A B : World} {row : Option Nat}, Books z (rec st pe) A → A.grownBy B row → (∀ r, row = some r → W1.heap.size ≤ r ∧ ∃ o : Obj, A.heap[r]? = some o ∧ o.isWalk = true) → Books z (rec st pe) B :=
    fun hs hg' hr => ⟨(grownBy_keeps hg' (fun r e => (hr r e).2) hs.1 rfl).trans hs.1, (grownBy_keeps hg' (fun r e => (hr r e).2) hs.2 rfl).trans hs.2⟩
  refine ⟨z + 1, [{ target := .collected z, args := #[] }], W1, { target := .fn (.func gf) lb, args := bd ++ #[.func (.yield (z + 1)) #[] #[]] }, W1, gf, bd ++ #[.func (.yield (z + 1)) #[] #[]] ++ lb, W1, ?_, ?_, ?_, ?_, fun _ => h1, ?_⟩
  · have := run_enterLoop_outer (P := P) (w := w) fn a.tmps ps assign body
    rw [hW1, hrec, ← hz]; exact this
  · simp only [resolve, hg]
    simp [go_sem]
  · intro f' hf'; simp [Target.leads] at hf'; subst hf'; exact hFg
  · simp only [invoke, eg]
  · refine (hseq (z + 1) (fun pre W => I pre W ∧ Books z (rec .ready none) W) (fun pre W => ∃ c, Ix c pre W ∧ Books z (rec .done (some c)) W) W1 hb1
      (fun s A B row hs hg' hr => ⟨hI s A B row hs.1 hg' (hwalk hr), hbooks hs.2 hg' hr⟩)
      (fun s A B row hs hg' hr => by
        obtain ⟨c, hc, hb⟩ := hs
        exact ⟨c, hIx c s A B row hc hg' (hwalk hr), hbooks hb hg' hr⟩)
      (fun pre A B h ho => ⟨hIo pre A B h.1 ho, hOb A B _ _ ho h.2.1 rfl, hOb A B _ _ ho h.2.2 rfl⟩)
      ?_ ⟨hI1, hB1⟩).mono ?_
    · rintro pre x W ⟨hi, hb⟩ hlen
      have hy := run_yield (P := P) (args := encs x) hb.1 (by rw [hrec]; exact hps x)
      rw [hrec] at hy
      refine ⟨fn, _, assign, body, hy, roundIn_of_wpIn hfn (hassign _ pre x W _ hi ?_)⟩
      clear hy
      intro a' Wa hkfa hkpa hia hax
      have hba := hb.from hkfa
      refine ⟨_, run_beginRound hba.1 (by rw [hrec]), ?_⟩
      have hb2 : Books z (rec .busy none) (Wa.putObj (z + 1) (.loop (rec .busy none))) := hba.turn
      have hw2 : Kp Wa (Wa.putObj (z + 1) (.loop (rec .busy none))) := hKb _ _ _ _ (by omega) hba.1 rfl rfl
      have hsame : ({ rec .ready none with state := .busy } : Loop) = rec .busy none := by rw [hrec, hrec]
      rw [hsame]
      refine wpIn_mono (hbody _ pre x a' _ (by omega) ⟨_, hb2.1⟩ (hI.putObj _ hia (by omega) hba.1 rfl) ((hAx x a').putObj (s := ()) _ hax (by omega) hba.1 rfl) hlen) ?_
      have fin : ∀ (jump : Option Code) (W3 : World), KeepsFrom z (Wa.putObj (z + 1) (.loop (rec .busy none))) W3 →
          (Instr.endRound (z + 1) jump).run P W3 = .ok (.bool jump.isNone) (W3.putObj (z + 1) (.loop (rec (if jump.isNone then .ready else .done) jump))) ∧
          Books z (rec .busy none) W3 ∧ Books z (rec (if jump.isNone then .ready else .done) jump) (W3.putObj (z + 1) (.loop (rec (if jump.isNone then .ready else .done) jump))) := fun jump W3 hk3 => by
        have hb3 := hb2.from hk3
        have := run_endRound (P := P) jump hb3.1
        rw [hrec] at this
        rw [hrec]
        exact ⟨this, hb3, by rw [← hrec]; exact hb3.turn⟩
      rintro e a3 W3 hp
      cases e with
      | normal =>
        obtain ⟨hk3, hkp3, hi3⟩ := hp
        obtain ⟨hr, hb3, hb4⟩ := fin none W3 hk3
        exact ⟨_, _, hr, .inl ⟨rfl, ⟨hI.putObj _ hi3 (by omega) hb3.1 rfl, hb4⟩, hKt hkpa (hKt (hKt hw2 hkp3) (hKb _ _ _ _ (by omega) hb3.1 rfl rfl))⟩⟩
      | ret =>
        obtain ⟨hk3, hi3⟩ := hp
        obtain ⟨hr, hb3, hb4⟩ := fin (some .ret) W3 hk3
        exact ⟨_, _, hr, .inr ⟨rfl, .ret, (hIx _).putObj _ hi3 (by omega) hb3.1 rfl, hb4⟩⟩
      | exit id =>
        obtain ⟨hk3, hi3⟩ := hp
        obtain ⟨hr, hb3, hb4⟩ := fin (some (.exit id)) W3 hk3
        exact ⟨_, _, hr, .inr ⟨rfl, .exit id, (hIx _).putObj _ hi3 (by omega) hb3.1 rfl, hb4⟩⟩
      | goto t =>
        obtain ⟨hk3, hi3⟩ := hp
        obtain ⟨hr, hb3, hb4⟩ := fin (some (.goto t)) W3 hk3
        exact ⟨_, _, hr, .inr ⟨rfl, .goto t, (hIx _).putObj _ hi3 (by omega) hb3.1 rfl, hb4⟩⟩
      | panic ch => exact hp.elim
      | outgrown => exact hp.elim
    · rintro e W2 ⟨⟨v, rfl⟩, (⟨xs, hS, hi, hb⟩ | ⟨pre, hSp, c, hi, hb⟩)⟩
      · refine ⟨none, _, by have := run_endLoop (P := P) hb.1 (by rw [hrec]; simp); rw [hrec] at this; exact this, ?_⟩
        exact hdone _ xs _ (by omega) (hSt xs _ _ _ _ (by omega) hS hb.1 rfl) (hI.putObj _ hi (by omega) hb.1 rfl) ((World.putObj_heap_other (by omega)).trans hb.2)
      · refine ⟨some c, _, by have := run_endLoop (P := P) hb.1 (by rw [hrec]; simp); rw [hrec] at this; exact this, ?_⟩
        exact hstop _ c pre _ (by omega) hSp ((hIx c).putObj _ hi (by omega) hb.1 rfl) ((World.putObj_heap_other (by omega)).trans hb.2)


end Go.Proofs.Ytcnpmkigiklnnaa
/-
  holders, of a play of package spin: who comes to hold a lock, pick by pick.
  Conditions: the play and the picks lie so; all may be; who ranges over it leaves the play, and the picks, as they are.
-/
namespace Go.Proofs.Ytcnpmkigiklnnaa
open Go.RowKit Go.Shelf Go.BigFrame
attribute [local go_sem] Oper.semAt_some

/-- What rounds keep: all blocks of cells of other kinds than their own; and of the elder ones all but one. -/
def KpP (hb z : Nat) (W W' : World) : Prop := W.heap.size ≤ W'.heap.size ∧ (∀ (b : Nat) (c : Array Value) (T : TypeId) (f : Nat × Nat), T ≠ 3 → T ≠ 58 → W.heap[b]? = some (.cells c T f) → W'.heap[b]? = some (.cells c T f)) ∧
  (∀ (b : Nat) (c : Array Value) (T : TypeId) (f : Nat × Nat), b < z → b ≠ hb → W.heap[b]? = some (.cells c T f) → W'.heap[b]? = some (.cells c T f))
theorem KpP.trans {hb z : Nat} {A B C : World} (h : KpP hb z A B) (k : KpP hb z B C) : KpP hb z A C :=
  ⟨Nat.le_trans h.1 k.1, fun b c T f h1 h2 hc => k.2.1 b c T f h1 h2 (h.2.1 b c T f h1 h2 hc), fun b c T f h1 h2 hc => k.2.2 b c T f h1 h2 (h.2.2 b c T f h1 h2 hc)⟩
theorem KpP.turn (hb z : Nat) (W : World) (l : Nat) (o o' : Obj) (hl : W.heap[l]? = some o) (ho : o.isCells = false) : KpP hb z W (W.putObj l o') := by
  have hne : ∀ (b : Nat) (c : Array Value) (T : TypeId) (f : Nat × Nat), W.heap[b]? = some (.cells c T f) → (W.putObj l o').heap[b]? = some (.cells c T f) := fun b c T f hc => by
    have e : b ≠ l := by
      rintro rfl
      rw [hl] at hc
      injection hc with hc
      subst hc
      cases ho
    exact (World.putObj_heap_other e).trans hc
  exact ⟨by simp [World.putObj], fun b c T f _ _ hc => hne b c T f hc, fun b c T f _ _ hc => hne b c T f hc⟩
theorem KpP.row {hb z : Nat} {A B : World} (h : KpP hb z A B) {n s m : Nat} {E : TypeId} {v : Value} {xs : List Value} (hr : A.ownsRow n E s v m xs) (h1 : E ≠ 3) (h2 : E ≠ 58) : B.ownsRow n E s v m xs := by
  refine ⟨hr.1, ?_⟩
  rcases hr.2 with h' | ⟨g, cap, cur, rfl, h3, h4, h5⟩
  · exact .inl h'
  · exact .inr ⟨g, cap, cur, rfl, h3, h.2.1 g _ _ _ h1 h2 h4, h5⟩
theorem KpP.play {hb z : Nat} {W W' : World} (h : KpP hb z W W') {B r g : Nat} {ls : List Bool} {P : PlM} {x y : Value} {n : Nat} (hp : PlayIn W B r g ls P x y n) : PlayIn W' B r g ls P x y n :=
  ⟨h.2.1 r _ _ _ (by decide) (by decide) hp.box, h.row hp.words (by decide) (by decide), h.row hp.lives (by decide) (by decide), h.row hp.places (by decide) (by decide), hp.len, hp.lo⟩
theorem KpP.cell {hb z : Nat} {W W' : World} (h : KpP hb z W W') {b o : Nat} {v : Value} (hz : b < z) (hne : b ≠ hb) (hc : W.cell? ⟨b, o, none⟩ = some v) : W'.cell? ⟨b, o, none⟩ = some v := by
  simp only [World.cell?] at hc ⊢
  cases hh : W.heap[b]? with
  | none => rw [hh] at hc; simp at hc
  | some ob =>
    rw [hh] at hc
    cases ob with
    | cells c T f => rw [h.2.2 b c T f hz hne hh]; exact hc
    | _ => simp at hc
/-- What the iterator does between the rounds: it writes blocks of a play, and makes memory. -/
def OwP (B : Nat) (W W' : World) : Prop := Keeps (fun q => B ≤ q ∧ ∃ (c : Array Value) (T : TypeId) (f : Nat × Nat), W.heap[q]? = some (.cells c T f) ∧ T ≠ 3 ∧ T ≠ 58) W W'
theorem OwP.of {B r g n : Nat} {ls : List Bool} {P : PlM} {W W' : World} (h : PlayAt W B r g ls P n) (hk : Keeps (fun q => q = r ∨ q = g) W W') : OwP B W W' := by
  obtain ⟨x, y, h⟩ := h
  refine hk.sub fun q _ hq => ?_
  rcases hq with rfl | rfl
  · exact ⟨h.lo, _, _, _, h.box, by decide, by decide⟩
  · obtain ⟨c, f, h1⟩ := Lib.ownsRow_kind h.places _ rfl
    exact ⟨(h.places.lt _ rfl).1, _, _, _, h1, by decide, by decide⟩
theorem OwP.row {B0 n s m : Nat} {A B : World} (h : OwP B0 A B) {E : TypeId} {v : Value} {xs : List Value} (hr : A.ownsRow n E s v m xs) (h1 : E = 3 ∨ E = 58) : B.ownsRow n E s v m xs :=
  Keeps.row h hr fun q hq hs => by
    obtain ⟨_, c, T, f, h2, h3, h4⟩ := hs
    obtain ⟨c', f', h5⟩ := Lib.ownsRow_kind hr q hq
    rw [h2] at h5
    injection h5 with h5
    injection h5 with _ h6
    rcases h1 with rfl | rfl
    · exact h3 h6
    · exact h4 h6
/-- The picks, and the boxes that hold them, the play, and its turn. -/
structure CapAt (w : World) (B r bp bk bt z hb : Nat) (pp : Option Addr) (np dp : Nat) (ps : List Int) : Prop where
  play : w.heap[bp]? = some (.cells #[.pointer (some ⟨r, 0, none⟩)] 85 (0, 0))
  picks : w.heap[bk]? = some (.cells #[.slice pp np dp] 58 (0, 0))
  turn : w.heap[bt]? = some (.cells #[.func (.func 44) #[.pointer (some ⟨r, 0, none⟩)] #[]] 88 (0, 0))
  nums : NumsAt w .i64 (.slice pp np dp) ps
  lt : (bp < z ∧ bp ≠ hb) ∧ (bk < z ∧ bk ≠ hb) ∧ (bt < z ∧ bt ≠ hb)
  old : ∀ b off, pp = some ⟨b, off, none⟩ → ps ≠ [] → b < z ∧ b ≠ hb ∧ b < B
theorem CapAt.cells {w : World} {B r bp bk bt z hb : Nat} {pp : Option Addr} {np dp : Nat} {ps : List Int} (h : CapAt w B r bp bk bt z hb pp np dp ps) : w.cell? ⟨bp, 0, none⟩ = some (.pointer (some ⟨r, 0, none⟩)) ∧ w.cell? ⟨bk, 0, none⟩ = some (.slice pp np dp) ∧ w.cell? ⟨bt, 0, none⟩ = some (.func (.func 44) #[.pointer (some ⟨r, 0, none⟩)] #[]) := by
  simp [World.cell?, h.play, h.picks, h.turn]
theorem CapAt.kp {w w' : World} {B r bp bk bt z hb : Nat} {pp : Option Addr} {np dp : Nat} {ps : List Int} (h : CapAt w B r bp bk bt z hb pp np dp ps) (hk : KpP hb z w w') : CapAt w' B r bp bk bt z hb pp np dp ps := by
  refine ⟨hk.2.2 _ _ _ _ h.lt.1.1 h.lt.1.2 h.play, hk.2.2 _ _ _ _ h.lt.2.1.1 h.lt.2.1.2 h.picks, hk.2.2 _ _ _ _ h.lt.2.2.1 h.lt.2.2.2 h.turn, ?_, h.lt, h.old⟩
  obtain ⟨q, cap, e, hc⟩ := h.nums
  refine ⟨q, cap, e, fun hne => ?_⟩
  obtain ⟨b, off, rfl, hcs⟩ := hc hne
  injection e with e1 _ _
  have := h.old b off e1 hne
  exact ⟨b, off, rfl, fun i hi => hk.cell this.1 this.2.1 (hcs i hi)⟩
theorem CapAt.keeps {S : Nat → Prop} {w w' : World} {B r bp bk bt z hb : Nat} {pp : Option Addr} {np dp : Nat} {ps : List Int} (h : CapAt w B r bp bk bt z hb pp np dp ps) (hk : Keeps S w w') (h1 : ¬ S bp) (h2 : ¬ S bk) (h3 : ¬ S bt) (h4 : ∀ b, b < B → ¬ S b) : CapAt w' B r bp bk bt z hb pp np dp ps := by
  refine ⟨(hk.block bp (Array.getElem?_eq_some_iff.1 h.play).1 h1).trans h.play, (hk.block bk (Array.getElem?_eq_some_iff.1 h.picks).1 h2).trans h.picks, (hk.block bt (Array.getElem?_eq_some_iff.1 h.turn).1 h3).trans h.turn, ?_, h.lt, h.old⟩
  obtain ⟨q, cap, e, hc⟩ := h.nums
  refine ⟨q, cap, e, fun hne => ?_⟩
  obtain ⟨b, off, rfl, hcs⟩ := hc hne
  injection e with e1 _ _
  have := h.old b off e1 hne
  exact ⟨b, off, rfl, fun i hi => hk.cell (hcs i hi) (h4 b this.2.2)⟩
/-- .. stays, behind a turn. -/
theorem CapAt.turned {w w' : World} {B r g bp bk bt z hb n : Nat} {ls : List Bool} {P : PlM} {pp : Option Addr} {np dp : Nat} {ps : List Int} (h : CapAt w B r bp bk bt z hb pp np dp ps) (hp : PlayAt w B r g ls P n) (hk : Keeps (fun q => q = r ∨ q = g) w w') : CapAt w' B r bp bk bt z hb pp np dp ps := by
  obtain ⟨x, y, hp⟩ := hp
  obtain ⟨c, f, hg⟩ := Lib.ownsRow_kind hp.places _ rfl
  have hno : ∀ (b : Nat) (cc : Array Value) (T : TypeId) (ff : Nat × Nat), w.heap[b]? = some (.cells cc T ff) → T ≠ 90 → T ≠ 24 → ¬ (b = r ∨ b = g) := fun b cc T ff hb h1 h2 hq => by
    rcases hq with rfl | rfl
    · rw [show w.heap[b]? = _ from hp.box] at hb
      injection hb with hb
      injection hb with _ h3
      exact h1 h3.symm
    · rw [hg] at hb
      injection hb with hb
      injection hb with _ h3
      exact h2 h3.symm
  refine h.keeps hk (hno _ _ _ _ h.play (by decide) (by decide)) (hno _ _ _ _ h.picks (by decide) (by decide)) (hno _ _ _ _ h.turn (by decide) (by decide)) (fun b hlt hq => ?_)
  have hq' : b = r ∨ b = g := hq
  rcases hq' with e | e
  · have := hp.lo; omega
  · have := (hp.places.lt g rfl).1; omega

theorem playR_one {ls : List Bool} {n : Nat} {P : PlM} {ps h : List Int} {j k : Nat} (hj : j < ps.length) (he : ps[j] = (k : Int)) (hok : okPick n P.ss ps[j] = true) : playR ls n (ps.drop j) P h = playR ls n (ps.drop (pickAt n (turnP ls P k).ss ps (j + 1))) (turnP ls P k) (if ((turnP ls P k).ss.getD k dS).p = 3 then h ++ [(k : Int)] else h) := by
  rw [List.drop_eq_getElem_cons hj, playR, if_pos hok, he, playR_skip]
  simp only [Int.toNat_natCast, List.drop_drop, pickAt]
theorem pickAt_ge (n : Nat) (ss : List SpM) (ps : List Int) (i : Nat) : i ≤ pickAt n ss ps i := by unfold pickAt; omega
theorem playR_skip0 (ls : List Bool) (n : Nat) (P : PlM) (ps : List Int) : playR ls n ps P [] = playR ls n (ps.drop (pickAt n P.ss ps 0)) P ([].map (fun k : Nat => (k : Int))) := by
  rw [playR_skip]; simp [pickAt]
set_option maxRecDepth 100000 in
set_option maxHeartbeats 16000000 in
theorem qholds (nf : Nat) (hnf : 1 ≤ nf) (B r g n bp bk bt z hb : Nat) (ls : List Bool) (P0 : PlM) (pp : Option Addr) (np dp : Nat) (ps : List Int) (w : World) (hP : PlayAt w B r g ls P0 n) (hok : PlOk ls P0) (hn : n ≤ 1099511627776) (hC : CapAt w B r bp bk bt z hb pp np dp ps) (hnp : np ≤ 1099511627776) (hB : B ≤ w.heap.size) :
    SeqOwn Fence.wide nf Try.prog 67 #[] #[.pointer (some ⟨bp, 0, none⟩), .pointer (some ⟨bk, 0, none⟩), .pointer (some ⟨bt, 0, none⟩)] (fun k : Nat => #[.int .i64 (k : Int)]) (KpP hb z) (OwP B)
      (fun xs W => PlayAt W B r g ls (playR ls n ps P0 []).1 n ∧ xs.map (fun k : Nat => (k : Int)) = (playR ls n ps P0 []).2) (fun _ => True) np w := fun lw J Jx W hW hJ hJx hJo hY h0 => by
  refine callsIn_of_wp Try.func67 rfl trivial ?_ rfl
  simp only [Try.ntmps67, List.size_toArray, List.length_cons, List.length_nil, Nat.reduceAdd, Nat.reduceSub, Array.replicate_succ, Array.replicate_zero, List.push_toArray, List.append_toArray, List.nil_append, List.cons_append]
  have hl : np = ps.length := by
    obtain ⟨_, _, e, _⟩ := hC.nums
    injection e
  have HPW := Lib.hid (hP.below hW)
  have HCW := Lib.hid (hC.keeps (S := fun _ => False) (Keeps.of_below hW) (fun h => h) (fun h => h) (fun h => h) (fun _ _ h => h))
  have HBW := Lib.hid (Nat.le_trans hB hW.size)
  have HL := Lib.hid hl
  have HOK := Lib.hid hok
  have HJ := Lib.hid (And.intro hJ (And.intro hJx hJo))
  have HY := Lib.hid hY
  have HJ0 := Lib.hid h0
  clear hP hC hB hW hl hok hJ hJx hJo hY h0
  obtain ⟨c0, c1, c2⟩ := HCW.out.cells
  have hp0 : pickAt n P0.ss ps 0 ≤ np := by
    have := pickAt_le n P0.ss ps 0 (Nat.zero_le _)
    have := HL.out
    omega
  have HPK := Lib.hid (show Calls Try.prog 68 #[.pointer (some ⟨r, 0, none⟩), .slice pp np dp, .int .i64 0] W fun e w' => e = .returned (.int .i64 ((pickAt n P0.ss ps 0 : Nat) : Int)) ∧ w' = W from by
    obtain ⟨x, y, h⟩ := HPW.out
    exact qpicked B r g n ls P0 x y W h hn pp np dp ps HCW.out.nums hnp 0 (Nat.zero_le _))
  gi_wp2_with (refine ⟨trivial, ?_⟩; gi_at_call 68; refine (callsIn_wide.2 HPK.out).mono ?_; rintro _ _ ⟨rfl, rfl⟩)
  gi_loopw [5] (fun iv wr => ∃ (j : Nat) (P : PlM) (pre : List Nat), j ≤ np ∧ iv = .int .i64 j ∧ Hid (playR ls n (ps.drop j) P (pre.map (fun k : Nat => (k : Int))) = playR ls n ps P0 [] ∧ PlOk ls P ∧ pre.length ≤ j ∧ ∀ h : j < ps.length, okPick n P.ss ps[j] = true) ∧ Hid (PlayAt wr B r g ls P n ∧ CapAt wr B r bp bk bt z hb pp np dp ps ∧ B ≤ wr.heap.size) ∧ Hid (J pre wr)) (fun iv _ => np - (intOf iv).toNat)
  case atStart => exact ⟨pickAt n P0.ss ps 0, P0, [], hp0, rfl, Lib.hid ⟨(playR_skip0 ls n P0 ps).symm, HOK.out, Nat.zero_le _, fun h => pickAt_ok h⟩, Lib.hid ⟨HPW.out, HCW.out, HBW.out⟩, HJ0⟩
  case round =>
    obtain ⟨j, P, pre, hj, rfl, HR, HP, HJP⟩ := hrel
    clear c0 c1 c2 hp0 HPK
    by_cases hlt : j < np
    · have hjl : j < ps.length := by have := HL.out; omega
      obtain ⟨hE, hOK, hlen, hpick⟩ := HR.out
      obtain ⟨k, hk, hkn, _⟩ := okPick_iff (hpick hjl)
      obtain ⟨hpl, hcap, hBB⟩ := HP.out
      have hil : k < P.ss.length := by
        obtain ⟨x, y, h⟩ := hpl
        rw [h.len]; exact hkn
      have HE := Lib.hid (hE.symm.trans (playR_one hjl hk (hpick hjl)))
      have HOK2 := Lib.hid (hOK.turn hil)
      have HTN := Lib.hid (qturn B r g n k ls P wr hpl hkn hn hOK hBB)
      obtain ⟨d0, d1, d2⟩ := hcap.cells
      obtain ⟨b, off, hpe, hx⟩ : ∃ b off, pp = some ⟨b, off, none⟩ ∧ wr.cell? ⟨b, off + j, none⟩ = some (.int .i64 (k : Int)) := by
        obtain ⟨q, cap, e, hc⟩ := hcap.nums
        injection e with e1 _ _
        obtain ⟨b, off, rfl, hcs⟩ := hc (by intro e; rw [e] at hjl; cases hjl)
        exact ⟨b, off, e1, by rw [← hk]; exact hcs j hjl⟩
      rw [hpe] at d1
      have HPE := Lib.hid hpe
      have HLEN := Lib.hid hlen
      have hpa1 := pickAt_ge n (turnP ls P k).ss ps (j + 1)
      have hpa2 : pickAt n (turnP ls P k).ss ps (j + 1) ≤ np := by
        have h1 := pickAt_le n (turnP ls P k).ss ps (j + 1) hjl
        have := HL.out
        omega
      have HPO := Lib.hid (fun h : pickAt n (turnP ls P k).ss ps (j + 1) < ps.length => pickAt_ok h)
      obtain ⟨m, hm⟩ : ∃ m, m = pickAt n (turnP ls P k).ss ps (j + 1) := ⟨_, rfl⟩
      rw [← hm] at hpa1 hpa2
      have HM := Lib.hid hm
      clear hE hOK hlen hpick hpl hcap hBB hil hpe hm
      by_cases h3 : ((turnP ls P k).ss.getD k dS).p = 3
      · have HX : ∀ W2 : World, PlayAt W2 B r g ls (turnP ls P k) n → Keeps (fun q => q = r ∨ q = g) wr W2 → W2.cell? ⟨bp, 0, none⟩ = some (.pointer (some ⟨r, 0, none⟩)) ∧ W2.cell? ⟨r, 3, none⟩ = some (.slice (some ⟨g, 0, none⟩) n n) ∧ W2.cell? ⟨g, k * 3 + 1, none⟩ = some (.int .i64 3) := fun W2 hP2 hk2 => by
          obtain ⟨x2, y2, h2⟩ := hP2
          obtain ⟨⟨_, c1, _⟩, _⟩ := h2.cell hkn
          rw [h3] at c1
          exact ⟨(HP.out.2.1.turned HP.out.1 hk2).cells.1, h2.box.cells.2.2.2, c1⟩
        have HX := Lib.hid HX
        have HYY := Lib.hid (fun W2 (hk2 : Keeps (fun q => q = r ∨ q = g) wr W2) => HY.out pre k W2 (HJ.out.2.2 _ _ _ HJP.out (OwP.of HP.out.1 hk2)) (by have := HLEN.out; omega))
        gi_wp2_with (refine ⟨trivial, ?_⟩; gi_at_call 44; refine (callsIn_wide.2 HTN.out).mono ?_; rintro _ W2 ⟨rfl, hP2, hk2⟩; obtain ⟨e0, e1, e2⟩ := HX.out W2 hP2 hk2; obtain ⟨fn, tmps, assign, body, hy2, hR⟩ := HYY.out W2 hk2; have HP2 := Lib.hid hP2; have HK2 := Lib.hid hk2; clear hP2 hk2)
        gi_wp2
        refine hR.mono ?_
        rintro e W3 (⟨rfl, hJ3, hk3⟩ | ⟨rfl, hJx3⟩)
        · have hC3 := (HP.out.2.1.turned HP.out.1 HK2.out).kp hk3
          obtain ⟨x2, y2, h2⟩ := HP2.out
          have h3' := hk3.play h2
          obtain ⟨f0, f1, f2⟩ := hC3.cells
          rw [HPE.out] at f1
          have HJ3 := Lib.hid hJ3
          have HC3 := Lib.hid hC3
          have HB3 := Lib.hid (Nat.le_trans HP.out.2.2 (Nat.le_trans HK2.out.size hk3.1))
          have HPK := Lib.hid (show Calls Try.prog 68 #[.pointer (some ⟨r, 0, none⟩), .slice (some ⟨b, off, none⟩) np dp, .int .i64 ((j : Int) + 1)] W3 fun e w' => e = .returned (.int .i64 ((m : Nat) : Int)) ∧ w' = W3 from by
            rw [HM.out, ← HPE.out, show (j : Int) + 1 = ((j + 1 : Nat) : Int) from rfl]
            exact qpicked B r g n ls _ _ _ W3 h3' hn pp np dp ps hC3.nums hnp (j + 1) hlt)
          have HP3 := Lib.hid (show PlayAt W3 B r g ls (turnP ls P k) n from ⟨_, _, h3'⟩)
          clear h2 h3' hk3 hC3 hJ3
          gi_wp2_with (refine ⟨trivial, ?_⟩; gi_at_call 68; refine (callsIn_wide.2 HPK.out).mono ?_; rintro _ _ ⟨rfl, rfl⟩)
          go_roundw
          case rel => exact ⟨m, turnP ls P k, pre ++ [k], by omega, by go_num, Lib.hid ⟨by rw [HE.out, if_pos h3, HM.out]; simp, HOK2.out, by simp; have := HLEN.out; omega, by rw [HM.out]; exact HPO.out⟩, Lib.hid ⟨HP3.out, HC3.out, HB3.out⟩, HJ3⟩
          case measure => simp [intOf]; omega
        · gi_wp2
          refine bodyPost_ret (results_none rfl _ _ _) rfl ?_
          exact ⟨⟨_, rfl⟩, .inr ⟨_, trivial, hJx3⟩⟩
      · obtain ⟨q, hq⟩ : ∃ q, q = ((turnP ls P k).ss.getD k dS).p := ⟨_, rfl⟩
        have hq3 : (q == 3) = false := by rw [beq_eq_false_iff_ne, hq]; exact h3
        have HX := Lib.hid (fun (W2 : World) (hP2 : PlayAt W2 B r g ls (turnP ls P k) n) (hk2 : Keeps (fun q => q = r ∨ q = g) wr W2) => show W2.cell? ⟨bp, 0, none⟩ = some (.pointer (some ⟨r, 0, none⟩)) ∧ W2.cell? ⟨bk, 0, none⟩ = some (.slice (some ⟨b, off, none⟩) np dp) ∧ W2.cell? ⟨r, 3, none⟩ = some (.slice (some ⟨g, 0, none⟩) n n) ∧ W2.cell? ⟨g, k * 3 + 1, none⟩ = some (.int .i64 q) ∧ Hid (Calls Try.prog 68 #[.pointer (some ⟨r, 0, none⟩), .slice (some ⟨b, off, none⟩) np dp, .int .i64 ((j : Int) + 1)] W2 fun e w' => e = .returned (.int .i64 ((m : Nat) : Int)) ∧ w' = W2) ∧ Hid (J pre W2 ∧ CapAt W2 B r bp bk bt z hb pp np dp ps ∧ B ≤ W2.heap.size) from by
          have hJ2 := HJ.out.2.2 _ _ _ HJP.out (OwP.of HP.out.1 hk2)
          have hC2 := HP.out.2.1.turned HP.out.1 hk2
          obtain ⟨x2, y2, h2⟩ := hP2
          obtain ⟨⟨_, c1, _⟩, _⟩ := h2.cell hkn
          refine ⟨hC2.cells.1, by rw [← HPE.out]; exact hC2.cells.2.1, h2.box.cells.2.2.2, by rw [hq]; exact c1, Lib.hid ?_, Lib.hid ⟨hJ2, hC2, Nat.le_trans HP.out.2.2 hk2.size⟩⟩
          rw [HM.out, ← HPE.out, show (j : Int) + 1 = ((j + 1 : Nat) : Int) from rfl]
          exact qpicked B r g n ls _ _ _ W2 h2 hn pp np dp ps hC2.nums hnp (j + 1) hlt)
        have H3 := Lib.hid h3
        clear hq h3
        gi_wp2_with (refine ⟨trivial, ?_⟩; gi_at_call 44; refine (callsIn_wide.2 HTN.out).mono ?_; rintro _ W2 ⟨rfl, hP2, hk2⟩; obtain ⟨e0, e1, e2, e3, HPK, HJ2⟩ := HX.out W2 hP2 hk2; have HP2 := Lib.hid hP2; clear hP2 hk2)
        refine ⟨fun f h => (by cases h), ?_⟩
        gi_wp2_with (refine ⟨trivial, ?_⟩; gi_at_call 68; refine (callsIn_wide.2 HPK.out).mono ?_; rintro _ _ ⟨rfl, rfl⟩)
        go_roundw
        case rel => exact ⟨m, turnP ls P k, pre, by omega, by go_num, Lib.hid ⟨by rw [HE.out, if_neg H3.out, HM.out], HOK2.out, by have := HLEN.out; omega, by rw [HM.out]; exact HPO.out⟩, Lib.hid ⟨HP2.out, HJ2.out.2.1, HJ2.out.2.2⟩, Lib.hid HJ2.out.1⟩
        case measure => simp [intOf]; omega
    · obtain ⟨d0, d1, d2⟩ := HP.out.2.1.cells
      gi_wp2
      go_end0
      obtain rfl : j = np := by omega
      obtain ⟨hE, _, _, _⟩ := HR.out
      rw [List.drop_eq_nil_of_le (by have := HL.out; omega)] at hE
      exact ⟨⟨_, rfl⟩, .inl ⟨pre, ⟨by rw [← hE]; exact HP.out.1, by rw [← hE]; rfl⟩, HJP.out⟩⟩

end Go.Proofs.Ytcnpmkigiklnnaa
namespace Go.Proofs.Ytcnpmkigiklnnaa
open Go.RowKit Go.Shelf
attribute [local go_sem] Oper.semAt_some

set_option maxRecDepth 100000 in
theorem qbegin_bad (v v1 : Value) (ws : List Int) (ls : List Bool) (f : Bool) (W : World) (hv : MemAt W v ws ls f) (hw : ws.length ≤ 9223372036854775807) (hr : rightB ws ls = false) (h1 : ∃ p n c, v1 = .slice p n c) :
    Calls Try.prog 39 #[v, v1] W fun e w' => e = .returned (.tuple #[.pointer none, .int .i64 120]) ∧ Below W.heap.size W w' := by
  have hm := hv
  obtain ⟨vw, vl, rfl, ⟨pw, cw, rfl, hcw⟩, pl, cl, rfl, hcl⟩ := hv
  obtain ⟨p1, n1, c1, rfl⟩ := h1
  have HRUN := Lib.hid (fun (Z : World) (hb : Below W.heap.size W Z) => run_bad _ (.slice none 0 0) ws ls f Z (hm.below hb) hw hr ⟨none, 0, 0, rfl⟩)
  have HZ0 := Lib.hid (MBox.new W (.slice pw ws.length cw) (.slice pl ls.length cl) f)
  simp only [memZ] at HRUN
  clear hm hcw hcl hr
  go_enter Try.func39, Try.ntmps39
  go_wp2_with fail
  refine (HRUN.out _ (below1 _ _)).mono ?_
  rintro e w1 ⟨rfl, hb1⟩
  obtain ⟨z, hz⟩ : ∃ z, z = W.heap.size := ⟨_, rfl⟩
  rw [← hz]
  have hz1 := HZ0.out.below hb1
  rw [← hz] at hz1
  obtain ⟨⟨hd0, hd1, hd2⟩, he0, he1, he2⟩ := mbox_cells hz1
  have HB1 := Lib.hid (below_then (below1 W _) (below1 W _).size hb1)
  have HZW := Lib.hid hz
  clear hb1 hz1 HZ0 hz
  go_wp2
  refine bodyPost_ret (v := .tuple #[.pointer none, .int .i64 120]) (by simp [results, Try.results39, go_sem]) rfl ?_
  refine ⟨rfl, HB1.out.trans (Keeps.below ((((Keeps.setCell w1 (S := (· = z)) (p := ⟨z, 0, none⟩) rfl _).trans (Keeps.setCell _ (S := (· = z)) (p := ⟨z, 1, none⟩) rfl _)).trans (Keeps.setCell _ (S := (· = z)) (p := ⟨z, 2, none⟩) rfl _))) HB1.out.size (fun q hq => by rw [hq]; exact Nat.le_of_eq HZW.out.symm))⟩

set_option maxRecDepth 100000 in
theorem qholders (r : Nat) (b0 : Array Value) (vp : Value) (hvp : ∃ p n c, vp = .slice p n c) (W : World) :
    Calls Try.prog 43 #[.pointer (some ⟨r, 0, none⟩), .func (.func 44) b0 #[], vp] W fun e w' => e = .returned (.func (.func 67) #[] #[.pointer (some ⟨W.heap.size, 0, none⟩), .pointer (some ⟨W.heap.size + 2, 0, none⟩), .pointer (some ⟨W.heap.size + 1, 0, none⟩)]) ∧
      w' = ((W.alloc (.cells #[.pointer (some ⟨r, 0, none⟩)] 85)).alloc (.cells #[.func (.func 44) b0 #[]] 88)).alloc (.cells #[vp] 58) := by
  obtain ⟨p, n, c, rfl⟩ := hvp
  go_enter Try.func43, Try.ntmps43
  go_wp2
  go_ret
  exact ⟨rfl, rfl⟩

end Go.Proofs.Ytcnpmkigiklnnaa
