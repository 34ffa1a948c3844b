/-
  GraceWaits, called with any number of CPUs and row of ticks: it answers true.
  Conditions: the ranges of Go's types.
-/
import Derived.Test.YtfnpokddoffplaaJAH
import Derived.Maps.RangeWalk
import Derived.Test.YtfnpokddoffplaaJA9
/-
  What GraceWaits keeps: with which step each period was asked for, and what has been left; the map of these.
  Conditions: as each has them.
-/
namespace Go.Proofs.Ytfnpokddoffplaa
set_option maxRecDepth 100000
open Go.RowKit Go.Shelf Go.Maps

/-- Each period that was asked for has a step; once it is over, or while it is on as far as the CPUs are not needed, no section is open from then. -/
structure WInv (s : RdS) (g : GrS) (T : Int → Int) : Prop where
  rng : ∀ y, 1 ≤ y → y ≤ g.asked → 0 ≤ T y ∧ T y ≤ s.now
  old : ∀ y, 1 ≤ y → y ≤ g.done → ∀ j, j < s.ns.length → nN s j ≠ 0 → T y < oO s j
  run : g.on = true → ∀ j, j < s.ns.length → ndB g j = false → nN s j ≠ 0 → T (g.done + 1) < oO s j
/-- The steps, behind a tick. -/
def asksT (P : PlS) (t : Int × Int) (T : Int → Int) : Int → Int := if t.1 = 3 then fun y => if y = nextG P.g then P.s.now else T y else T
theorem open_step {s : RdS} {c : Int} {en : Bool} (g : Good s) (h : stepE s c en = 0) {x : Int} (hx : x ≤ s.now) (j : Nat) (hp : nN s j ≠ 0 → x < oO s j) : nN (stepS s c en) j ≠ 0 → x < oO (stepS s c en) j := by
  obtain ⟨i, rfl, hi, hnow, h8, h0⟩ := stepE_zero h
  have hio : i < s.os.length := by have := g.lo; omega
  intro hne
  rw [stepS_n s i en hi] at hne
  rw [stepS_o s i en hio]
  by_cases e : j = i
  · subst e
    rw [if_pos rfl] at hne
    rw [if_pos (rfl : j = j)]
    cases en
    · have := h0 rfl
      simp only [Bool.false_eq_true, if_false] at hne ⊢
      split
      · omega
      · exact hp this
    · simp only [if_true] at hne ⊢
      split
      · omega
      · rename_i hn
        exact hp hn
  · rw [if_neg e] at hne
    rw [if_neg e]
    exact hp hne
theorem WInv.step {s : RdS} {g : GrS} {T : Int → Int} (h : WInv s g T) (hs : Good s) (hg : GoodG g) {c : Int} {en : Bool} (he : stepE s c en = 0) : WInv (stepS s c en) g T := by
  have hl := (stepS_len s c en).1
  have hda : g.on = true → g.done < g.asked := fun ho => (hg.on1 ho).2.1
  have hda2 : g.done ≤ g.asked := by
    cases ho : g.on with
    | true => have := hg.on1 ho; omega
    | false => have := hg.on0 ho; omega
  refine ⟨fun y h1 h2 => ?_, fun y h1 h2 j hj => ?_, fun ho j hj hb => ?_⟩
  · have := h.rng y h1 h2
    rw [stepS_now]; omega
  · rw [hl] at hj
    exact open_step hs he (h.rng y h1 (by omega)).2 j (h.old y h1 h2 j hj)
  · rw [hl] at hj
    have := hda ho
    exact open_step hs he (h.rng _ (by have := hg.d0; omega) (by omega)).2 j (h.run ho j hj hb)
theorem WInv.tick {P : PlS} {T : Int → Int} {t : Int × Int} (h : WInv P.s P.g T) (hp : GoodP P) (he : tickE P t = 0) : WInv (tickP P t).s (tickP P t).g (asksT P t T) := by
  unfold tickE at he
  unfold tickP asksT
  by_cases h1 : t.1 = 1
  · rw [if_pos h1] at he
    rw [if_pos h1, if_neg (by omega)]
    exact h.step hp.s hp.g he
  · rw [if_neg h1] at he
    rw [if_neg h1]
    by_cases h2 : t.1 = 2
    · rw [if_pos h2] at he
      rw [if_pos h2, if_neg (by omega)]
      exact h.step hp.s hp.g he
    · rw [if_neg h2] at he
      rw [if_neg h2]
      by_cases h3 : t.1 = 3
      · rw [if_pos h3, if_pos h3]
        have hn := hp.g.next
        have hnn : P.g.asked = nextG P.g ∨ P.g.asked + 1 = nextG P.g := by
          unfold nextG
          cases ho : P.g.on with
          | true => have := hp.g.on1 ho; rw [if_pos rfl]; omega
          | false => have := hp.g.on0 ho; rw [if_neg Bool.false_ne_true]; omega
        refine ⟨fun y h1 h2 => ?_, fun y h1 h2 j hj hne => ?_, fun ho j hj hb hne => ?_⟩
        · have h2' : y ≤ nextG P.g := h2
          show 0 ≤ (if y = nextG P.g then P.s.now else T y) ∧ (if y = nextG P.g then P.s.now else T y) ≤ P.s.now
          split
          · exact ⟨hp.s.n0, Int.le_refl _⟩
          · exact h.rng y h1 (by omega)
        · have h2' : y ≤ P.g.done := h2
          show (if y = nextG P.g then P.s.now else T y) < _
          rw [if_neg (by omega)]
          exact h.old y h1 h2' j hj hne
        · have ho' : P.g.on = true := ho
          show (if P.g.done + 1 = nextG P.g then P.s.now else T (P.g.done + 1)) < _
          have e : nextG P.g = P.g.done + 1 + 1 := by unfold nextG; rw [if_pos ho']
          rw [if_neg (by omega)]
          exact h.run ho' j hj hb hne
      · rw [if_neg h3] at he
        rw [if_neg h3, if_neg h3]
        have hh : hasB P.g.nd.length t.2 = true := by
          cases hh : hasB P.g.nd.length t.2 with
          | true => rfl
          | false =>
            split at he
            · cases he
            · cases he
        obtain ⟨i, hi, hil⟩ := (has_iff _ _).1 hh
        show WInv P.s (pickG P.g t.2.toNat (quietB P.s t.2)) T
        rw [hi, Int.toNat_natCast, quiet_iff hp.s i (by rw [hp.len]; exact hil)]
        have hb := pick_bound P.g i (decide (nN P.s i = 0))
        unfold pickG at hb ⊢
        by_cases ho : P.g.on = true
        · rw [if_pos ho] at hb ⊢
          by_cases hq : nN P.s i = 0
          · rw [decide_eq_true hq, if_pos rfl] at hb ⊢
            have hkey : ∀ j, j < P.s.ns.length → (P.g.nd.set i false).getD j false = false → ndB P.g j = false ∨ nN P.s j = 0 := fun j hj hf => by
              rw [getB_set] at hf
              by_cases e : j = i
              · exact .inr (by rw [e]; exact hq)
              · rw [if_neg (fun h => e h.1)] at hf; exact .inl hf
            by_cases hl : lastB P.g.nd i = true
            · have e : reportG P.g i = ⟨P.g.done + 1, P.g.asked, false, P.g.nd.set i false⟩ := by unfold reportG; rw [if_pos hl]
              rw [e]
              refine ⟨h.rng, fun y h1 h2 j hj hne => ?_, fun ho => by cases ho⟩
              have h2' : y ≤ P.g.done + 1 := h2
              by_cases hy : y ≤ P.g.done
              · exact h.old y h1 hy j hj hne
              · obtain rfl : y = P.g.done + 1 := by omega
                refine h.run ho j hj ?_ hne
                cases hb2 : ndB P.g j with
                | false => rfl
                | true =>
                  have : j = i := (last_iff _ _).1 hl j (by rw [← hp.len]; exact hj) hb2
                  rw [this] at hne
                  exact absurd hq hne
            · have e : reportG P.g i = ⟨P.g.done, P.g.asked, P.g.on, P.g.nd.set i false⟩ := by unfold reportG; rw [if_neg hl]
              rw [e]
              refine ⟨h.rng, h.old, fun _ j hj hf hne => ?_⟩
              rcases hkey j hj hf with h4 | h4
              · exact h.run ho j hj h4 hne
              · exact absurd h4 hne
          · rw [decide_eq_false hq, if_neg Bool.false_ne_true] at hb ⊢
            exact h
        · rw [if_neg ho] at hb ⊢
          split
          · refine ⟨h.rng, h.old, fun _ j hj hf hne => ?_⟩
            exfalso
            have hf' : (List.replicate P.g.nd.length true).getD j false = false := hf
            rw [List.getD_eq_getElem?_getD, List.getElem?_replicate, if_pos (by rw [← hp.len]; exact hj)] at hf'
            cases hf'
          · exact h
/-- Over: then passed. -/
theorem WInv.passed {s : RdS} {g : GrS} {T : Int → Int} (h : WInv s g T) (hs : Good s) (hg : GoodG g) {y : Int} (ho : overB g y = true) : (mayB s.now s.ns s.os && passB s.now (oldM (secs (s.ns.zip s.os))) (T y)) = true := by
  unfold overB at ho
  simp only [Bool.and_eq_true, decide_eq_true_eq] at ho
  have hda : g.done ≤ g.asked := by
    cases ho : g.on with
    | true => have := hg.on1 ho; omega
    | false => have := hg.on0 ho; omega
  have h1 := h.rng y ho.2.1 (by omega)
  rw [(good_iff s).2 hs, Bool.true_and, pass_iff hs]
  exact ⟨h1.1, h1.2, h.old y ho.2.1 ho.2.2⟩
theorem GoodG.span {g : GrS} (h : GoodG g) : g.done ≤ g.asked := by
  cases ho : g.on with
  | true => have := h.on1 ho; omega
  | false => have := h.on0 ho; omega
theorem good_zero (n : Nat) (h1 : 1 ≤ n) (h8 : n ≤ 8) : Good ⟨0, List.replicate n 0, List.replicate n 0⟩ := by
  rw [← good_iff]
  obtain rfl | rfl | rfl | rfl | rfl | rfl | rfl | rfl : n = 1 ∨ n = 2 ∨ n = 3 ∨ n = 4 ∨ n = 5 ∨ n = 6 ∨ n = 7 ∨ n = 8 := by omega
  all_goals decide
theorem goodG_zero (n : Nat) (h1 : 1 ≤ n) (h8 : n ≤ 8) : GoodG ⟨0, 0, false, List.replicate n false⟩ := by
  rw [← goodG_iff]
  obtain rfl | rfl | rfl | rfl | rfl | rfl | rfl | rfl : n = 1 ∨ n = 2 ∨ n = 3 ∨ n = 4 ∨ n = 5 ∨ n = 6 ∨ n = 7 ∨ n = 8 := by omega
  all_goals decide
theorem winv_zero (n : Nat) : WInv ⟨0, List.replicate n 0, List.replicate n 0⟩ ⟨0, 0, false, List.replicate n false⟩ (fun _ => 0) :=
  ⟨fun y h1 h2 => by have h2 : y ≤ 0 := h2; omega, fun y h1 h2 => by have h2 : y ≤ 0 := h2; omega, fun h => by cases h⟩

theorem kB {w w' : World} (h : Below w.heap.size w w') : w.grownBy w' none := ⟨h.os, h.tape, h.output, h.size, fun i hi _ => h.block i hi⟩
theorem kK {w w' : World} {z : Nat} (h : Keeps (fun k => k = z) w w') : w.grownBy w' (some z) := ⟨h.os, h.tape, h.output, h.size, fun i hi hne => h.block i hi (fun e => hne (by rw [e]))⟩
/-- The map of the steps: the periods 1 .. A have one each. -/
def MapD (A : Int) (T : Int → Int) (D : DataW Unit) : Prop := (∀ y : Int, Maps.has D (.int .i64 y) = decide (1 ≤ y ∧ y ≤ A)) ∧ ∀ y : Int, 1 ≤ y → y ≤ A → ∀ zd, D.atKey (.int .i64 y) zd = .lit (.int .i64 (T y))
def MapT (W : World) (mb k : Nat) (A : Int) (T : Int → Int) : Prop := ∃ D : DataW Unit, W.ownsMap Try.prog 3 (plainElem Try.prog 3) mb k D ∧ MapD A T D
theorem MapT.new (W : World) (T : Int → Int) : MapT (W.alloc (.map #[] 0)) W.heap.size 0 0 T := ⟨.map [], World.ownsMap_made W _ _ _, fun y => by rw [decide_eq_false (by omega)]; simp [Maps.has_eq], fun y h1 h2 => by omega⟩
theorem MapT.kept {W W' : World} {row : Option Nat} {mb k : Nat} {A : Int} {T : Int → Int} (h : MapT W mb k A T) (hg : W.grownBy W' row) (hne : some mb ≠ row) : MapT W' mb k A T := by
  obtain ⟨D, ho, hD⟩ := h
  exact ⟨D, ho.kept hg hne, hD⟩
theorem MapT.below {W W' : World} {mb k : Nat} {A : Int} {T : Int → Int} (h : MapT W mb k A T) (hb : Below W.heap.size W W') : MapT W' mb k A T := h.kept (kB hb) (by simp)
theorem MapT.mono {W : World} {mb k k' : Nat} {A : Int} {T : Int → Int} (h : MapT W mb k A T) (hk : k ≤ k') : MapT W mb k' A T := by
  obtain ⟨D, ho, hD⟩ := h
  exact ⟨D, ho.mono hk, hD⟩
theorem MapT.lt {W : World} {mb k : Nat} {A : Int} {T : Int → Int} (h : MapT W mb k A T) : mb < W.heap.size := by
  obtain ⟨D, ho, _⟩ := h
  exact ho.lt
theorem MapT.block {W : World} {mb k : Nat} {A : Int} {T : Int → Int} (h : MapT W mb k A T) : ∃ es ck, W.heap[mb]? = some (.map es ck) := by
  obtain ⟨D, ⟨es, ck, h1, _⟩, _⟩ := h
  exact ⟨es, ck, h1⟩
theorem wf2 {x : Int} (h : 0 ≤ x ∧ x ≤ 2147483648) : (Lit.int .i64 x).wf = true := by simp [Lit.wf, IntKind.min, IntKind.max, IntKind.signed, IntKind.bits]; omega
theorem wfI {x : Int} (h : I64 x) : (Lit.int .i64 x).wf = true := by unfold I64 at h; simp [Lit.wf, IntKind.min, IntKind.max, IntKind.signed, IntKind.bits]; omega
theorem MapT.look {W : World} {mb k : Nat} {A : Int} {T : Int → Int} (h : MapT W mb k A T) (x : Int) (hx : 0 ≤ x ∧ x ≤ 2147483648) : ∃ c : Int, (Instr.lookup 61 (.map (some mb)) (.int .i64 x) true).run Try.prog W = .ok (.tuple #[.int .i64 c, .bool (decide (1 ≤ x ∧ x ≤ A))]) W := by
  obtain ⟨D, ho, hD⟩ := h
  obtain ⟨v, ps, hrun, hv⟩ := ho.look_ok intKeyed Try.underlying61 (z := .int .i64 0) (by kernel_rfl) (plainElem_int Try.underlying3 (by decide)) (keyOf_int_mk Try.underlying3 (wf2 hx))
  obtain ⟨c, rfl, hc, hwc⟩ := plainElem_int_inv Try.underlying3 hv
  rw [hD.1] at hrun
  exact ⟨c, hrun⟩
/-- One more period that was asked for, or the last one again. -/
theorem MapT.put {W : World} {mb k : Nat} {A : Int} {T : Int → Int} (h : MapT W mb k A T) (x c : Int) (hx : 1 ≤ x ∧ x ≤ 2147483648) (hA : A = x ∨ A + 1 = x) (hc : 0 ≤ c ∧ c ≤ 2147483648) (hn : k < 1000000000) :
    ∃ W', (Instr.mapUpdate 61 (.map (some mb)) (.int .i64 x) (.int .i64 c)).run Try.prog W = .ok () W' ∧ MapT W' mb (k + 1) x (fun y => if y = x then c else T y) ∧ W.grownBy W' (some mb) := by
  obtain ⟨D, ho, hD⟩ := h
  have hmap : IsMap D := ho.isMap
  have hkey := keyOf_int_mk (P := Try.prog) (k := 3) Try.underlying3 (wf2 (x := x) (by omega))
  obtain ⟨W', hrun, ho', hg⟩ := ho.update intKeyed Try.underlying61 (by unfold maxLen; omega) hkey (plainElem_int Try.underlying3 (wf2 hc))
  refine ⟨W', hrun, ⟨_, ho', fun z => ?_, fun z h1 h2 zd => ?_⟩, hg⟩
  · by_cases hz : z = x
    · subst hz
      rw [has_put_same hmap (intKeyed.key hkey), decide_eq_true (by omega)]
    · rw [has_put_other (by intro e; injection e with _ e; exact hz e), hD.1]
      congr 1
      exact propext ⟨fun h => by omega, fun h => by omega⟩
  · by_cases hz : z = x
    · subst hz
      rw [atKey_put_same hmap (intKeyed.key hkey)]; simp
    · rw [atKey_put_other (by intro e; injection e with _ e; exact hz e), hD.2 z h1 (by omega)]; simp [hz]

end Go.Proofs.Ytfnpokddoffplaa
/-
  Words for GraceWaits: readers and a grace in boxes; Play with one tick; asks.
  Conditions: they may be.
-/
namespace Go.Proofs.Ytfnpokddoffplaa
set_option maxRecDepth 100000
open Go.RowKit Go.Shelf Go.Maps
attribute [local go_sem] Oper.semAt_some

structure PAt (W : World) (zr zg n : Nat) (s : RdS) (g : GrS) (gb hb nb : Nat) : Prop where
  box : RBox W zr s.now (.slice (some ⟨gb, 0, none⟩) n n) (.slice (some ⟨hb, 0, none⟩) n n)
  gox : GBox W zg g.done g.asked g.on (.slice (some ⟨nb, 0, none⟩) n n)
  ns : IBlock W gb s.ns
  os : IBlock W hb s.os
  nd : BBlock W nb g.nd
theorem PAt.grown {W W' : World} {row : Option Nat} {zr zg n : Nat} {s : RdS} {g : GrS} {gb hb nb : Nat} (h : PAt W zr zg n s g gb hb nb) (hg : W.grownBy W' row) (hr : ∀ j, row = some j → j ≠ zr ∧ j ≠ zg ∧ j ≠ gb ∧ j ≠ hb ∧ j ≠ nb) : PAt W' zr zg n s g gb hb nb :=
  ⟨(hg.block _ (Array.getElem?_eq_some_iff.1 h.box).1 (fun e => (hr _ e.symm).1 rfl)).trans h.box, (hg.block _ h.gox.lt (fun e => (hr _ e.symm).2.1 rfl)).trans h.gox, (hg.block _ h.ns.lt (fun e => (hr _ e.symm).2.2.1 rfl)).trans h.ns, (hg.block _ h.os.lt (fun e => (hr _ e.symm).2.2.2.1 rfl)).trans h.os, (hg.block _ h.nd.lt (fun e => (hr _ e.symm).2.2.2.2 rfl)).trans h.nd⟩
theorem PAt.below {W W' : World} {zr zg n : Nat} {s : RdS} {g : GrS} {gb hb nb : Nat} (h : PAt W zr zg n s g gb hb nb) (hb' : Below W.heap.size W W') : PAt W' zr zg n s g gb hb nb := h.grown (kB hb') (fun j e => by cases e)
theorem PAt.apart {W : World} {zr zg n : Nat} {s : RdS} {g : GrS} {gb hb nb mb : Nat} (h : PAt W zr zg n s g gb hb nb) (hm : ∃ es ck, W.heap[mb]? = some (.map es ck)) : mb ≠ zr ∧ mb ≠ zg ∧ mb ≠ gb ∧ mb ≠ hb ∧ mb ≠ nb := by
  obtain ⟨es, ck, hm⟩ := hm
  refine ⟨fun e => ?_, fun e => ?_, fun e => ?_, fun e => ?_, fun e => ?_⟩
  · have := h.box; unfold RBox at this; rw [← e, hm] at this; cases this
  · have := h.gox; unfold GBox at this; rw [← e, hm] at this; cases this
  · have := h.ns; unfold IBlock at this; rw [← e, hm] at this; cases this
  · have := h.os; unfold IBlock at this; rw [← e, hm] at this; cases this
  · have := h.nd; unfold BBlock at this; rw [← e, hm] at this; cases this
theorem PAt.lt {W : World} {zr zg n : Nat} {s : RdS} {g : GrS} {gb hb nb : Nat} (h : PAt W zr zg n s g gb hb nb) : zr < W.heap.size ∧ zg < W.heap.size ∧ gb < W.heap.size ∧ hb < W.heap.size ∧ nb < W.heap.size :=
  ⟨(Array.getElem?_eq_some_iff.1 h.box).1, h.gox.lt, h.ns.lt, h.os.lt, h.nd.lt⟩
/-- What Play with one tick answers. -/
def Play1 (s : RdS) (g : GrS) (t : Int × Int) (e : Ending) (w : World) : Prop :=
  (tickE ⟨s, g, []⟩ t ≠ 0 ∧ e = .returned (.tuple #[.agg #[.int .i64 0, .slice none 0 0, .slice none 0 0], .agg #[.int .i64 0, .int .i64 0, .bool false, .slice none 0 0], .slice none 0 0, .int .i64 (tickE ⟨s, g, []⟩ t)])) ∨
  (tickE ⟨s, g, []⟩ t = 0 ∧ ∃ gb hb nb pl cl, e = .returned (.tuple #[.agg #[.int .i64 (tickP ⟨s, g, []⟩ t).s.now, .slice (some ⟨gb, 0, none⟩) g.nd.length g.nd.length, .slice (some ⟨hb, 0, none⟩) g.nd.length g.nd.length],
    .agg #[.int .i64 (tickP ⟨s, g, []⟩ t).g.done, .int .i64 (tickP ⟨s, g, []⟩ t).g.asked, .bool (tickP ⟨s, g, []⟩ t).g.on, .slice (some ⟨nb, 0, none⟩) g.nd.length g.nd.length], .slice pl (tickP ⟨s, g, []⟩ t).ls.length cl, .int .i64 0]) ∧
    IBlock w gb (tickP ⟨s, g, []⟩ t).s.ns ∧ IBlock w hb (tickP ⟨s, g, []⟩ t).s.os ∧ BBlock w nb (tickP ⟨s, g, []⟩ t).g.nd ∧ NumsAt w .i64 (.slice pl (tickP ⟨s, g, []⟩ t).ls.length cl) (tickP ⟨s, g, []⟩ t).ls)
theorem play1t (s : RdS) (g : GrS) (t : Int × Int) (hs : Good s) (hg : GoodG g) (hl : s.ns.length = g.nd.length) (gb hb nb tb : Nat) (W : World) (h1 : IBlock W gb s.ns) (h2 : IBlock W hb s.os) (h3 : BBlock W nb g.nd) (h4 : W.heap[tb]? = some (.cells #[.int .i64 t.1, .int .i64 t.2] 50 (0, 0))) :
    Calls Try.prog 24 #[.agg #[.int .i64 s.now, .slice (some ⟨gb, 0, none⟩) g.nd.length g.nd.length, .slice (some ⟨hb, 0, none⟩) g.nd.length g.nd.length], .agg #[.int .i64 g.done, .int .i64 g.asked, .bool g.on, .slice (some ⟨nb, 0, none⟩) g.nd.length g.nd.length], .slice (some ⟨tb, 0, none⟩) 1 1] W fun e w' => Play1 s g t e w' ∧ Below W.heap.size W w' := by
  have hn : NumsAt W .i64 (.slice (some ⟨gb, 0, none⟩) g.nd.length g.nd.length) s.ns := by have := h1.nums; rwa [hl] at this
  have ho : NumsAt W .i64 (.slice (some ⟨hb, 0, none⟩) g.nd.length g.nd.length) s.os := by have := h2.nums; rwa [hs.lo, hl] at this
  have hE : allE s g [t] = tickE ⟨s, g, []⟩ t := by
    unfold allE
    rw [(good_iff s).2 hs, (goodG_iff g).2 hg, if_neg (by decide), if_neg (by decide), if_neg (by rw [hl]; simp)]
    unfold playE
    split
    · rename_i h; rw [h]; rfl
    · rfl
  refine (gPlay_c s _ _ g (.slice (some ⟨nb, 0, none⟩) g.nd.length g.nd.length) (.slice (some ⟨tb, 0, none⟩) 1 1) [t] W hn ho (by have := hs.l8; omega) (by have := hs.l8; have := hs.lo; omega) (fun x hx => by
    obtain ⟨i, hi, rfl⟩ := List.getElem_of_mem hx
    have := hs.each i (by have := hs.lo; omega)
    unfold oO at this
    rw [getD_lt hi] at this
    have := hs.n1
    unfold I64
    omega) h3.bools hg.lmax ⟨some ⟨tb, 0, none⟩, 1, rfl, fun _ => ⟨tb, 0, rfl, fun i hi => by
      obtain rfl : i = 0 := by simp at hi; omega
      simp [World.cell?, h4]⟩⟩ (by simp) (fun b off n c e => by injection e with e1 _ _; injection e1 with e1; injection e1 with e1 _ _; rw [← e1]; exact h3.lt) (fun b off n c e _ => by injection e with e1 _ _; injection e1 with e1; injection e1 with e1 _ _; rw [← e1]; exact (Array.getElem?_eq_some_iff.1 h4).1)).mono ?_
  rintro e w' ⟨⟨A, rfl, hA⟩, hB⟩
  refine ⟨?_, hB⟩
  rw [hE] at hA
  rcases hA with ⟨he, rfl⟩ | ⟨he, hgp, gb', hb', nb', n, pl, nl, cl, rfl, hn', h5, h6, h7, h8⟩
  · exact .inl ⟨he, rfl⟩
  · have e : playP ⟨s, g, []⟩ [t] = tickP ⟨s, g, []⟩ t := rfl
    rw [e] at *
    have hln : n = g.nd.length := by rw [hn']; exact tick_len ⟨hs, hg, hl⟩ he
    subst hln
    obtain rfl := owns_nl h8
    exact .inr ⟨he, gb', hb', nb', pl, cl, rfl, h5, h6, h7, nums_of_owns rfl h8⟩
theorem nums_first {W : World} {p : Option Addr} {n c : Nat} {x : Int} {ns : List Int} (h : NumsAt W .i64 (.slice p n c) ns) (e : ns = [x]) : ∃ b off, p = some ⟨b, off, none⟩ ∧ W.cell? ⟨b, off, none⟩ = some (.int .i64 x) := by
  subst e
  obtain ⟨q, cap, e, hc⟩ := h
  injection e with e1 e2 e3
  subst e1
  obtain ⟨b, off, e, hcs⟩ := hc (by simp)
  exact ⟨b, off, e, hcs 0 (by simp)⟩
theorem tick_asks {s : RdS} {g : GrS} {t : Int × Int} (T : Int → Int) (he : tickE ⟨s, g, []⟩ t = 0) : ((tickP ⟨s, g, []⟩ t).ls = [] ∧ (tickP ⟨s, g, []⟩ t).g.asked = g.asked ∧ asksT ⟨s, g, []⟩ t T = T) ∨
    ((tickP ⟨s, g, []⟩ t).ls = [nextG g] ∧ (tickP ⟨s, g, []⟩ t).g.asked = nextG g ∧ (tickP ⟨s, g, []⟩ t).s.now = s.now ∧ nextG g ≤ 2147483645 ∧ asksT ⟨s, g, []⟩ t T = fun y => if y = nextG g then s.now else T y) := by
  unfold tickP asksT
  unfold tickE at he
  by_cases h1 : t.1 = 1
  · rw [if_pos h1, if_neg (by omega)]; exact .inl ⟨rfl, rfl, rfl⟩
  · rw [if_neg h1] at he ⊢
    by_cases h2 : t.1 = 2
    · rw [if_pos h2, if_neg (by omega)]; exact .inl ⟨rfl, rfl, rfl⟩
    · rw [if_neg h2] at he ⊢
      by_cases h3 : t.1 = 3
      · rw [if_pos h3] at he ⊢
        rw [if_pos h3]
        refine .inr ⟨rfl, rfl, rfl, ?_, rfl⟩
        unfold askE at he
        split at he
        · cases he
        · split at he
          · cases he
          · simp only at *; omega
      · rw [if_neg h3]
        rw [if_neg h3]
        exact .inl ⟨rfl, (pick_bound _ _ _).2.2, rfl⟩
set_option maxHeartbeats 4000000 in
theorem asks_c (mb k : Nat) (A x : Int) (T : Int → Int) (W : World) (h : MapT W mb k A T) (hx : 0 ≤ x ∧ x ≤ 2147483648) : Calls Try.prog 32 #[.map (some mb), .int .i64 x] W fun e w' => e = .returned (.bool (decide (1 ≤ x ∧ x ≤ A))) ∧ Below W.heap.size W w' := by
  obtain ⟨c, hlook⟩ := h.look x hx
  clear h
  go_enter Try.func32, Try.ntmps32
  go_wp2
  go_ret
  exact ⟨ret_bool (by simp), Below.refl _ _⟩

end Go.Proofs.Ytfnpokddoffplaa
namespace Go.Proofs.Ytfnpokddoffplaa
set_option maxRecDepth 100000
open Go.RowKit Go.Shelf Go.Maps
attribute [local go_sem] Oper.semAt_some

/-- Between two ticks. -/
def WtI (W : World) (zr zg mb n k : Nat) (wr : World) : Prop := ∃ (s : RdS) (g : GrS) (T : Int → Int) (gb hb nb : Nat), Good s ∧ GoodG g ∧ s.ns.length = n ∧ g.nd.length = n ∧ WInv s g T ∧ PAt wr zr zg n s g gb hb nb ∧ MapT wr mb k g.asked T ∧ Below W.heap.size W wr

theorem Good.nowO {s : RdS} (g : Good s) : ∀ x ∈ s.os, 0 ≤ x ∧ x ≤ 2147483647 := fun x hx => by
  obtain ⟨i, hi, rfl⟩ := List.getElem_of_mem hx
  have := g.each i (by have := g.lo; omega)
  unfold oO at this
  rw [getD_lt hi] at this
  have := g.n1
  omega
theorem waits_next {W : World} {zr zg zs zh mb n k : Nat} {s s' : RdS} {g g' : GrS} {ls : List Int} {T' : Int → Int} {gb hb nb gb' hb' nb' : Nat} {X0 X1 X2 : World} (hq : GoodP ⟨s', g', ls⟩) (hl : g'.nd.length = n) (hw : WInv s' g' T') (h1 : PAt X0 zr zg n s g gb hb nb) (h2 : PAt X0 zs zh n s' g' gb' hb' nb') (hm : MapT X0 mb k g'.asked T') (hb : Below W.heap.size W X0) (hz : W.heap.size ≤ zr ∧ W.heap.size ≤ zg ∧ W.heap.size ≤ mb ∧ zr ≠ zg)
    (p1 : RBox X1 zr s'.now (.slice (some ⟨gb', 0, none⟩) n n) (.slice (some ⟨hb', 0, none⟩) n n)) (k1 : Keeps (fun q => q = zr) X0 X1) (p2 : GBox X2 zg g'.done g'.asked g'.on (.slice (some ⟨nb', 0, none⟩) n n)) (k2 : Keeps (fun q => q = zg) X1 X2) : WtI W zr zg mb n k X2 := by
  have ha := h1.apart hm.block
  have kb : ∀ {q : Nat} {T : TypeId} {cs : Array Value} {f : Nat × Nat}, X0.heap[q]? = some (.cells cs T f) → T ≠ 45 → T ≠ 24 → q ≠ zr ∧ q ≠ zg := fun {q T cs f} h n1 n2 => ⟨fun e => by
    have := h1.box; unfold RBox at this; rw [← e, h] at this; injection this with this; injection this with _ this _; exact n1 this, fun e => by
    have := h1.gox; unfold GBox at this; rw [← e, h] at this; injection this with this; injection this with _ this _; exact n2 this⟩
  have i1 := kb h2.ns (by decide) (by decide)
  have i2 := kb h2.os (by decide) (by decide)
  have i3 := kb h2.nd (by decide) (by decide)
  refine ⟨s', g', T', gb', hb', nb', hq.s, hq.g, by have := hq.len; dsimp only at this; rw [this, hl], hl, hw, ⟨p1.keeps k2 hz.2.2.2, p2, (h2.ns.keeps k1 i1.1).keeps k2 i1.2, (h2.os.keeps k1 i2.1).keeps k2 i2.2, (h2.nd.keeps k1 i3.1).keeps k2 i3.2⟩, (hm.kept (kK k1) (fun e => ha.1 (by injection e))).kept (kK k2) (fun e => ha.2.1 (by injection e)), ?_⟩
  have hb1 := hb.trans (k1.below hb.size (fun q e => by omega))
  exact hb1.trans (k2.below hb1.size (fun q e => by omega))

set_option maxHeartbeats 16000000 in
theorem graceWaits_c (cpus : Int) (v : Value) (l : List (Int × Int)) (W : World) (hl : TksAt W v l) :
    Calls Try.prog 5 #[.int .i64 cpus, v] W fun e w' => e = .returned (.bool true) ∧ Below W.heap.size W w' := by
  have hmm := @run_makeMap Try.prog
  have HL := Lib.hid hl
  obtain ⟨p, c, rfl, -⟩ := hl
  have HWK := Lib.hid (wakes_c W)
  obtain ⟨n, hn1, hn8, hne⟩ := many8 cpus
  have HBE := Lib.hid (begun_c n hn1 hn8)
  have HN := Lib.hid (And.intro hn1 hn8)
  go_enter Try.func5, Try.ntmps5
  go_wp2_with fail
  (with_reducible refine HWK.out.mono ?_)
  rintro e w1 ⟨rfl, hb1⟩
  have HB1 := Lib.hid hb1
  clear hb1 HWK
  go_upto_region 3 with fail
  go_wp2_with fail
  (with_reducible refine (HBE.out w1).mono ?_)
  rintro e w2 ⟨⟨g0, h0, b0, rfl, hg, hh, hb⟩, hb2⟩
  obtain ⟨zr, hzr⟩ : ∃ z, z = w2.heap.size := ⟨_, rfl⟩
  obtain ⟨zg, hzg⟩ : ∃ z, z = w2.heap.size + 1 := ⟨_, rfl⟩
  obtain ⟨wA, hwA⟩ : ∃ X : World, X = (w2.alloc (.cells #[.int .i64 0, .slice (some ⟨g0, 0, none⟩) n n, .slice (some ⟨h0, 0, none⟩) n n] 45)).alloc (.cells #[.int .i64 0, .int .i64 0, .bool false, .slice (some ⟨b0, 0, none⟩) n n] 24) := ⟨_, rfl⟩
  have hbA : Below w2.heap.size w2 wA := by rw [hwA]; exact below2 _ _ _
  have hB2 := below_then HB1.out HB1.out.size hb2
  have hP : PAt wA zr zg n ⟨0, List.replicate n 0, List.replicate n 0⟩ ⟨0, 0, false, List.replicate n false⟩ g0 h0 b0 := ⟨by rw [hwA, hzr]; exact (RBox.new w2 _ _ _).below (below1 _ _), by
      rw [hwA, hzg]
      have := GBox.new (w2.alloc (.cells #[.int .i64 0, .slice (some ⟨g0, 0, none⟩) n n, .slice (some ⟨h0, 0, none⟩) n n] 45)) 0 0 false (.slice (some ⟨b0, 0, none⟩) n n)
      simpa using this, hg.below hbA, hh.below hbA, hb.below hbA⟩
  obtain ⟨mb, hmb⟩ : ∃ m, m = wA.heap.size := ⟨_, rfl⟩
  obtain ⟨wB, hwB⟩ : ∃ X : World, X = wA.alloc (.map #[] 0) := ⟨_, rfl⟩
  have hbB : Below wA.heap.size wA wB := by rw [hwB]; exact below1 _ _
  have HI0 := Lib.hid (show WtI W zr zg mb n 0 wB from ⟨_, _, fun _ => 0, g0, h0, b0, good_zero n HN.out.1 HN.out.2, goodG_zero n HN.out.1 HN.out.2, by simp, by simp, winv_zero n, hP.below hbB, by rw [hwB, hmb]; exact MapT.new wA _, below_then (below_then hB2 hB2.size hbA) (below_then hB2 hB2.size hbA).size hbB⟩)
  have HZ := Lib.hid (show W.heap.size ≤ zr ∧ W.heap.size ≤ zg ∧ W.heap.size ≤ mb ∧ zr ≠ zg from ⟨by rw [hzr]; exact hB2.size, by rw [hzg]; have := hB2.size; omega, by rw [hmb]; exact (below_then hB2 hB2.size hbA).size, by omega⟩)
  have HWA := Lib.hid (And.intro hwA (And.intro hzr hzg))
  have HWB := Lib.hid (And.intro hwB hmb)
  clear hwA hzr hzg hwB hmb hbA hbB hB2 hP hg hh hb hb2 HB1 HBE hn1 hn8 hne
  go_upto_region 4 with fail
  rw [← HWA.out.1, ← HWA.out.2.2, ← HWA.out.2.1]
  go_upto_region 7 with fail
  rw [← HWB.out.1, ← HWB.out.2]
  clear HWA HWB
  go_wp2_with fail
  go_loopw [36] (fun iv wx => ∃ (k : Nat), k ≤ l.length ∧ k ≤ 120 ∧ iv = .int .i64 (k : Int) ∧ Hid (WtI W zr zg mb n k wx)) (fun iv _ => l.length - (intOf iv).toNat)
  case atStart => exact ⟨0, Nat.zero_le _, by omega, rfl, HI0⟩
  case round =>
    obtain ⟨k, hk, hk1, rfl, HI⟩ := hrel
    clear HI0
    by_cases hkl : k < l.length
    · obtain ⟨s, g, T, gb, hb, nb, h1, h2, h3, h4, h5, h6, h7, h8⟩ := HI.out
      have HG := Lib.hid (And.intro h1 (And.intro h2 (And.intro h3 (And.intro h4 h5))))
      have HP := Lib.hid h6
      have HM := Lib.hid h7
      have HB := Lib.hid h8
      obtain ⟨p', c', ep, hcs⟩ := HL.out
      injection ep with ep1 ep2 ep3
      subst ep1
      obtain ⟨lb, lo, rfl, hcs2⟩ := hcs (by intro e; rw [e] at hkl; cases hkl)
      obtain ⟨x, hx⟩ : ∃ x, x = l[k].1 := ⟨_, rfl⟩
      obtain ⟨y, hy⟩ : ∃ y, y = l[k].2 := ⟨_, rfl⟩
      have t1 := below_cell h8 (hcs2 k hkl).1
      have t2 := below_cell h8 (hcs2 k hkl).2
      rw [← hx] at t1
      rw [← hy] at t2
      clear h1 h2 h3 h4 h5 h6 h7 h8 HI hcs hcs2 ep2 ep3 hx hy
      have hk0 : (0 : Int) ≤ (k : Int) := by omega
      have hkx : (k : Int) < (l.length : Int) := by omega
      by_cases hk2 : k = 120
      · have hq : ((k : Int) == 120) = true := by rw [hk2]; rfl
        obtain ⟨w5, hw5⟩ : ∃ X : World, X = wr.alloc (.cells #[.int .i64 x, .int .i64 y] 50) := ⟨_, rfl⟩
        have hb5 : Below wr.heap.size wr w5 := by rw [hw5]; exact below1 _ _
        have h6 := HP.out.below hb5
        have HC := Lib.hid (checkT g (.slice (some ⟨nb, 0, none⟩) n n) HG.out.2.1 w5 (by have := h6.nd.bools; rwa [HG.out.2.2.2.1] at this))
        have HB5 := Lib.hid (below_then HB.out HB.out.size hb5)
        obtain ⟨d0, d1, d2, d3⟩ := h6.gox.cells
        have HW5 := Lib.hid hw5
        clear h6 hb5 hk2 hw5
        go_upto_region 10 with fail
        rw [← HW5.out]
        go_wp2_with fail
        (with_reducible refine HC.out.mono ?_)
        rintro e w9 ⟨rfl, hb9⟩
        have HB9 := Lib.hid (below_then HB5.out HB5.out.size hb9)
        clear hb9
        go_wp2
        go_ret
        exact ⟨rfl, HB9.out⟩
      · have hq : ((k : Int) == 120) = false := by rw [beq_eq_false_iff_ne]; omega
        obtain ⟨wo, hwo⟩ : ∃ X : World, X = wr := ⟨_, rfl⟩
        obtain ⟨tb, htb⟩ : ∃ z, z = wr.heap.size := ⟨_, rfl⟩
        obtain ⟨w4, hw4⟩ : ∃ X : World, X = wr.alloc (.cells #[.int .i64 x, .int .i64 y] 50) := ⟨_, rfl⟩
        have hb4 : Below wr.heap.size wr w4 := by rw [hw4]; exact below1 _ _
        have ht4 : w4.heap[tb]? = some (.cells #[.int .i64 x, .int .i64 y] 50 (0, 0)) := by rw [hw4, htb]; exact World.alloc_heap_new _ _
        obtain ⟨w5, hw5⟩ : ∃ X : World, X = w4.alloc (.cells #[.int .i64 x, .int .i64 y] 50) := ⟨_, rfl⟩
        obtain ⟨tc, htc⟩ : ∃ z, z = w4.heap.size := ⟨_, rfl⟩
        have hb5 : Below w4.heap.size w4 w5 := by rw [hw5]; exact below1 _ _
        have h4 := HP.out.below hb4
        have h5 := h4.below hb5
        have HPL := Lib.hid (play1t s g (x, y) HG.out.1 HG.out.2.1 (by rw [HG.out.2.2.1, HG.out.2.2.2.1]) gb hb nb tc w5 h5.ns h5.os h5.nd (by rw [hw5, htc]; exact World.alloc_heap_new _ _))
        rw [HG.out.2.2.2.1] at HPL
        have HB5 := Lib.hid (below_then (below_then HB.out HB.out.size hb4) (below_then HB.out HB.out.size hb4).size hb5)
        have HP5 := Lib.hid h5
        have HM5 := Lib.hid ((HM.out.below hb4).below hb5)
        have HW4 := Lib.hid (And.intro hw4 htb)
        have HW5 := Lib.hid (And.intro hw5 htc)
        go_upto_region 11 with fail
        rw [← HW4.out.1, ← HW4.out.2]
        clear HW4 t1 t2
        obtain ⟨r0, r1, r2⟩ := h4.box.cells
        obtain ⟨d0, d1, d2, d3⟩ := h4.gox.cells
        have t1 : w4.cell? ⟨tb, 0, none⟩ = some (.int .i64 x) := by simp [World.cell?, ht4]
        have t2 : w4.cell? ⟨tb, 1, none⟩ = some (.int .i64 y) := by simp [World.cell?, ht4]
        clear hw4 htb hw5 htc hb4 hb5 h4 h5 HP HB HM ht4 hwo
        go_wp2_with fail
        rw [← HW5.out.1, ← HW5.out.2]
        clear HW5
        (with_reducible refine HPL.out.mono ?_)
        rintro e w6 ⟨hQ, hb6⟩
        have HB6 := Lib.hid (below_then HB5.out HB5.out.size hb6)
        have HP6 := Lib.hid (HP5.out.below hb6)
        have HM6 := Lib.hid (HM5.out.below hb6)
        clear hb6 HPL HB5 HP5 HM5 t1 t2 r0 r1 r2 d0 d1 d2 d3
        rcases hQ with ⟨hE, rfl⟩ | ⟨hE, gb', hb', nb', pl, cl, rfl, i1, i2, i3, i4⟩
        · obtain ⟨E, hEe⟩ : ∃ E, E = tickE ⟨s, g, []⟩ (x, y) := ⟨_, rfl⟩
          rw [← hEe] at hE ⊢
          have hne : (E != 0) = true := by rw [bne_iff_ne]; exact hE
          obtain ⟨w8, hw8⟩ : ∃ X : World, X = (w6.alloc (.cells #[.int .i64 0, .slice none 0 0, .slice none 0 0] 45)).alloc (.cells #[.int .i64 0, .int .i64 0, .bool false, .slice none 0 0] 24) := ⟨_, rfl⟩
          have hb8 : Below w6.heap.size w6 w8 := by rw [hw8]; exact below2 _ _ _
          have HNX := Lib.hid (show WtI W zr zg mb n (k + 1) w8 from ⟨s, g, T, gb, hb, nb, HG.out.1, HG.out.2.1, HG.out.2.2.1, HG.out.2.2.2.1, HG.out.2.2.2.2, HP6.out.below hb8, (HM6.out.below hb8).mono (by omega), below_then HB6.out HB6.out.size hb8⟩)
          clear hb8 hE hEe HP6 HM6 HB6 HG
          go_upto_region 12 with fail
          rw [← hw8]
          clear hw8
          go_wp2_with fail
          go_roundw
          case rel => exact ⟨k + 1, by omega, by omega, by go_num, HNX⟩
          case measure => simp [intOf]; omega
        · have HGP := Lib.hid (show GoodP ⟨s, g, []⟩ from ⟨HG.out.1, HG.out.2.1, by rw [HG.out.2.2.1, HG.out.2.2.2.1]⟩)
          have HGQ := Lib.hid (HGP.out.tick hE)
          have HWQ := Lib.hid (HG.out.2.2.2.2.tick (P := ⟨s, g, []⟩) HGP.out hE)
          have HAS := Lib.hid (tick_asks T hE)
          have HLQ := Lib.hid (tick_len HGP.out hE)
          obtain ⟨T', hT'⟩ : ∃ T', T' = asksT ⟨s, g, []⟩ (x, y) T := ⟨_, rfl⟩
          obtain ⟨⟨s', g', ls⟩, hP'⟩ : ∃ P', P' = tickP ⟨s, g, []⟩ (x, y) := ⟨_, rfl⟩
          rw [← hP', ← hT'] at HWQ HAS
          rw [← hP'] at HGQ HLQ i1 i2 i3 i4 ⊢
          clear hT' hP' hE
          dsimp only at HGQ HWQ HAS HLQ i1 i2 i3 i4 ⊢
          rw [HG.out.2.2.2.1] at HLQ
          obtain ⟨zs, hzs⟩ : ∃ z, z = w6.heap.size := ⟨_, rfl⟩
          obtain ⟨zh, hzh⟩ : ∃ z, z = w6.heap.size + 1 := ⟨_, rfl⟩
          obtain ⟨w8, hw8⟩ : ∃ X : World, X = (w6.alloc (.cells #[.int .i64 s'.now, .slice (some ⟨gb', 0, none⟩) n n, .slice (some ⟨hb', 0, none⟩) n n] 45)).alloc (.cells #[.int .i64 g'.done, .int .i64 g'.asked, .bool g'.on, .slice (some ⟨nb', 0, none⟩) n n] 24) := ⟨_, rfl⟩
          have hb8 : Below w6.heap.size w6 w8 := by rw [hw8]; exact below2 _ _ _
          have HNE := Lib.hid (show zr ≠ zs ∧ zr ≠ zh ∧ zg ≠ zs ∧ zg ≠ zh by have := HP6.out.lt; omega)
          have HPQ := Lib.hid (show PAt w8 zs zh n s' g' gb' hb' nb' from ⟨by rw [hw8, hzs]; exact (RBox.new w6 _ _ _).below (below1 _ _), by
            rw [hw8, hzh]
            have := GBox.new (w6.alloc (.cells #[.int .i64 s'.now, .slice (some ⟨gb', 0, none⟩) n n, .slice (some ⟨hb', 0, none⟩) n n] 45)) g'.done g'.asked g'.on (.slice (some ⟨nb', 0, none⟩) n n)
            simpa using this, i1.below hb8, i2.below hb8, i3.below hb8⟩)
          have HNU := Lib.hid (nums_below i4 hb8)
          have HP8 := Lib.hid (HP6.out.below hb8)
          have HM8 := Lib.hid (HM6.out.below hb8)
          have HB8 := Lib.hid (below_then HB6.out HB6.out.size hb8)
          have HW8 := Lib.hid (And.intro hw8 (And.intro hzs hzh))
          clear hb8 hw8 hzs hzh i1 i2 i3 i4 HP6 HM6 HB6
          rw [HG.out.2.2.2.1]
          go_upto_region 12 with fail
          rw [← HW8.out.1, ← HW8.out.2.2, ← HW8.out.2.1]
          clear HW8
          go_wp2_with fail
          have HMJ := Lib.hid (show ((0 : Nat) = 0 ∧ MapT w8 mb k g.asked T ∧ NumsAt w8 .i64 (.slice pl ls.length cl) ls) ∨ ((0 : Nat) = 1 ∧ ls.length = 1 ∧ MapT w8 mb (k + 1) g'.asked T') from .inl ⟨rfl, HM8.out, HNU.out⟩)
          obtain ⟨wp, hwp⟩ : ∃ X : World, X = w8 := ⟨_, rfl⟩
          clear hwp
          go_loopw [57] (fun iv wx => ∃ (j : Nat), j ≤ ls.length ∧ iv = .int .i64 (j : Int) ∧ Hid (PAt wx zr zg n s g gb hb nb) ∧ Hid (PAt wx zs zh n s' g' gb' hb' nb') ∧ Hid ((j = 0 ∧ MapT wx mb k g.asked T ∧ NumsAt wx .i64 (.slice pl ls.length cl) ls) ∨ (j = 1 ∧ ls.length = 1 ∧ MapT wx mb (k + 1) g'.asked T')) ∧ Hid (Below W.heap.size W wx)) (fun iv _ => ls.length - (intOf iv).toNat)
          case atStart => exact ⟨0, Nat.zero_le _, rfl, HP8, HPQ, HMJ, HB8⟩
          case round =>
            clear HP8 HPQ HMJ HB8 HNU HM8
            obtain ⟨j, hj, rfl, HP8, HPQ, HMJ, HB8⟩ := hrel
            by_cases hjl : j < ls.length
            · obtain ⟨rfl, hM, hNU⟩ : j = 0 ∧ MapT wr mb k g.asked T ∧ NumsAt wr .i64 (.slice pl ls.length cl) ls := by
                rcases HMJ.out with h | h
                · exact h
                · omega
              obtain ⟨hls, hga, hsn, hnx, hTT⟩ : ls = [nextG g] ∧ g'.asked = nextG g ∧ s'.now = s.now ∧ nextG g ≤ 2147483645 ∧ T' = fun y => if y = nextG g then s.now else T y := by
                rcases HAS.out with h | h
                · rw [h.1] at hjl; simp at hjl
                · exact h
              obtain ⟨N, hNe⟩ : ∃ N, N = nextG g := ⟨_, rfl⟩
              obtain ⟨bl, ol, rfl, hc1⟩ := nums_first hNU (show ls = [N] by rw [hls, hNe])
              have hnext := HG.out.2.1.next
              have hd0 := HG.out.2.1.d0
              have hspan : g.asked = nextG g ∨ g.asked + 1 = nextG g := by
                unfold nextG
                cases ho : g.on with
                | true => have := HG.out.2.1.on1 ho; rw [if_pos rfl]; omega
                | false => have := HG.out.2.1.on0 ho; rw [if_neg Bool.false_ne_true]; omega
              obtain ⟨r0, r1, r2⟩ := HPQ.out.box.cells
              obtain ⟨w9, hupd, hM9, hg9⟩ := hM.put N s'.now (by rw [hNe]; omega) (by rw [hNe]; exact hspan) (by rw [hsn]; have := HG.out.1.n0; have := HG.out.1.n1; omega) (by omega)
              have hap := HP8.out.apart hM.block
              have hap2 := HPQ.out.apart hM.block
              have HP9 := Lib.hid (HP8.out.grown hg9 (fun q e => by cases e; exact hap))
              have HPQ9 := Lib.hid (HPQ.out.grown hg9 (fun q e => by cases e; exact hap2))
              have HM9 := Lib.hid (show MapT w9 mb (k + 1) g'.asked T' by rw [hga, hTT, ← hNe, ← hsn]; exact hM9)
              have HB9 := Lib.hid (HB8.out.grown hg9 HB8.out.size (fun q e => by cases e; exact HZ.out.2.2.1))
              have HL1 := Lib.hid (show ls.length = 1 by rw [hls]; rfl)
              have h1j : (0 : Int) < (ls.length : Int) := by omega
              clear hM hNU hls hga hsn hnx hTT hNe hnext hd0 hspan hM9 hg9 hap hap2 HP8 HPQ HMJ HB8
              go_wp2_with fail
              go_roundw
              case rel => exact ⟨1, by have := HL1.out; omega, by go_num, HP9, HPQ9, Lib.hid (.inr ⟨rfl, HL1.out, HM9.out⟩), HB9⟩
              case measure => have := HL1.out; simp [intOf]; omega
            · obtain rfl : j = ls.length := by omega
              have hMT : MapT wr mb (k + 1) g'.asked T' := by
                rcases HMJ.out with h | h
                · rcases HAS.out with h' | h'
                  · rw [h'.2.1, h'.2.2]; exact h.2.1.mono (by omega)
                  · have := h.1; rw [h'.1] at this; simp at this
                · exact h.2.2
              obtain ⟨D, hown, hD⟩ := hMT
              obtain ⟨r, hr⟩ : ∃ r, r = wr.heap.size := ⟨_, rfl⟩
              have hl1 := HP8.out.lt
              have hl2 := HPQ.out.lt
              have HLT := Lib.hid (show (r ≠ zr ∧ r ≠ zg ∧ r ≠ gb ∧ r ≠ hb ∧ r ≠ nb) ∧ (r ≠ zs ∧ r ≠ zh ∧ r ≠ gb' ∧ r ≠ hb' ∧ r ≠ nb') ∧ W.heap.size ≤ r from ⟨by omega, by omega, by rw [hr]; exact HB8.out.size⟩)
              have HD := Lib.hid hD
              clear hl1 hl2 hD HMJ HAS
              go_wp2_with (first | (at_range; refine wpList_range_own _ rfl _ 61 rfl 3 3 intKeyed Try.underlying61 _ mb (k + 1) D rfl hown ?_; intro w0 hrg0 hg0 hs0) | fail)
              go_frame
              have HP0 := Lib.hid (HP8.out.grown hg0 (fun q e => by cases e))
              have HPQ0 := Lib.hid (HPQ.out.grown hg0 (fun q e => by cases e))
              have HB0 := Lib.hid (HB8.out.grown hg0 HB8.out.size (fun q e => by cases e))
              rw [← hr] at hrg0 ⊢
              clear hg0 hs0 hown HP8 HPQ HB8 hr
              go_loopw [17] (fun _ wx => ∃ (left : Lit → Bool) (cnt : Nat), wx.ranges Try.prog 3 (plainElem Try.prog 3) mb r (k + 1) D left cnt ∧ Hid (PAt wx zr zg n s g gb hb nb) ∧ Hid (PAt wx zs zh n s' g' gb' hb' nb') ∧ Hid (Below W.heap.size W wx)) (fun _ wx => wx.rangeLeft mb r)
              case atStart => exact ⟨_, _, hrg0, HP0, HPQ0, HB0⟩
              case round =>
                clear hrg0 HP0 HPQ0 HB0
                obtain ⟨left, cnt, hrg, HPA, HPB, HBA⟩ := hrel
                go_wp2_with (first | (at_next; refine wpList_next_ranges_ii _ rfl _ rfl 3 3 .i64 .i64 intKeyed Try.underlying3 Try.underlying3 mb r (k + 1) _ _ _ rfl hrg ?_ ?_) | fail)
                · intro hc0 hl0
                  have HMA := Lib.hid (show MapT wr mb (k + 1) g'.asked T' from ⟨D, hrg.owns, HD.out⟩)
                  obtain ⟨d0, d1, d2, d3⟩ := HPB.out.gox.cells
                  clear hc0 hl0 hrg HLT HD
                  by_cases hdn : 0 < g'.done
                  · have hAK := asks_c mb (k + 1) g'.asked g'.done T' wr HMA.out (by have := HGQ.out.g.span; have := HGQ.out.g.a1; exact ⟨by omega, by dsimp only at *; omega⟩)
                    rw [decide_eq_true (by have := HGQ.out.g.span; dsimp only at this; omega)] at hAK
                    have HAK := Lib.hid hAK
                    have hdg : decide (0 < g'.done) = true := decide_eq_true hdn
                    clear hAK hdn
                    go_upto_region 23 with fail
                    go_wp2_with fail
                    (with_reducible refine HAK.out.mono ?_)
                    rintro e w9 ⟨rfl, hb9⟩
                    replace HPA := Lib.hid (HPA.out.below hb9)
                    replace HPB := Lib.hid (HPB.out.below hb9)
                    replace HMA := Lib.hid (HMA.out.below hb9)
                    replace HBA := Lib.hid (below_then HBA.out HBA.out.size hb9)
                    clear hb9 HAK d0 d1 d2 d3
                    go_upto_region 25 with fail
                    refine wpTwo_begin (T := fun w' => RBox w' zs s'.now (.slice (some ⟨gb', 0, none⟩) n n) (.slice (some ⟨hb', 0, none⟩) n n) ∧ GBox w' zh g'.done g'.asked g'.on (.slice (some ⟨nb', 0, none⟩) n n)) (S := fun _ => True) (late := fun _ => false) (by kernel_rfl) ?_
                    obtain ⟨X0, hX0⟩ : ∃ X : World, X = w9.drew := ⟨_, rfl⟩
                    rw [← hX0]
                    have hbx : Below w9.heap.size w9 X0 := by rw [hX0]; exact (Below.refl _ _).drew
                    have hS0 := HPB.out.below hbx
                    have hT0 := And.intro hS0.box hS0.gox
                    have HPX := Lib.hid (And.intro (HPA.out.below hbx) hS0)
                    have HMX := Lib.hid (HMA.out.below hbx)
                    have HBX := Lib.hid (below_then HBA.out HBA.out.size hbx)
                    clear hX0 hbx HPA HPB HMA HBA
                    refine wpTwo_takeT (i := 0) (v := .agg #[.int .i64 s'.now, .slice (some ⟨gb', 0, none⟩) n n, .slice (some ⟨hb', 0, none⟩) n n]) rfl (by kernel_rfl) (by kernel_rfl) (by kernel_rfl) (fun _ _ _ h => h) ⟨by rfl, ?_⟩ hT0 ?_
                    · rintro w hTw
                      obtain ⟨q0, q1, q2⟩ := hTw.1.cells
                      go_simp
                    (try simp only [Act.put, List.getElem_toArray, List.getElem_cons_zero, List.setIfInBounds_toArray, List.set_cons_succ, List.set_cons_zero])
                    refine wpTwo_takeT (i := 1) (v := .agg #[.int .i64 g'.done, .int .i64 g'.asked, .bool g'.on, .slice (some ⟨nb', 0, none⟩) n n]) rfl (by kernel_rfl) (by kernel_rfl) (by kernel_rfl) (fun _ _ _ h => h) ⟨by rfl, ?_⟩ hT0 ?_
                    · rintro w hTw
                      obtain ⟨q0, q1, q2, q3⟩ := hTw.2.cells
                      go_simp
                    (try simp only [Act.put, List.getElem_toArray, List.getElem_cons_succ, List.getElem_cons_zero, List.setIfInBounds_toArray, List.set_cons_succ, List.set_cons_zero])
                    have b1 := HPX.out.1.box
                    obtain ⟨q0, q1, q2⟩ := b1.cells
                    have m0 := b1.marks 0
                    have m1 := b1.marks 1
                    have m2 := b1.marks 2
                    have HP1 := Lib.hid (b1.put s'.now (.slice (some ⟨gb', 0, none⟩) n n) (.slice (some ⟨hb', 0, none⟩) n n))
                    have HK1 := Lib.hid (RBox.putK X0 zr s'.now (.slice (some ⟨gb', 0, none⟩) n n) (.slice (some ⟨hb', 0, none⟩) n n))
                    obtain ⟨X1, hX1⟩ : ∃ X : World, X = (((X0.setCell ⟨zr, 0, none⟩ (.int .i64 s'.now)).setCell ⟨zr, 1, none⟩ (.slice (some ⟨gb', 0, none⟩) n n)).setCell ⟨zr, 2, none⟩ (.slice (some ⟨hb', 0, none⟩) n n)) := ⟨_, rfl⟩
                    rw [← hX1] at HP1 HK1
                    have HX1 := Lib.hid hX1
                    clear hX1 b1
                    refine wpTwo_ready (rs := [2]) (by kernel_rfl) (by simp) ?_
                    refine (AllTwo.cons rfl (fun K hK => ?_) AllTwo.nil)
                    go_simp
                    rw [← HX1.out]
                    have hTn := And.intro (hT0.1.keeps HK1.out (fun e => HNE.out.1 e.symm)) (hT0.2.keeps HK1.out (fun e => HNE.out.2.1 e.symm))
                    refine hK.out _ _ ⟨hTn, fun _ _ => trivial⟩ ?_
                    have hT1 := hTn
                    clear hK K q0 q1 q2 m0 m1 m2 HX1 hS0 hTn hT0
                    (try simp only [Act.put])
                    have b2 := HPX.out.1.gox.keeps HK1.out (fun e => HZ.out.2.2.2 e.symm)
                    obtain ⟨q0, q1, q2, q3⟩ := b2.cells
                    have m0 := b2.marks 0
                    have m1 := b2.marks 1
                    have m2 := b2.marks 2
                    have m3 := b2.marks 3
                    have HP2 := Lib.hid (b2.put g'.done g'.asked g'.on (.slice (some ⟨nb', 0, none⟩) n n))
                    have HK2 := Lib.hid (GBox.putK X1 zg g'.done g'.asked g'.on (.slice (some ⟨nb', 0, none⟩) n n))
                    obtain ⟨X2, hX2⟩ : ∃ X : World, X = ((((X1.setCell ⟨zg, 0, none⟩ (.int .i64 g'.done)).setCell ⟨zg, 1, none⟩ (.int .i64 g'.asked)).setCell ⟨zg, 2, none⟩ (.bool g'.on)).setCell ⟨zg, 3, none⟩ (.slice (some ⟨nb', 0, none⟩) n n)) := ⟨_, rfl⟩
                    rw [← hX2] at HP2 HK2
                    have HX2 := Lib.hid hX2
                    clear hX2 b2
                    have HNX := Lib.hid (show WtI W zr zg mb n (k + 1) X2 from waits_next (HGQ.out) HLQ.out HWQ.out HPX.out.1 HPX.out.2 HMX.out HBX.out HZ.out HP1.out HK1.out HP2.out HK2.out)
                    refine wpTwo_ready (rs := [3]) (by kernel_rfl) (by simp) ?_
                    refine (AllTwo.cons rfl (fun K hK => ?_) AllTwo.nil)
                    go_simp
                    rw [← HX2.out]
                    have hTn := And.intro (hT1.1.keeps HK2.out (fun e => HNE.out.2.2.1 e.symm)) (hT1.2.keeps HK2.out (fun e => HNE.out.2.2.2 e.symm))
                    refine hK.out _ _ ⟨hTn, fun _ _ => trivial⟩ ?_
                    clear hK K q0 q1 q2 q3 m0 m1 m2 m3 HX2
                    (try simp only [Act.put])
                    refine wpTwo_end (by kernel_rfl) ?_ _
                    go_wp2
                    go_roundw
                    case rel => exact ⟨k + 1, by omega, by omega, by go_num, HNX⟩
                    case measure => simp [intOf]; omega
                  · have hdg : decide (0 < g'.done) = false := decide_eq_false hdn
                    clear hdn
                    go_upto_region 25 with fail
                    refine wpTwo_begin (T := fun w' => RBox w' zs s'.now (.slice (some ⟨gb', 0, none⟩) n n) (.slice (some ⟨hb', 0, none⟩) n n) ∧ GBox w' zh g'.done g'.asked g'.on (.slice (some ⟨nb', 0, none⟩) n n)) (S := fun _ => True) (late := fun _ => false) (by kernel_rfl) ?_
                    obtain ⟨X0, hX0⟩ : ∃ X : World, X = wr.drew := ⟨_, rfl⟩
                    rw [← hX0]
                    have hbx : Below wr.heap.size wr X0 := by rw [hX0]; exact (Below.refl _ _).drew
                    have hS0 := HPB.out.below hbx
                    have hT0 := And.intro hS0.box hS0.gox
                    have HPX := Lib.hid (And.intro (HPA.out.below hbx) hS0)
                    have HMX := Lib.hid (HMA.out.below hbx)
                    have HBX := Lib.hid (below_then HBA.out HBA.out.size hbx)
                    clear hX0 hbx HPA HPB HMA HBA
                    refine wpTwo_takeT (i := 0) (v := .agg #[.int .i64 s'.now, .slice (some ⟨gb', 0, none⟩) n n, .slice (some ⟨hb', 0, none⟩) n n]) rfl (by kernel_rfl) (by kernel_rfl) (by kernel_rfl) (fun _ _ _ h => h) ⟨by rfl, ?_⟩ hT0 ?_
                    · rintro w hTw
                      obtain ⟨q0, q1, q2⟩ := hTw.1.cells
                      go_simp
                    (try simp only [Act.put, List.getElem_toArray, List.getElem_cons_zero, List.setIfInBounds_toArray, List.set_cons_succ, List.set_cons_zero])
                    refine wpTwo_takeT (i := 1) (v := .agg #[.int .i64 g'.done, .int .i64 g'.asked, .bool g'.on, .slice (some ⟨nb', 0, none⟩) n n]) rfl (by kernel_rfl) (by kernel_rfl) (by kernel_rfl) (fun _ _ _ h => h) ⟨by rfl, ?_⟩ hT0 ?_
                    · rintro w hTw
                      obtain ⟨q0, q1, q2, q3⟩ := hTw.2.cells
                      go_simp
                    (try simp only [Act.put, List.getElem_toArray, List.getElem_cons_succ, List.getElem_cons_zero, List.setIfInBounds_toArray, List.set_cons_succ, List.set_cons_zero])
                    have b1 := HPX.out.1.box
                    obtain ⟨q0, q1, q2⟩ := b1.cells
                    have m0 := b1.marks 0
                    have m1 := b1.marks 1
                    have m2 := b1.marks 2
                    have HP1 := Lib.hid (b1.put s'.now (.slice (some ⟨gb', 0, none⟩) n n) (.slice (some ⟨hb', 0, none⟩) n n))
                    have HK1 := Lib.hid (RBox.putK X0 zr s'.now (.slice (some ⟨gb', 0, none⟩) n n) (.slice (some ⟨hb', 0, none⟩) n n))
                    obtain ⟨X1, hX1⟩ : ∃ X : World, X = (((X0.setCell ⟨zr, 0, none⟩ (.int .i64 s'.now)).setCell ⟨zr, 1, none⟩ (.slice (some ⟨gb', 0, none⟩) n n)).setCell ⟨zr, 2, none⟩ (.slice (some ⟨hb', 0, none⟩) n n)) := ⟨_, rfl⟩
                    rw [← hX1] at HP1 HK1
                    have HX1 := Lib.hid hX1
                    clear hX1 b1
                    refine wpTwo_ready (rs := [2]) (by kernel_rfl) (by simp) ?_
                    refine (AllTwo.cons rfl (fun K hK => ?_) AllTwo.nil)
                    go_simp
                    rw [← HX1.out]
                    have hTn := And.intro (hT0.1.keeps HK1.out (fun e => HNE.out.1 e.symm)) (hT0.2.keeps HK1.out (fun e => HNE.out.2.1 e.symm))
                    refine hK.out _ _ ⟨hTn, fun _ _ => trivial⟩ ?_
                    have hT1 := hTn
                    clear hK K q0 q1 q2 m0 m1 m2 HX1 hS0 hTn hT0
                    (try simp only [Act.put])
                    have b2 := HPX.out.1.gox.keeps HK1.out (fun e => HZ.out.2.2.2 e.symm)
                    obtain ⟨q0, q1, q2, q3⟩ := b2.cells
                    have m0 := b2.marks 0
                    have m1 := b2.marks 1
                    have m2 := b2.marks 2
                    have m3 := b2.marks 3
                    have HP2 := Lib.hid (b2.put g'.done g'.asked g'.on (.slice (some ⟨nb', 0, none⟩) n n))
                    have HK2 := Lib.hid (GBox.putK X1 zg g'.done g'.asked g'.on (.slice (some ⟨nb', 0, none⟩) n n))
                    obtain ⟨X2, hX2⟩ : ∃ X : World, X = ((((X1.setCell ⟨zg, 0, none⟩ (.int .i64 g'.done)).setCell ⟨zg, 1, none⟩ (.int .i64 g'.asked)).setCell ⟨zg, 2, none⟩ (.bool g'.on)).setCell ⟨zg, 3, none⟩ (.slice (some ⟨nb', 0, none⟩) n n)) := ⟨_, rfl⟩
                    rw [← hX2] at HP2 HK2
                    have HX2 := Lib.hid hX2
                    clear hX2 b2
                    have HNX := Lib.hid (show WtI W zr zg mb n (k + 1) X2 from waits_next (HGQ.out) HLQ.out HWQ.out HPX.out.1 HPX.out.2 HMX.out HBX.out HZ.out HP1.out HK1.out HP2.out HK2.out)
                    refine wpTwo_ready (rs := [3]) (by kernel_rfl) (by simp) ?_
                    refine (AllTwo.cons rfl (fun K hK => ?_) AllTwo.nil)
                    go_simp
                    rw [← HX2.out]
                    have hTn := And.intro (hT1.1.keeps HK2.out (fun e => HNE.out.2.2.1 e.symm)) (hT1.2.keeps HK2.out (fun e => HNE.out.2.2.2 e.symm))
                    refine hK.out _ _ ⟨hTn, fun _ _ => trivial⟩ ?_
                    clear hK K q0 q1 q2 q3 m0 m1 m2 m3 HX2
                    (try simp only [Act.put])
                    refine wpTwo_end (by kernel_rfl) ?_ _
                    go_wp2
                    go_roundw
                    case rel => exact ⟨k + 1, by omega, by omega, by go_num, HNX⟩
                    case measure => simp [intOf]; omega
                · intro ky kc w9 cnt1 hwx hwc hlx hat hrg1 hlt hg9 hs9 hen
                  have hhas := (HD.out.1 ky).symm.trans (has_true_of_atKey hat)
                  rw [decide_eq_true_eq] at hhas
                  obtain rfl : kc = T' ky := by
                    have h1 := hat (.lit (.int .i64 0))
                    rw [HD.out.2 ky hhas.1 hhas.2] at h1
                    injection h1 with h1; injection h1 with _ h1; exact h1.symm
                  have HPA9 := Lib.hid (HPA.out.grown hg9 (fun q e => by cases e; exact HLT.out.1))
                  have HPB9 := Lib.hid (HPB.out.grown hg9 (fun q e => by cases e; exact HLT.out.2.1))
                  have HBA9 := Lib.hid (HBA.out.grown hg9 HBA.out.size (fun q e => by cases e; exact HLT.out.2.2))
                  obtain ⟨B, hB⟩ : ∃ B, B = overB g' ky := ⟨_, rfl⟩
                  have HOV := Lib.hid (show Calls Try.prog 30 #[.agg #[.int .i64 g'.done, .int .i64 g'.asked, .bool g'.on, .slice (some ⟨nb', 0, none⟩) n n], .int .i64 ky] w9 fun e w' => e = .returned (.bool B) ∧ Below w9.heap.size w9 w' by
                    have h := gover_c g' (.slice (some ⟨nb', 0, none⟩) n n) ky w9 (by have := HPB9.out.nd.bools; rwa [HLQ.out] at this) HGQ.out.g.lmax
                    rwa [← hB] at h)
                  obtain ⟨d0, d1, d2, d3⟩ := HPB9.out.gox.cells
                  have HRG := Lib.hid (And.intro hrg1 (And.intro hrg hlt))
                  have HBB := Lib.hid hB
                  clear hhas hat hrg hg9 hs9 hlx hwx hwc HPA HPB HBA hB hrg1 hlt
                  go_upto_region 21 with fail
                  clear hen
                  cases B with
                  | true =>
                    go_wp2_with fail
                    (with_reducible refine HOV.out.mono ?_)
                    rintro e w10 ⟨rfl, hb10⟩
                    have HPA10 := Lib.hid (HPA9.out.below hb10)
                    have HPB10 := Lib.hid (HPB9.out.below hb10)
                    have HBA10 := Lib.hid (below_then HBA9.out HBA9.out.size hb10)
                    have HRG10 := Lib.hid (HRG.out.1.kept (kB hb10) (by simp) (by simp))
                    have HPS := Lib.hid (show Calls Try.prog 31 #[.agg #[.int .i64 s'.now, .slice (some ⟨gb', 0, none⟩) n n, .slice (some ⟨hb', 0, none⟩) n n], .int .i64 (T' ky)] w10 fun e w' => e = .returned (.bool true) ∧ Below w10.heap.size w10 w' by
                      have hgs : Good s' := HGQ.out.s
                      have hln : s'.ns.length = n := by have := HGQ.out.len; dsimp only at this; rw [this, HLQ.out]
                      have h := passed_c s' (.slice (some ⟨gb', 0, none⟩) n n) (.slice (some ⟨hb', 0, none⟩) n n) (T' ky) w10 (by have := HPB10.out.ns.nums; rwa [hln] at this) (by have := HPB10.out.os.nums; rwa [hgs.lo, hln] at this) (by have := hgs.l8; omega) (by have := hgs.l8; have := hgs.lo; omega) (fun x hx => by have := hgs.nowO x hx; unfold I64; omega)
                      rwa [HWQ.out.passed hgs HGQ.out.g HBB.out.symm] at h)
                    obtain ⟨q0, q1, q2⟩ := HPB10.out.box.cells
                    clear hb10 HOV d0 d1 d2 d3 HPA9 HPB9 HBA9
                    go_wp2_with fail
                    (with_reducible refine HPS.out.mono ?_)
                    rintro e w11 ⟨rfl, hb11⟩
                    have HPA11 := Lib.hid (HPA10.out.below hb11)
                    have HPB11 := Lib.hid (HPB10.out.below hb11)
                    have HBA11 := Lib.hid (below_then HBA10.out HBA10.out.size hb11)
                    have HRG11 := Lib.hid (HRG10.out.kept (kB hb11) (by simp) (by simp))
                    clear hb11 HPS q0 q1 q2
                    go_wp2_with fail
                    go_roundw
                    case rel => exact ⟨_, cnt1, HRG11.out, HPA11, HPB11, HBA11⟩
                    case measure => rw [HRG11.out.left_eq, HRG.out.2.1.left_eq]; exact HRG.out.2.2
                  | false =>
                    go_wp2_with fail
                    (with_reducible refine HOV.out.mono ?_)
                    rintro e w10 ⟨rfl, hb10⟩
                    have HPA10 := Lib.hid (HPA9.out.below hb10)
                    have HPB10 := Lib.hid (HPB9.out.below hb10)
                    have HBA10 := Lib.hid (below_then HBA9.out HBA9.out.size hb10)
                    have HRG10 := Lib.hid (HRG.out.1.kept (kB hb10) (by simp) (by simp))
                    clear hb10 HOV d0 d1 d2 d3 HPA9 HPB9 HBA9
                    go_wp2_with fail
                    go_roundw
                    case rel => exact ⟨_, cnt1, HRG10.out, HPA10, HPB10, HBA10⟩
                    case measure => rw [HRG10.out.left_eq, HRG.out.2.1.left_eq]; exact HRG.out.2.2
    · obtain ⟨s, g, T, gb, hb, nb, h1, h2, h3, h4, h5, h6, h7, h8⟩ := HI.out
      have HC := Lib.hid (checkT g (.slice (some ⟨nb, 0, none⟩) n n) h2 wr (by have := h6.nd.bools; rwa [h4] at this))
      have HB := Lib.hid h8
      obtain ⟨d0, d1, d2, d3⟩ := h6.gox.cells
      clear h1 h2 h3 h4 h5 h6 h7 h8 HI
      go_wp2_with fail
      (with_reducible refine HC.out.mono ?_)
      rintro e w9 ⟨rfl, hb9⟩
      have HB9 := Lib.hid (below_then HB.out HB.out.size hb9)
      clear hb9
      go_wp2
      go_ret
      exact ⟨rfl, HB9.out⟩

end Go.Proofs.Ytfnpokddoffplaa
