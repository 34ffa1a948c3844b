/-
  Package queue: rows of callbacks; boxes of queues; what may stand behind what.
  Conditions: the ranges of Go's types.
-/
import Derived.Test.YtdllhiihmpinoaaGreatVB4
import Derived.Laws.EntriesVeiled
import Derived.StillTail
import Derived.Deep.RegionWith
import Derived.StillTailTactics
import Derived.WalkKit
import Derived.Deep.RegionHeld3
import Derived.Deep.AppendLies
import Derived.Test.YtdllhiihmpinoaaGreatVB1
import Derived.Shelf.RegionOpen
import Derived.OwnWalkIn
import Derived.TacticsInMore
import Derived.LoopNIn
import Derived.LoopIn
import Derived.Deep.RegionHeld
import Derived.RangeFuncBox
import Derived.Lib.Hide
import Derived.OneCell
/-
  Package grace: what each kind of tick does to a turn.
  Conditions: the ranges of Go's types.
-/
namespace Go.Proofs.YtdllhiihmpinoaaGreat
set_option maxRecDepth 100000
open Go.RowKit Go.Shelf
attribute [local go_sem] Oper.semAt_some

def rowV (b n : Nat) : Value := .slice (some ⟨b, 0, none⟩) n n
theorem rowV_sl (b n : Nat) : IsSl (rowV b n) := ⟨_, _, _, rfl⟩
/-- A turn with readers, in memory. -/
structure PlAt (W : World) (z B : Nat) (P : PlS) (n gb hb nb : Nat) (lv : Value) : Prop where
  tu : TuAt W z B P.s.now (rowV gb n) (rowV hb n) P.g n nb lv P.ls
  nest : IBlock W gb P.s.ns
  opened : IBlock W hb P.s.os
  good : GoodP P
  ap : ∀ q, lv.ownBlock = some q → q ≠ gb ∧ q ≠ hb
  hB : B ≤ W.heap.size
theorem PlAt.ln {W : World} {z B : Nat} {P : PlS} {n gb hb nb : Nat} {lv : Value} (k : PlAt W z B P n gb hb nb lv) : P.s.ns.length = n ∧ P.s.os.length = n ∧ P.g.nd.length = n := by
  have h1 := k.tu.len
  have h2 := k.good.len
  have h3 := k.good.s.lo
  omega
theorem TBox.ne_ints {W : World} {z gb : Nat} {now : Int} {u v : Value} {d a : Int} {on : Bool} {nv lv : Value} {ns : List Int} (h : TBox W z now u v d a on nv lv) (k : IBlock W gb ns) : gb ≠ z := fun e => by
  have h1 : W.heap[z]? = _ := h
  have h2 : W.heap[gb]? = _ := k
  rw [e, h1] at h2; injection h2 with h2; injection h2 with _ h2 _; revert h2; decide
theorem BBlock.ne_ints {W : World} {nb gb : Nat} {bs : List Bool} {ns : List Int} (h : BBlock W nb bs) (k : IBlock W gb ns) : gb ≠ nb := fun e => by
  have h1 : W.heap[nb]? = _ := h
  have h2 : W.heap[gb]? = _ := k
  rw [e, h1] at h2; injection h2 with h2; injection h2 with _ h2 _; revert h2; decide
theorem PlAt.keeps {S : Nat → Prop} {W W' : World} {z B : Nat} {P : PlS} {n gb hb nb : Nat} {lv : Value} (k : PlAt W z B P n gb hb nb lv) (hk : Keeps S W W') (hz : ¬ S z) (hn : ¬ S nb) (hg : ¬ S gb) (hh : ¬ S hb) (hl : ∀ q, lv.ownBlock = some q → ¬ S q) : PlAt W' z B P n gb hb nb lv :=
  ⟨k.tu.keeps hk hz hn hl, k.nest.keeps hk hg, k.opened.keeps hk hh, k.good, k.ap, Nat.le_trans k.hB hk.size⟩
theorem PlAt.below {W W' : World} {z B : Nat} {P : PlS} {n gb hb nb : Nat} {lv : Value} (k : PlAt W z B P n gb hb nb lv) (hb' : Below W.heap.size W W') : PlAt W' z B P n gb hb nb lv :=
  k.keeps (Keeps.of_below (S := fun _ => False) hb') id id id id (fun _ _ => id)
theorem PlAt.any {W : World} {z B : Nat} {P : PlS} {n gb hb nb : Nat} {lv : Value} (k : PlAt W z B P n gb hb nb lv) : TAny W z := k.tu.any (rowV_sl _ _) (rowV_sl _ _)
/-- What a tick leaves, or with which error it was left: only what the turn holds, and new memory, changes. -/
def TickQ (z B : Nat) (E : Int) (P' : PlS) (n nb : Nat) (S : Nat → Prop) (e : Ending) (W w' : World) : Prop :=
  Keeps S W w' ∧ ((E ≠ 0 ∧ e = woe E ∧ TAny w' z) ∨ (E = 0 ∧ e = .returned (.tuple #[]) ∧ ∃ gb hb lv, PlAt w' z B P' n gb hb nb lv ∧ ∀ q, lv.ownBlock = some q → S q ∨ W.heap.size ≤ q))

set_option maxHeartbeats 8000000 in
theorem pask_c (z B : Nat) (P : PlS) (n gb hb nb : Nat) (lv : Value) (c : Int) (W : World) (k : PlAt W z B P n gb hb nb lv) (hls : P.ls.length ≤ 1000000) :
    Calls Tryz.prog 157 #[.pointer (some ⟨z, 0, none⟩), .int .i64 c] W fun e w' => TickQ z B (tickE P (3, c)) (tickP P (3, c)) n nb (fun q => q = z ∨ some q = lv.ownBlock) e W w' := by
  have HE := Lib.hid (show tickE P (3, c) = if hasB n c = false then 2 else askE P.g by unfold tickE; simp only [k.ln.2.2]; rfl)
  have HP := Lib.hid (show tickP P (3, c) = ⟨P.s, askG P.g, P.ls ++ [nextG P.g]⟩ from rfl)
  have HG := Lib.hid (fun h => k.good.tick (t := (3, c)) h)
  have hd0 := k.good.g.d0
  have hda : P.g.done ≤ 2147483645 := by have := (mayG_facts ((goodG_iff _).2 k.good.g)); omega
  have HK := Lib.hid k
  cases hh : hasB n c with
  | false =>
    rw [hh, if_pos rfl] at HE
    have HC := Lib.hid (gat_no z _ _ _ _ _ _ _ n n lv c W k.tu.box hh)
    clear hh k
    go_enter Tryz.func157, Tryz.ntmps157
    go_wp2_with fail
    (with_reducible refine HC.out.mono ?_)
    rintro e w1 ⟨rfl, hb1⟩
    exact ⟨rfl, Keeps.of_below hb1, .inl ⟨by rw [HE.out]; decide, by rw [HE.out]; rfl, (HK.out.below hb1).any⟩⟩
  | true =>
    rw [hh, if_neg (by simp)] at HE
    have HC := Lib.hid (gat_ok z _ _ _ _ _ _ _ n n lv c W k.tu.box hh)
    clear hh k
    go_enter Tryz.func157, Tryz.ntmps157
    go_wp2_with fail
    (with_reducible refine HC.out.mono ?_)
    rintro e w1 ⟨rfl, hb1⟩
    have HK1 := Lib.hid (And.intro (HK.out.below hb1) (Keeps.of_below (S := fun q => q = z ∨ some q = lv.ownBlock) hb1))
    clear hb1 HC
    by_cases hx : 2147483645 < nextG P.g
    · have HX := Lib.hid (show askE P.g = 6 by unfold askE; rw [if_pos hx])
      have HC2 := Lib.hid (gorder_no z B P.s.now (rowV gb n) (rowV hb n) P.g n nb lv P.ls w1 HK1.out.1.tu hd0 hda hx)
      clear hx
      go_wp2_with fail
      (with_reducible refine HC2.out.mono ?_)
      rintro e w2 ⟨rfl, hw2⟩
      rw [hw2]
      exact ⟨rfl, HK1.out.2, .inl ⟨by rw [HE.out, HX.out]; decide, by rw [HE.out, HX.out]; rfl, HK1.out.1.any⟩⟩
    · have HX := Lib.hid (show askE P.g = 0 by unfold askE; rw [if_neg hx])
      have HC2 := Lib.hid (gorder_ok z B P.s.now (rowV gb n) (rowV hb n) P.g n nb lv P.ls w1 HK1.out.1.tu hd0 (by omega) HK1.out.1.hB hls)
      clear hx
      go_wp2_with fail
      (with_reducible refine HC2.out.mono ?_)
      rintro e w2 ⟨rfl, lv2, k2, hk2, hfr, hB2⟩
      have k1 := HK1.out.1
      have HR := Lib.hid (show TickQ z B (tickE P (3, c)) (tickP P (3, c)) n nb (fun q => q = z ∨ some q = lv.ownBlock) (.returned (.tuple #[])) W w2 by
        have hng : ∀ {b : Nat} {ns : List Int}, IBlock w1 b ns → (∀ q, lv.ownBlock = some q → q ≠ b) → ¬ (b = z ∨ some b = lv.ownBlock) := fun hb hap e => by
          rcases e with e | e
          · exact k1.tu.box.ne_ints hb e
          · exact hap _ e.symm rfl
        refine ⟨HK1.out.2.trans hk2, .inr ⟨by rw [HE.out, HX.out], rfl, gb, hb, lv2, ⟨?_, ?_, ?_, HG.out (by rw [HE.out, HX.out]), ?_, hB2⟩, ?_⟩⟩
        · rw [HP.out]; exact k2
        · rw [HP.out]; exact k1.nest.keeps hk2 (hng k1.nest (fun q hq => (k1.ap q hq).1))
        · rw [HP.out]; exact k1.opened.keeps hk2 (hng k1.opened (fun q hq => (k1.ap q hq).2))
        · intro q hq
          rcases hfr q hq with h | h
          · exact k1.ap q h
          · have h1 := k1.nest.lt
            have h2 := k1.opened.lt
            omega
        · intro q hq
          rcases hfr q hq with h | h
          · exact .inl (.inr h.symm)
          · exact .inr (Nat.le_trans HK1.out.2.size h))
      clear k2 hk2 hfr hB2 k1
      go_wp2
      go_end0
      exact HR.out

set_option maxHeartbeats 8000000 in
theorem ppick_c (z B : Nat) (P : PlS) (n gb hb nb : Nat) (lv : Value) (c : Int) (W : World) (k : PlAt W z B P n gb hb nb lv) :
    Calls Tryz.prog 158 #[.pointer (some ⟨z, 0, none⟩), .int .i64 c] W fun e w' => TickQ z B (tickE P (4, c)) (tickP P (4, c)) n nb (fun q => q = z ∨ q = nb ∨ some q = lv.ownBlock) e W w' := by
  have HE := Lib.hid (show tickE P (4, c) = if hasB n c = false then 2 else 0 by unfold tickE; simp only [k.ln.2.2]; rfl)
  have HP := Lib.hid (show tickP P (4, c) = ⟨P.s, pickG P.g c.toNat (quietB P.s c), P.ls⟩ from rfl)
  have HG := Lib.hid (fun h => k.good.tick (t := (4, c)) h)
  have hf := mayG_facts ((goodG_iff _).2 k.good.g)
  have HK := Lib.hid k
  have hln := k.ln
  have HQ := Lib.hid (quiet_c P.s (rowV gb n) (rowV hb n) c W (by have := k.nest.nums; rw [hln.1] at this; exact this) (by have := k.opened.nums; rw [hln.2.1] at this; exact this) (by omega) (by omega) k.good.s.rangeO)
  obtain ⟨d0, d1, d2, d3, d4, d5, d6, d7⟩ := k.tu.box.cells
  unfold rowV at d1 d2 HQ
  have HF := Lib.hid hf
  clear k hf
  go_enter Tryz.func158, Tryz.ntmps158
  go_wp2_with fail
  (with_reducible refine HQ.out.mono ?_)
  rintro e w1 ⟨rfl, hb1⟩
  have HK1 := Lib.hid (And.intro (HK.out.below hb1) (Keeps.of_below (S := fun q => q = z ∨ q = nb ∨ some q = lv.ownBlock) hb1))
  clear hb1 d0 d1 d2 d3 d4 d5 d6 d7 HQ
  cases hh : hasB n c with
  | false =>
    rw [hh, if_pos rfl] at HE
    have HC := Lib.hid (gpicked_no z B P.s.now (rowV gb n) (rowV hb n) P.g n nb lv P.ls c (quietB P.s c) w1 HK1.out.1.tu hh)
    clear hh
    go_wp2_with fail
    (with_reducible refine HC.out.mono ?_)
    rintro e w2 ⟨rfl, hb2⟩
    exact ⟨rfl, HK1.out.2.trans (Keeps.of_below hb2), .inl ⟨by rw [HE.out]; decide, by rw [HE.out]; rfl, (HK1.out.1.below hb2).any⟩⟩
  | true =>
    rw [hh, if_neg (by simp)] at HE
    obtain ⟨i, hic, hi⟩ := (has_iff _ _).1 hh
    subst hic
    have HC := Lib.hid (gpicked_ok z B P.s.now (rowV gb n) (rowV hb n) P.g n nb lv P.ls i (quietB P.s (i : Int)) w1 HK1.out.1.tu hi (by have := HF.out; omega) HF.out.2.2.1 (by have := HF.out; omega) HF.out.2.2.2.1)
    clear hh hi
    go_wp2_with fail
    (with_reducible refine HC.out.mono ?_)
    rintro e w2 ⟨rfl, k2, hk2⟩
    have k1 := HK1.out.1
    have HR := Lib.hid (show TickQ z B (tickE P (4, (i : Int))) (tickP P (4, (i : Int))) n nb (fun q => q = z ∨ q = nb ∨ some q = lv.ownBlock) (.returned (.tuple #[])) W w2 by
      have hng : ∀ {b : Nat} {ns : List Int}, IBlock w1 b ns → ¬ (b = z ∨ b = nb) := fun hb e => by
        rcases e with e | e
        · exact k1.tu.box.ne_ints hb e
        · exact k1.tu.needs.ne_ints hb e
      refine ⟨HK1.out.2.trans (hk2.sub (fun q _ h => h.elim .inl (fun h => .inr (.inl h)))), .inr ⟨HE.out, rfl, gb, hb, lv, ⟨?_, ?_, ?_, HG.out HE.out, k1.ap, Nat.le_trans k1.hB hk2.size⟩, fun q hq => .inl (.inr (.inr hq.symm))⟩⟩
      · rw [HP.out]; simp only [Int.toNat_natCast]; exact k2
      · rw [HP.out]; exact k1.nest.keeps hk2 (hng k1.nest)
      · rw [HP.out]; exact k1.opened.keeps hk2 (hng k1.opened))
    clear k2 hk2 k1
    go_wp2
    go_end0
    exact HR.out

end Go.Proofs.YtdllhiihmpinoaaGreat
/-
  Package grace: a CPU of a turn enters a section, and leaves one; readers that a turn takes.
  Conditions: the ranges of Go's types.
-/
namespace Go.Proofs.YtdllhiihmpinoaaGreat
set_option maxRecDepth 100000
open Go.RowKit Go.Shelf
attribute [local go_sem] Oper.semAt_some

theorem putRK (W : World) (z : Nat) (now : Int) (u v : Value) : Keeps (fun k => k = z) W (((W.setCell ⟨z, 0, none⟩ (.int .i64 now)).setCell ⟨z, 1, none⟩ u).setCell ⟨z, 2, none⟩ v) := ((setK W z 0 _).trans (setK _ z 1 _)).trans (setK _ z 2 _)
theorem TuAt.putR {W : World} {z B : Nat} {now0 : Int} {u0 v0 : Value} {g : GrS} {n nb : Nat} {lv : Value} {ls : List Int} (k : TuAt W z B now0 u0 v0 g n nb lv ls) (now : Int) (u v : Value) : TuAt (((W.setCell ⟨z, 0, none⟩ (.int .i64 now)).setCell ⟨z, 1, none⟩ u).setCell ⟨z, 2, none⟩ v) z B now u v g n nb lv ls :=
  ⟨k.box.putR now u v, k.len, k.needs.keeps (putRK W z now u v) (fun e => k.box.ne_bools k.needs e.symm), (putRK W z now u v).row k.nums (fun q hq e => k.box.ne_row k.nums q hq e)⟩

set_option maxHeartbeats 8000000 in
theorem penter_c (z B : Nat) (P : PlS) (n gb hb nb : Nat) (lv : Value) (c : Int) (W : World) (k : PlAt W z B P n gb hb nb lv) :
    Calls Tryz.prog 155 #[.pointer (some ⟨z, 0, none⟩), .int .i64 c] W fun e w' => TickQ z B (tickE P (1, c)) (tickP P (1, c)) n nb (fun q => q = z ∨ some q = lv.ownBlock) e W w' := by
  have HE := Lib.hid (show tickE P (1, c) = stepE P.s c true from rfl)
  have HP := Lib.hid (show tickP P (1, c) = ⟨stepS P.s c true, P.g, P.ls⟩ from rfl)
  have HG := Lib.hid (fun h => k.good.tick (t := (1, c)) h)
  have HK := Lib.hid k
  have hln := k.ln
  have HQ := Lib.hid (Enter_c P.s (rowV gb n) (rowV hb n) c W (by have := k.nest.nums; rw [hln.1] at this; exact this) (by have := k.opened.nums; rw [hln.2.1] at this; exact this) (by have := k.good.s.l8; omega) (by have := k.good.s.l8; omega) k.good.s.rangeO)
  obtain ⟨d0, d1, d2, d3, d4, d5, d6, d7⟩ := k.tu.box.cells
  unfold rowV at d1 d2 HQ
  have HM := Lib.hid ((good_iff _).2 k.good.s)
  have HZW := Lib.hid (show z < W.heap.size from k.tu.box.lt)
  have HLV := Lib.hid (show ∀ q, lv.ownBlock = some q → q < W.heap.size from fun q hq => (k.tu.nums.lt q hq).2)
  have HLN := Lib.hid hln
  clear k hln
  go_enter Tryz.func155, Tryz.ntmps155
  go_wp2_with fail
  (with_reducible refine HQ.out.mono ?_)
  rintro e w1 ⟨⟨nw, p1, n1, c1, p2, n2, c2, err, rfl, hQ⟩, hb1⟩
  obtain ⟨w2, hw2⟩ : ∃ X : World, X = w1.alloc (.cells #[.int .i64 nw, .slice p1 n1 c1, .slice p2 n2 c2] 24) := ⟨_, rfl⟩
  have hb2 : Below w1.heap.size w1 w2 := by rw [hw2]; exact below1 _ _
  have HBX := Lib.hid (show RBox w2 w1.heap.size nw (.slice p1 n1 c1) (.slice p2 n2 c2) by rw [hw2]; exact RBox.new _ _ _ _)
  have HK2 := Lib.hid (show PlAt w2 z B P n gb hb nb lv ∧ Below W.heap.size W w2 from ⟨(HK.out.below hb1).below hb2, below_then hb1 hb1.size hb2⟩)
  have HZ := Lib.hid (show z < w1.heap.size from (HK.out.below hb1).tu.box.lt)
  have hQ2 := hQ.keeps (Keeps.of_below (S := fun _ => False) hb2) (fun _ h => h.elim)
  clear hb1 hQ d0 d1 d2 d3 d4 d5 d6 d7 HQ HK hb2
  have HW2 := Lib.hid hw2
  clear hw2
  by_cases hE : stepE P.s c true = 0
  · have hq : err = 0 ∧ nw = (stepS P.s c true).now ∧ ∃ g' h' : Nat, W.heap.size + 2 ≤ g' ∧ W.heap.size + 2 ≤ h' ∧ g' ≠ h' ∧ (p1 = some ⟨g', 0, none⟩ ∧ n1 = (stepS P.s c true).ns.length ∧ c1 = (stepS P.s c true).ns.length) ∧ (p2 = some ⟨h', 0, none⟩ ∧ n2 = (stepS P.s c true).os.length ∧ c2 = (stepS P.s c true).os.length) ∧ IBlock w2 g' (stepS P.s c true).ns ∧ IBlock w2 h' (stepS P.s c true).os := by
      rcases hQ2 with h | h
      · rcases h.1 with h1 | h1
        · rw [HM.out] at h1; cases h1.1
        · exact absurd hE h1.2.1
      · exact ⟨h.2.2.1, h.2.2.2.1, h.2.2.2.2⟩
    obtain ⟨rfl, rfl, g', h', hg', hh', hgh, ⟨rfl, hn1, hc1⟩, ⟨rfl, hn2, hc2⟩, hI, hJ⟩ := hq
    have hl := stepS_len P.s c true
    have hn1' : n = n1 := by rw [hn1, hl.1]; exact HLN.out.1.symm
    have hc1' : n = c1 := by rw [hc1, hl.1]; exact HLN.out.1.symm
    have hn2' : n = n2 := by rw [hn2, hl.2]; exact HLN.out.2.1.symm
    have hc2' : n = c2 := by rw [hc2, hl.2]; exact HLN.out.2.1.symm
    clear hn1 hc1 hn2 hc2 hl hQ2
    subst hn1' hc1' hn2' hc2'
    obtain ⟨nw, hnw⟩ : ∃ x, x = (stepS P.s c true).now := ⟨_, rfl⟩
    have HX := Lib.hid (show IBlock w2 g' (stepS P.s c true).ns ∧ IBlock w2 h' (stepS P.s c true).os ∧ W.heap.size + 2 ≤ g' ∧ W.heap.size + 2 ≤ h' ∧ nw = (stepS P.s c true).now ∧ stepE P.s c true = 0 from ⟨hI, hJ, hg', hh', hnw, hE⟩)
    rw [← hnw] at HBX HW2 ⊢
    have k2 := HK2.out.1
    have hr := k2.tu.putR nw (rowV g' n) (rowV h' n)
    have hk := putRK w2 z nw (rowV g' n) (rowV h' n)
    have HR := Lib.hid (show TickQ z B (tickE P (1, c)) (tickP P (1, c)) n nb (fun q => q = z ∨ some q = lv.ownBlock) (.returned (.tuple #[])) W (((w2.setCell ⟨z, 0, none⟩ (.int .i64 nw)).setCell ⟨z, 1, none⟩ (rowV g' n)).setCell ⟨z, 2, none⟩ (rowV h' n)) by
      have hzg : ∀ {b : Nat}, W.heap.size + 2 ≤ b → ¬ b = z := fun hb e => by
        have := HZW.out
        omega
      refine ⟨((Keeps.of_below HK2.out.2).trans (hk.sub (fun _ _ h => .inl h))), .inr ⟨by rw [HE.out]; exact hE, rfl, g', h', lv, ⟨?_, ?_, ?_, HG.out (by rw [HE.out]; exact hE), ?_, Nat.le_trans k2.hB hk.size⟩, fun q hq => .inl (.inr hq.symm)⟩⟩
      · rw [HP.out, hnw]; rw [hnw] at hr; exact hr
      · rw [HP.out]; exact hI.keeps hk (hzg hg')
      · rw [HP.out]; exact hJ.keeps hk (hzg hh')
      · intro q hq
        have h1 := HLV.out q hq
        omega)
    unfold rowV at HR
    obtain ⟨e0, e1, e2⟩ := HBX.out.cells
    obtain ⟨d0, d1, d2, d3, d4, d5, d6, d7⟩ := HK2.out.1.tu.box.cells
    have m0 := HK2.out.1.tu.box.marks 0
    have m1 := HK2.out.1.tu.box.marks 1
    have m2 := HK2.out.1.tu.box.marks 2
    clear hI hJ hg' hh' hgh hnw hE k2 hr hk
    go_wp2_with fail
    rw [← HW2.out]
    (with_reducible refine (must_ok w2).mono ?_)
    rintro e w2' ⟨rfl, hww⟩
    rw [hww]
    clear hww
    go_wp2
    go_end0
    exact HR.out
  · have hq : err = stepE P.s c true ∧ nw = 0 ∧ (p1 = none ∧ n1 = 0 ∧ c1 = 0) ∧ (p2 = none ∧ n2 = 0 ∧ c2 = 0) := by
      rcases hQ2 with h | h
      · rcases h.1 with h1 | h1
        · rw [HM.out] at h1; cases h1.1
        · exact ⟨h1.2.2, h.2⟩
      · exact absurd h.2.1 hE
    obtain ⟨he, rfl, ⟨rfl, rfl, rfl⟩, ⟨rfl, rfl, rfl⟩⟩ := hq
    have hne : err ≠ 0 := by rw [he]; exact hE
    have HC := Lib.hid (must_no err hne w2)
    have HX := Lib.hid (And.intro he hE)
    clear he hE hne hQ2
    go_wp2_with fail
    rw [← HW2.out]
    (with_reducible refine HC.out.mono ?_)
    rintro e w3 ⟨rfl, hww⟩
    rw [hww]
    exact ⟨rfl, Keeps.of_below HK2.out.2, .inl ⟨by rw [HE.out]; exact HX.out.2, by rw [HE.out, ← HX.out.1]; rfl, HK2.out.1.any⟩⟩

set_option maxHeartbeats 8000000 in
theorem pleave_c (z B : Nat) (P : PlS) (n gb hb nb : Nat) (lv : Value) (c : Int) (W : World) (k : PlAt W z B P n gb hb nb lv) :
    Calls Tryz.prog 156 #[.pointer (some ⟨z, 0, none⟩), .int .i64 c] W fun e w' => TickQ z B (tickE P (2, c)) (tickP P (2, c)) n nb (fun q => q = z ∨ some q = lv.ownBlock) e W w' := by
  have HE := Lib.hid (show tickE P (2, c) = stepE P.s c false from rfl)
  have HP := Lib.hid (show tickP P (2, c) = ⟨stepS P.s c false, P.g, P.ls⟩ from rfl)
  have HG := Lib.hid (fun h => k.good.tick (t := (2, c)) h)
  have HK := Lib.hid k
  have hln := k.ln
  have HQ := Lib.hid (Leave_c P.s (rowV gb n) (rowV hb n) c W (by have := k.nest.nums; rw [hln.1] at this; exact this) (by have := k.opened.nums; rw [hln.2.1] at this; exact this) (by have := k.good.s.l8; omega) (by have := k.good.s.l8; omega) k.good.s.rangeO)
  obtain ⟨d0, d1, d2, d3, d4, d5, d6, d7⟩ := k.tu.box.cells
  unfold rowV at d1 d2 HQ
  have HM := Lib.hid ((good_iff _).2 k.good.s)
  have HZW := Lib.hid (show z < W.heap.size from k.tu.box.lt)
  have HLV := Lib.hid (show ∀ q, lv.ownBlock = some q → q < W.heap.size from fun q hq => (k.tu.nums.lt q hq).2)
  have HLN := Lib.hid hln
  clear k hln
  go_enter Tryz.func156, Tryz.ntmps156
  go_wp2_with fail
  (with_reducible refine HQ.out.mono ?_)
  rintro e w1 ⟨⟨nw, p1, n1, c1, p2, n2, c2, err, rfl, hQ⟩, hb1⟩
  obtain ⟨w2, hw2⟩ : ∃ X : World, X = w1.alloc (.cells #[.int .i64 nw, .slice p1 n1 c1, .slice p2 n2 c2] 24) := ⟨_, rfl⟩
  have hb2 : Below w1.heap.size w1 w2 := by rw [hw2]; exact below1 _ _
  have HBX := Lib.hid (show RBox w2 w1.heap.size nw (.slice p1 n1 c1) (.slice p2 n2 c2) by rw [hw2]; exact RBox.new _ _ _ _)
  have HK2 := Lib.hid (show PlAt w2 z B P n gb hb nb lv ∧ Below W.heap.size W w2 from ⟨(HK.out.below hb1).below hb2, below_then hb1 hb1.size hb2⟩)
  have HZ := Lib.hid (show z < w1.heap.size from (HK.out.below hb1).tu.box.lt)
  have hQ2 := hQ.keeps (Keeps.of_below (S := fun _ => False) hb2) (fun _ h => h.elim)
  clear hb1 hQ d0 d1 d2 d3 d4 d5 d6 d7 HQ HK hb2
  have HW2 := Lib.hid hw2
  clear hw2
  by_cases hE : stepE P.s c false = 0
  · have hq : err = 0 ∧ nw = (stepS P.s c false).now ∧ ∃ g' h' : Nat, W.heap.size + 2 ≤ g' ∧ W.heap.size + 2 ≤ h' ∧ g' ≠ h' ∧ (p1 = some ⟨g', 0, none⟩ ∧ n1 = (stepS P.s c false).ns.length ∧ c1 = (stepS P.s c false).ns.length) ∧ (p2 = some ⟨h', 0, none⟩ ∧ n2 = (stepS P.s c false).os.length ∧ c2 = (stepS P.s c false).os.length) ∧ IBlock w2 g' (stepS P.s c false).ns ∧ IBlock w2 h' (stepS P.s c false).os := by
      rcases hQ2 with h | h
      · rcases h.1 with h1 | h1
        · rw [HM.out] at h1; cases h1.1
        · exact absurd hE h1.2.1
      · exact ⟨h.2.2.1, h.2.2.2.1, h.2.2.2.2⟩
    obtain ⟨rfl, rfl, g', h', hg', hh', hgh, ⟨rfl, hn1, hc1⟩, ⟨rfl, hn2, hc2⟩, hI, hJ⟩ := hq
    have hl := stepS_len P.s c false
    have hn1' : n = n1 := by rw [hn1, hl.1]; exact HLN.out.1.symm
    have hc1' : n = c1 := by rw [hc1, hl.1]; exact HLN.out.1.symm
    have hn2' : n = n2 := by rw [hn2, hl.2]; exact HLN.out.2.1.symm
    have hc2' : n = c2 := by rw [hc2, hl.2]; exact HLN.out.2.1.symm
    clear hn1 hc1 hn2 hc2 hl hQ2
    subst hn1' hc1' hn2' hc2'
    obtain ⟨nw, hnw⟩ : ∃ x, x = (stepS P.s c false).now := ⟨_, rfl⟩
    have HX := Lib.hid (show IBlock w2 g' (stepS P.s c false).ns ∧ IBlock w2 h' (stepS P.s c false).os ∧ W.heap.size + 2 ≤ g' ∧ W.heap.size + 2 ≤ h' ∧ nw = (stepS P.s c false).now ∧ stepE P.s c false = 0 from ⟨hI, hJ, hg', hh', hnw, hE⟩)
    rw [← hnw] at HBX HW2 ⊢
    have k2 := HK2.out.1
    have hr := k2.tu.putR nw (rowV g' n) (rowV h' n)
    have hk := putRK w2 z nw (rowV g' n) (rowV h' n)
    have HR := Lib.hid (show TickQ z B (tickE P (2, c)) (tickP P (2, c)) n nb (fun q => q = z ∨ some q = lv.ownBlock) (.returned (.tuple #[])) W (((w2.setCell ⟨z, 0, none⟩ (.int .i64 nw)).setCell ⟨z, 1, none⟩ (rowV g' n)).setCell ⟨z, 2, none⟩ (rowV h' n)) by
      have hzg : ∀ {b : Nat}, W.heap.size + 2 ≤ b → ¬ b = z := fun hb e => by
        have := HZW.out
        omega
      refine ⟨((Keeps.of_below HK2.out.2).trans (hk.sub (fun _ _ h => .inl h))), .inr ⟨by rw [HE.out]; exact hE, rfl, g', h', lv, ⟨?_, ?_, ?_, HG.out (by rw [HE.out]; exact hE), ?_, Nat.le_trans k2.hB hk.size⟩, fun q hq => .inl (.inr hq.symm)⟩⟩
      · rw [HP.out, hnw]; rw [hnw] at hr; exact hr
      · rw [HP.out]; exact hI.keeps hk (hzg hg')
      · rw [HP.out]; exact hJ.keeps hk (hzg hh')
      · intro q hq
        have h1 := HLV.out q hq
        omega)
    unfold rowV at HR
    obtain ⟨e0, e1, e2⟩ := HBX.out.cells
    obtain ⟨d0, d1, d2, d3, d4, d5, d6, d7⟩ := HK2.out.1.tu.box.cells
    have m0 := HK2.out.1.tu.box.marks 0
    have m1 := HK2.out.1.tu.box.marks 1
    have m2 := HK2.out.1.tu.box.marks 2
    clear hI hJ hg' hh' hgh hnw hE k2 hr hk
    go_wp2_with fail
    rw [← HW2.out]
    (with_reducible refine (must_ok w2).mono ?_)
    rintro e w2' ⟨rfl, hww⟩
    rw [hww]
    clear hww
    go_wp2
    go_end0
    exact HR.out
  · have hq : err = stepE P.s c false ∧ nw = 0 ∧ (p1 = none ∧ n1 = 0 ∧ c1 = 0) ∧ (p2 = none ∧ n2 = 0 ∧ c2 = 0) := by
      rcases hQ2 with h | h
      · rcases h.1 with h1 | h1
        · rw [HM.out] at h1; cases h1.1
        · exact ⟨h1.2.2, h.2⟩
      · exact absurd h.2.1 hE
    obtain ⟨he, rfl, ⟨rfl, rfl, rfl⟩, ⟨rfl, rfl, rfl⟩⟩ := hq
    have hne : err ≠ 0 := by rw [he]; exact hE
    have HC := Lib.hid (must_no err hne w2)
    have HX := Lib.hid (And.intro he hE)
    clear he hE hne hQ2
    go_wp2_with fail
    rw [← HW2.out]
    (with_reducible refine HC.out.mono ?_)
    rintro e w3 ⟨rfl, hww⟩
    rw [hww]
    exact ⟨rfl, Keeps.of_below HK2.out.2, .inl ⟨by rw [HE.out]; exact HX.out.2, by rw [HE.out, ← HX.out.1]; rfl, HK2.out.1.any⟩⟩

end Go.Proofs.YtdllhiihmpinoaaGreat
/-
  Package grace: which ticks are of a kind; what the kinds of ticks do.
  Conditions: none.
-/
namespace Go.Proofs.YtdllhiihmpinoaaGreat
set_option maxRecDepth 100000
open Go.RowKit Go.Shelf
attribute [local go_sem] Oper.semAt_some

def isB (k : Int) : Bool := decide (1 ≤ k) && decide (k ≤ 4)
theorem is_c (k c : Int) (W : World) : Calls Tryz.prog 140 #[.agg #[.int .i64 k, .int .i64 c]] W fun e w' => e = .returned (.bool (isB k)) ∧ Below W.heap.size W w' := by
  have hc : (k < 1 ∧ isB k = false) ∨ (1 ≤ k ∧ isB k = decide (k ≤ 4)) := by
    unfold isB
    by_cases h : 1 ≤ k
    · rw [decide_eq_true h]; exact .inr ⟨h, rfl⟩
    · rw [decide_eq_false h]; exact .inl ⟨by omega, rfl⟩
  rcases hc with ⟨h0, hr⟩ | ⟨h0, hr⟩
  all_goals
    rw [hr]; clear hr
    go_enter Tryz.func140, Tryz.ntmps140
    go_wp2
    go_ret
    exact ⟨rfl, by first | exact below1 _ _ | exact below2 _ _ _⟩

/-- What deeds answers. -/
def deedsV : Value := .agg #[.nilFunc, .func (.func 155) #[] #[], .func (.func 156) #[] #[], .func (.func 157) #[] #[], .func (.func 158) #[] #[]]
/-- A box with the deeds. -/
def DBox (W : World) (b : Nat) : Prop := W.heap[b]? = some (.cells #[.nilFunc, .func (.func 155) #[] #[], .func (.func 156) #[] #[], .func (.func 157) #[] #[], .func (.func 158) #[] #[]] 182 (0, 0))
theorem DBox.cells {W : World} {b : Nat} (h : DBox W b) : W.cell? ⟨b, 0, none⟩ = some .nilFunc ∧ W.cell? ⟨b, 1, none⟩ = some (.func (.func 155) #[] #[]) ∧ W.cell? ⟨b, 2, none⟩ = some (.func (.func 156) #[] #[]) ∧ W.cell? ⟨b, 3, none⟩ = some (.func (.func 157) #[] #[]) ∧ W.cell? ⟨b, 4, none⟩ = some (.func (.func 158) #[] #[]) := by
  have h' : W.heap[b]? = _ := h
  simp [World.cell?, h']
theorem DBox.lt {W : World} {b : Nat} (h : DBox W b) : b < W.heap.size := (Array.getElem?_eq_some_iff.1 h).1
theorem deeds_info : (Tryz.prog.info? 182).map (·.size) = some 5 := by kernel_rfl
theorem deeds_load {W : World} {b : Nat} (h : DBox W b) : (loadVar 182 ⟨b, 0, none⟩).run Tryz.prog W = .ok deedsV W := by
  obtain ⟨h0, h1, h2, h3, h4⟩ := h.cells
  refine run_loadVar_mid W b 0 182 [.nilFunc, .func (.func 155) #[] #[], .func (.func 156) #[] #[], .func (.func 157) #[] #[], .func (.func 158) #[] #[]] _ (fun j u hj => ?_) Tryz.underlying182 rfl deeds_info
  rw [Nat.zero_add]
  match j, hj with
  | 0, hj => cases hj; exact h0
  | 1, hj => cases hj; exact h1
  | 2, hj => cases hj; exact h2
  | 3, hj => cases hj; exact h3
  | 4, hj => cases hj; exact h4
  | (k + 5), hj => simp at hj
set_option maxHeartbeats 4000000 in
theorem deeds_c (W : World) : Calls Tryz.prog 139 #[] W fun e w' => e = .returned deedsV ∧ Below W.heap.size W w' := by
  go_enter Tryz.func139, Tryz.ntmps139
  go_wp2
  have hD : DBox (W.alloc (.cells #[.nilFunc, .func (.func 155) #[] #[], .func (.func 156) #[] #[], .func (.func 157) #[] #[], .func (.func 158) #[] #[]] 182)) W.heap.size := World.alloc_heap_new W _
  refine bodyPost_ret (v := deedsV) (results_cell1 rfl _ _ _ rfl (deeds_load hD)) rfl ⟨rfl, below1 _ _⟩

end Go.Proofs.YtdllhiihmpinoaaGreat
/-
  Package grace: ticks, one behind the other.
  Conditions: the ranges of Go's types; the turn is younger than the ticks.
-/
namespace Go.Proofs.YtdllhiihmpinoaaGreat
set_option maxRecDepth 100000
open Go.RowKit Go.Shelf
attribute [local go_sem] Oper.semAt_some

/-- A slice of ticks. -/
def TksAt (W : World) (v : Value) (l : List (Int × Int)) : Prop := ∃ p cap, v = .slice p l.length cap ∧
  (l ≠ [] → ∃ b off, p = some ⟨b, off, none⟩ ∧ ∀ i (h : i < l.length), W.cell? ⟨b, off + i * 2, none⟩ = some (.int .i64 l[i].1) ∧ W.cell? ⟨b, off + i * 2 + 1, none⟩ = some (.int .i64 l[i].2))
theorem TksAt.keeps {S : Nat → Prop} {W W' : World} {v : Value} {l : List (Int × Int)} {z : Nat} (h : TksAt W v l) (hk : Keeps S W W') (hS : ∀ q, S q → z ≤ q) (hz : ∀ b off n c, v = .slice (some ⟨b, off, none⟩) n c → l ≠ [] → b < z) : TksAt W' v l := by
  obtain ⟨p, cap, rfl, hc⟩ := h
  refine ⟨p, cap, rfl, fun hne => ?_⟩
  obtain ⟨b, off, rfl, hcs⟩ := hc hne
  have hb := hz b off _ _ rfl hne
  exact ⟨b, off, rfl, fun i hi => ⟨hk.cell (hcs i hi).1 (fun e => by have := hS b e; omega), hk.cell (hcs i hi).2 (fun e => by have := hS b e; omega)⟩⟩
theorem TksAt.below {W W' : World} {v : Value} {l : List (Int × Int)} (h : TksAt W v l) (hb : Below W.heap.size W W') : TksAt W' v l := by
  obtain ⟨p, cap, rfl, hc⟩ := h
  refine ⟨p, cap, rfl, fun hne => ?_⟩
  obtain ⟨b, off, rfl, hcs⟩ := hc hne
  exact ⟨b, off, rfl, fun i hi => ⟨below_cell hb (hcs i hi).1, below_cell hb (hcs i hi).2⟩⟩
/-- Behind ticks. -/
def RunQ (z : Nat) (E : Int) (P' : PlS) (n : Nat) (e : Ending) (W w' : World) : Prop :=
  Keeps (fun k => k = z ∨ z + 2 ≤ k) W w' ∧ ((E ≠ 0 ∧ e = woe E ∧ TAny w' z) ∨ (E = 0 ∧ e = .returned (.tuple #[]) ∧ ∃ gb hb nb lv, PlAt w' z (z + 2) P' n gb hb nb lv ∧ z + 2 ≤ nb))
theorem RunQ.of {z : Nat} {E : Int} {P' : PlS} {n nb : Nat} {S : Nat → Prop} {e : Ending} {W w' : World} (h : TickQ z (z + 2) E P' n nb S e W w') (hS : ∀ q, S q → q = z ∨ z + 2 ≤ q) (hnb : z + 2 ≤ nb) : RunQ z E P' n e W w' := by
  obtain ⟨hk, h⟩ := h
  refine ⟨hk.sub (fun q _ h => hS q h), ?_⟩
  rcases h with h | ⟨h1, h2, gb, hb, lv, h3, -⟩
  · exact .inl h
  · exact .inr ⟨h1, h2, gb, hb, nb, lv, h3, hnb⟩
theorem play_step (P : PlS) (l : List (Int × Int)) (i : Nat) (hi : i < l.length) : playP P (l.take (i + 1)) = tickP (playP P (l.take i)) l[i] := by
  unfold playP
  rw [List.take_succ_eq_append_getElem hi, List.foldl_append]
  rfl
theorem playE_step (P : PlS) (l : List (Int × Int)) (i : Nat) (hi : i < l.length) : playE P (l.drop i) = if tickE P l[i] = 0 then playE (tickP P l[i]) (l.drop (i + 1)) else tickE P l[i] := by
  rw [List.drop_eq_getElem_cons hi]
  rfl
theorem play_ls (P : PlS) : ∀ (l : List (Int × Int)), (playP P l).ls.length ≤ P.ls.length + l.length
  | [] => Nat.le_refl _
  | t :: l => by
    have h1 := play_ls (tickP P t) l
    have h2 := tick_ls P t
    show (playP (tickP P t) l).ls.length ≤ _
    simp only [List.length_cons]
    omega
/-- Each kind. -/
theorem tick_any (z : Nat) (P : PlS) (n gb hb nb : Nat) (lv : Value) (k c : Int) (K : Nat) (W : World) (h : PlAt W z (z + 2) P n gb hb nb lv) (hnb : z + 2 ≤ nb) (hls : P.ls.length ≤ 1000000)
    (hK : (k = 1 ∧ K = 155) ∨ (k = 2 ∧ K = 156) ∨ (k = 3 ∧ K = 157) ∨ (k = 4 ∧ K = 158)) :
    Calls Tryz.prog K #[.pointer (some ⟨z, 0, none⟩), .int .i64 c] W fun e w' => RunQ z (tickE P (k, c)) (tickP P (k, c)) n e W w' ∧ Keeps (fun q => q = z ∨ q = nb ∨ some q = lv.ownBlock) W w' := by
  have hlv : ∀ q, some q = lv.ownBlock → z + 2 ≤ q := fun q hq => (h.tu.nums.lt q hq.symm).1
  rcases hK with ⟨rfl, rfl⟩ | ⟨rfl, rfl⟩ | ⟨rfl, rfl⟩ | ⟨rfl, rfl⟩
  · exact (penter_c z (z + 2) P n gb hb nb lv c W h).mono fun e w' hq => ⟨RunQ.of hq (fun q e => by rcases e with e | e; exact .inl e; exact .inr (hlv q e)) hnb, hq.1.sub (fun q _ e => e.elim .inl (fun e => .inr (.inr e)))⟩
  · exact (pleave_c z (z + 2) P n gb hb nb lv c W h).mono fun e w' hq => ⟨RunQ.of hq (fun q e => by rcases e with e | e; exact .inl e; exact .inr (hlv q e)) hnb, hq.1.sub (fun q _ e => e.elim .inl (fun e => .inr (.inr e)))⟩
  · exact (pask_c z (z + 2) P n gb hb nb lv c W h hls).mono fun e w' hq => ⟨RunQ.of hq (fun q e => by rcases e with e | e; exact .inl e; exact .inr (hlv q e)) hnb, hq.1.sub (fun q _ e => e.elim .inl (fun e => .inr (.inr e)))⟩
  · exact (ppick_c z (z + 2) P n gb hb nb lv c W h).mono fun e w' hq => ⟨RunQ.of hq (fun q e => by rcases e with e | e | e; exact .inl e; exact .inr (by omega); exact .inr (hlv q e)) hnb, hq.1⟩

theorem DBox.apart {W : World} {z B n gb hb nb db : Nat} {P : PlS} {lv : Value} (h : DBox W db) (k : PlAt W z B P n gb hb nb lv) : ¬ (db = z ∨ db = nb ∨ some db = lv.ownBlock) := by
  have h0 : W.heap[db]? = _ := h
  rintro (e | e | e)
  · have h1 : W.heap[z]? = _ := k.tu.box
    rw [← e, h0] at h1; injection h1 with h1; injection h1 with _ h1 _; revert h1; decide
  · have h1 : W.heap[nb]? = _ := k.tu.needs
    rw [← e, h0] at h1; injection h1 with h1; injection h1 with _ h1 _; revert h1; decide
  · obtain ⟨c, f, h1⟩ := Lib.ownsRow_kind k.tu.nums db e.symm
    rw [h0] at h1; injection h1 with h1; injection h1 with _ h1 _; revert h1; decide
/-- Between two ticks. -/
def TkI (z : Nat) (P : PlS) (l : List (Int × Int)) (n db i : Nat) (W wr : World) : Prop :=
  (∃ gb hb nb lv, PlAt wr z (z + 2) (playP P (l.take i)) n gb hb nb lv ∧ z + 2 ≤ nb) ∧ Keeps (fun k => k = z ∨ z + 2 ≤ k) W wr ∧ DBox wr db ∧ playE P l = playE (playP P (l.take i)) (l.drop i)
theorem tki_next {z : Nat} {P : PlS} {l : List (Int × Int)} {n db i : Nat} {W wr w' : World} {e : Ending} (hi : i < l.length) (hI : TkI z P l n db i W wr) (hB : Keeps (fun k => k = z ∨ z + 2 ≤ k) W wr) (hD : DBox w' db) (hq : RunQ z (tickE (playP P (l.take i)) l[i]) (tickP (playP P (l.take i)) l[i]) n e wr w') :
    (tickE (playP P (l.take i)) l[i] ≠ 0 → e = woe (playE P l) ∧ playE P l ≠ 0 ∧ RunQ z (playE P l) (playP P l) n e W w') ∧ (tickE (playP P (l.take i)) l[i] = 0 → e = .returned (.tuple #[]) ∧ TkI z P l n db (i + 1) W w') := by
  obtain ⟨hk, h⟩ := hq
  have hE := hI.2.2.2.trans (playE_step _ l i hi)
  constructor
  · intro hne
    rw [if_neg hne] at hE
    rcases h with ⟨h1, h2, h3⟩ | h
    · exact ⟨by rw [hE]; exact h2, by rw [hE]; exact hne, hB.trans hk, .inl ⟨by rw [hE]; exact hne, by rw [hE]; exact h2, h3⟩⟩
    · exact absurd h.1 hne
  · intro he
    rw [if_pos he] at hE
    rcases h with h | ⟨h1, h2, gb, hb, nb, lv, h3, h4⟩
    · exact absurd he h.1
    · exact ⟨h2, ⟨gb, hb, nb, lv, by rw [play_step P l i hi]; exact h3, h4⟩, hB.trans hk, hD, by rw [play_step P l i hi]; exact hE⟩

set_option maxHeartbeats 16000000 in
theorem ticks_c (z : Nat) (P : PlS) (n gb hb nb : Nat) (lv tv : Value) (l : List (Int × Int)) (W : World) (k : PlAt W z (z + 2) P n gb hb nb lv) (hnb : z + 2 ≤ nb) (hl : TksAt W tv l) (hz : ∀ b off n c, tv = .slice (some ⟨b, off, none⟩) n c → l ≠ [] → b < z) (hls : P.ls.length + l.length ≤ 1000000) :
    Calls Tryz.prog 117 #[.pointer (some ⟨z, 0, none⟩), tv] W fun e w' => RunQ z (playE P l) (playP P l) n e W w' := by
  have HK := Lib.hid (And.intro k hnb)
  have HZW := Lib.hid (show z < W.heap.size from k.tu.box.lt)
  have HL := Lib.hid (And.intro hl (And.intro hz hls))
  obtain ⟨tp, tc, rfl, -⟩ := hl
  have hln : l.length ≤ 1000000 := by omega
  clear k hnb hz hls
  go_enter Tryz.func117, Tryz.ntmps117
  go_wp2_with fail
  (with_reducible refine (deeds_c W).mono ?_)
  rintro e w1 ⟨rfl, hb1⟩
  unfold deedsV
  obtain ⟨w2, hw2⟩ : ∃ X : World, X = w1.alloc (.cells #[.nilFunc, .func (.func 155) #[] #[], .func (.func 156) #[] #[], .func (.func 157) #[] #[], .func (.func 158) #[] #[]] 182) := ⟨_, rfl⟩
  have hb2 : Below w1.heap.size w1 w2 := by rw [hw2]; exact below1 _ _
  have hB2 : Below W.heap.size W w2 := below_then hb1 hb1.size hb2
  obtain ⟨db, hdb⟩ : ∃ x, x = w1.heap.size := ⟨_, rfl⟩
  have HI0 := Lib.hid (show TkI z P l n db 0 W w2 from ⟨⟨gb, hb, nb, lv, HK.out.1.below hB2, HK.out.2⟩, Keeps.of_below hB2, by rw [hw2, hdb]; exact World.alloc_heap_new _ _, rfl⟩)
  have HDB := Lib.hid (show W.heap.size ≤ db by rw [hdb]; exact hb1.size)
  have HW2 := Lib.hid (And.intro hw2 hdb)
  clear hw2 hdb hb1 hb2 hB2
  go_upto_region 1 with fail
  rw [← HW2.out.1, ← HW2.out.2]
  go_wp2
  go_loopw [10] (fun iv wr => ∃ i : Nat, i ≤ l.length ∧ iv = .int .i64 (i : Int) ∧ Hid (TkI z P l n db i W wr)) (fun iv _ => l.length - (intOf iv).toNat)
  case atStart => exact ⟨0, Nat.zero_le _, rfl, HI0⟩
  case round =>
    clear HI0
    obtain ⟨i, hi, rfl, HI⟩ := hrel
    by_cases hlt : i < l.length
    · have htk := HL.out.1.keeps HI.out.2.1 (fun q h => by omega) HL.out.2.1
      obtain ⟨p', cap', e, hcs⟩ := htk
      injection e with e1 e2 e3
      obtain ⟨b, off, hp, hcs⟩ := hcs (by intro e; rw [e] at hlt; simp at hlt)
      rw [← e1] at hp
      obtain ⟨hx, hy⟩ := hcs i hlt
      obtain ⟨x, hxe⟩ : ∃ x, x = l[i].1 := ⟨_, rfl⟩
      obtain ⟨y, hye⟩ : ∃ y, y = l[i].2 := ⟨_, rfl⟩
      have HXY := Lib.hid (show l[i] = (x, y) by rw [hxe, hye])
      rw [← hxe] at hx
      rw [← hye] at hy
      subst hp
      clear hcs e1 e2 e3 hxe hye
      obtain ⟨w3, hw3⟩ : ∃ X : World, X = wr.alloc (.cells #[.int .i64 x, .int .i64 y] 185) := ⟨_, rfl⟩
      have hb3 : Below wr.heap.size wr w3 := by rw [hw3]; exact below1 _ _
      obtain ⟨tb, htb⟩ : ∃ x, x = wr.heap.size := ⟨_, rfl⟩
      have ht0 : w3.cell? ⟨tb, 0, none⟩ = some (.int .i64 x) := by rw [hw3, htb]; simp
      have ht1 : w3.cell? ⟨tb, 1, none⟩ = some (.int .i64 y) := by rw [hw3, htb]; simp
      have HI3 := Lib.hid (show TkI z P l n db i W w3 from by
        obtain ⟨⟨gb, hb, nb, lv, h1, h2⟩, h3, h4, h5⟩ := HI.out
        exact ⟨⟨gb, hb, nb, lv, h1.below hb3, h2⟩, h3.trans (Keeps.of_below hb3), (hb3.block db h4.lt).trans h4, h5⟩)
      have HW3 := Lib.hid (And.intro hw3 htb)
      have HC := Lib.hid (is_c x y w3)
      have hi0 : (0 : Int) ≤ (i : Int) := by omega
      have hil : (i : Int) < (l.length : Int) := by omega
      clear hw3 htb hb3 HI
      go_wp2_with fail
      rw [← HW3.out.1, ← HW3.out.2]
      (with_reducible refine HC.out.mono ?_)
      rintro e w4 ⟨rfl, hb4⟩
      have HI4 := Lib.hid (show ∀ Z, Below w4.heap.size w4 Z → TkI z P l n db i W Z from fun Z hZ => by
        obtain ⟨⟨gb, hb, nb, lv, h1, h2⟩, h3, h4, h5⟩ := HI3.out
        have hb := below_then hb4 hb4.size hZ
        exact ⟨⟨_, _, _, _, h1.below hb, h2⟩, h3.trans (Keeps.of_below hb), (hb.block db h4.lt).trans h4, h5⟩)
      have g0 := below_cell hb4 ht0
      have g1 := below_cell hb4 ht1
      obtain ⟨s1, s2, s3, s4, s5⟩ := (HI4.out w4 (Below.refl _ _)).2.2.1.cells
      have HTI := Lib.hid (play_ls P (l.take i))
      have HLS := Lib.hid (show (playP P (l.take i)).ls.length ≤ 1000000 by
        have h1 := play_ls P (l.take i)
        have h2 := HL.out.2.2
        have h3 : (l.take i).length ≤ l.length := by rw [List.length_take]; omega
        omega)
      clear hb4 ht0 ht1 HI3 HC hx hy
      cases hB : isB x with
      | false =>
        have HR := Lib.hid (show RunQ z (playE P l) (playP P l) n (woe 221) W w4 from by
          obtain ⟨⟨gb, hb, nb, lv, h1, h2⟩, h3, h4, h5⟩ := HI4.out w4 (Below.refl _ _)
          have he : tickE (playP P (l.take i)) l[i] = 221 := by
            have hx : ¬ (1 ≤ x ∧ x ≤ 4) := fun h => by unfold isB at hB; rw [decide_eq_true h.1, decide_eq_true h.2] at hB; cases hB
            rw [HXY.out]
            unfold tickE
            simp only
            rw [if_neg (by omega), if_neg (by omega), if_neg (by omega), if_neg (by omega)]
          have hE := h5.trans (playE_step _ l i hlt)
          rw [he, if_neg (by decide)] at hE
          exact ⟨h3, .inl ⟨by rw [hE]; decide, by rw [hE], h1.any⟩⟩)
        clear hB HTI
        go_wp2
        exact ⟨rfl, HR.out⟩
      | true =>
        have hx : x = 1 ∨ x = 2 ∨ x = 3 ∨ x = 4 := by unfold isB at hB; simp only [Bool.and_eq_true, decide_eq_true_eq] at hB; omega
        clear hB HTI
        rcases hx with rfl | rfl | rfl | rfl
        · have HT := Lib.hid (show Calls Tryz.prog 155 #[.pointer (some ⟨z, 0, none⟩), .int .i64 y] w4.drew fun e w' => (tickE (playP P (l.take i)) l[i] ≠ 0 → e = woe (playE P l) ∧ playE P l ≠ 0 ∧ RunQ z (playE P l) (playP P l) n e W w') ∧ (tickE (playP P (l.take i)) l[i] = 0 → e = .returned (.tuple #[]) ∧ TkI z P l n db (i + 1) W w') from by
            have hI := HI4.out w4.drew (below_drewN (Below.refl _ _) 1)
            obtain ⟨⟨gb, hb, nb, lv, h1, h2⟩, h3, h4, h5⟩ := id hI
            refine (tick_any z _ n gb hb nb lv 1 y 155 w4.drew h1 h2 HLS.out (by simp)).mono fun e w' hq => ?_
            rw [← HXY.out] at hq
            exact tki_next hlt hI h3 ((hq.2.block db h4.lt (h4.apart h1)).trans h4) hq.1)
          clear HI4
          go_wp2_with fail
          by_cases hc : tickE (playP P (l.take i)) l[i] = 0
          · have HTK := Lib.hid (show Calls Tryz.prog 155 #[.pointer (some ⟨z, 0, none⟩), .int .i64 y] w4.drew fun e w' => e = .returned (.tuple #[]) ∧ TkI z P l n db (i + 1) W w' from HT.out.mono fun e w' hq => hq.2 hc)
            clear HT hc
            go_still_tail 7, (by kernel_rfl)
            change wpList _ _ _ _ _ w4.drew
            go_wp2_with fail
            (with_reducible refine HTK.out.mono ?_)
            rintro e w5 ⟨rfl, hI5⟩
            have HI5 := Lib.hid hI5
            clear hI5 HTK
            go_wp2
            go_roundw
            case rel => exact ⟨i + 1, by omega, by go_num, HI5⟩
            case measure => simp [intOf]; omega
          · have HTK := Lib.hid (show Calls Tryz.prog 155 #[.pointer (some ⟨z, 0, none⟩), .int .i64 y] w4.drew fun e w' => e = woe (playE P l) ∧ RunQ z (playE P l) (playP P l) n e W w' from HT.out.mono fun e w' hq => ⟨(hq.1 hc).1, (hq.1 hc).2.2⟩)
            clear HT hc
            go_still_tail 7, (by kernel_rfl)
            change wpList _ _ _ _ _ w4.drew
            go_wp2_with fail
            (with_reducible refine HTK.out.mono ?_)
            rintro e w5 ⟨rfl, hI5⟩
            exact ⟨rfl, hI5⟩
        · have HT := Lib.hid (show Calls Tryz.prog 156 #[.pointer (some ⟨z, 0, none⟩), .int .i64 y] w4.drew fun e w' => (tickE (playP P (l.take i)) l[i] ≠ 0 → e = woe (playE P l) ∧ playE P l ≠ 0 ∧ RunQ z (playE P l) (playP P l) n e W w') ∧ (tickE (playP P (l.take i)) l[i] = 0 → e = .returned (.tuple #[]) ∧ TkI z P l n db (i + 1) W w') from by
            have hI := HI4.out w4.drew (below_drewN (Below.refl _ _) 1)
            obtain ⟨⟨gb, hb, nb, lv, h1, h2⟩, h3, h4, h5⟩ := id hI
            refine (tick_any z _ n gb hb nb lv 2 y 156 w4.drew h1 h2 HLS.out (by simp)).mono fun e w' hq => ?_
            rw [← HXY.out] at hq
            exact tki_next hlt hI h3 ((hq.2.block db h4.lt (h4.apart h1)).trans h4) hq.1)
          clear HI4
          go_wp2_with fail
          by_cases hc : tickE (playP P (l.take i)) l[i] = 0
          · have HTK := Lib.hid (show Calls Tryz.prog 156 #[.pointer (some ⟨z, 0, none⟩), .int .i64 y] w4.drew fun e w' => e = .returned (.tuple #[]) ∧ TkI z P l n db (i + 1) W w' from HT.out.mono fun e w' hq => hq.2 hc)
            clear HT hc
            go_still_tail 7, (by kernel_rfl)
            change wpList _ _ _ _ _ w4.drew
            go_wp2_with fail
            (with_reducible refine HTK.out.mono ?_)
            rintro e w5 ⟨rfl, hI5⟩
            have HI5 := Lib.hid hI5
            clear hI5 HTK
            go_wp2
            go_roundw
            case rel => exact ⟨i + 1, by omega, by go_num, HI5⟩
            case measure => simp [intOf]; omega
          · have HTK := Lib.hid (show Calls Tryz.prog 156 #[.pointer (some ⟨z, 0, none⟩), .int .i64 y] w4.drew fun e w' => e = woe (playE P l) ∧ RunQ z (playE P l) (playP P l) n e W w' from HT.out.mono fun e w' hq => ⟨(hq.1 hc).1, (hq.1 hc).2.2⟩)
            clear HT hc
            go_still_tail 7, (by kernel_rfl)
            change wpList _ _ _ _ _ w4.drew
            go_wp2_with fail
            (with_reducible refine HTK.out.mono ?_)
            rintro e w5 ⟨rfl, hI5⟩
            exact ⟨rfl, hI5⟩
        · have HT := Lib.hid (show Calls Tryz.prog 157 #[.pointer (some ⟨z, 0, none⟩), .int .i64 y] w4.drew fun e w' => (tickE (playP P (l.take i)) l[i] ≠ 0 → e = woe (playE P l) ∧ playE P l ≠ 0 ∧ RunQ z (playE P l) (playP P l) n e W w') ∧ (tickE (playP P (l.take i)) l[i] = 0 → e = .returned (.tuple #[]) ∧ TkI z P l n db (i + 1) W w') from by
            have hI := HI4.out w4.drew (below_drewN (Below.refl _ _) 1)
            obtain ⟨⟨gb, hb, nb, lv, h1, h2⟩, h3, h4, h5⟩ := id hI
            refine (tick_any z _ n gb hb nb lv 3 y 157 w4.drew h1 h2 HLS.out (by simp)).mono fun e w' hq => ?_
            rw [← HXY.out] at hq
            exact tki_next hlt hI h3 ((hq.2.block db h4.lt (h4.apart h1)).trans h4) hq.1)
          clear HI4
          go_wp2_with fail
          by_cases hc : tickE (playP P (l.take i)) l[i] = 0
          · have HTK := Lib.hid (show Calls Tryz.prog 157 #[.pointer (some ⟨z, 0, none⟩), .int .i64 y] w4.drew fun e w' => e = .returned (.tuple #[]) ∧ TkI z P l n db (i + 1) W w' from HT.out.mono fun e w' hq => hq.2 hc)
            clear HT hc
            go_still_tail 7, (by kernel_rfl)
            change wpList _ _ _ _ _ w4.drew
            go_wp2_with fail
            (with_reducible refine HTK.out.mono ?_)
            rintro e w5 ⟨rfl, hI5⟩
            have HI5 := Lib.hid hI5
            clear hI5 HTK
            go_wp2
            go_roundw
            case rel => exact ⟨i + 1, by omega, by go_num, HI5⟩
            case measure => simp [intOf]; omega
          · have HTK := Lib.hid (show Calls Tryz.prog 157 #[.pointer (some ⟨z, 0, none⟩), .int .i64 y] w4.drew fun e w' => e = woe (playE P l) ∧ RunQ z (playE P l) (playP P l) n e W w' from HT.out.mono fun e w' hq => ⟨(hq.1 hc).1, (hq.1 hc).2.2⟩)
            clear HT hc
            go_still_tail 7, (by kernel_rfl)
            change wpList _ _ _ _ _ w4.drew
            go_wp2_with fail
            (with_reducible refine HTK.out.mono ?_)
            rintro e w5 ⟨rfl, hI5⟩
            exact ⟨rfl, hI5⟩
        · have HT := Lib.hid (show Calls Tryz.prog 158 #[.pointer (some ⟨z, 0, none⟩), .int .i64 y] w4.drew fun e w' => (tickE (playP P (l.take i)) l[i] ≠ 0 → e = woe (playE P l) ∧ playE P l ≠ 0 ∧ RunQ z (playE P l) (playP P l) n e W w') ∧ (tickE (playP P (l.take i)) l[i] = 0 → e = .returned (.tuple #[]) ∧ TkI z P l n db (i + 1) W w') from by
            have hI := HI4.out w4.drew (below_drewN (Below.refl _ _) 1)
            obtain ⟨⟨gb, hb, nb, lv, h1, h2⟩, h3, h4, h5⟩ := id hI
            refine (tick_any z _ n gb hb nb lv 4 y 158 w4.drew h1 h2 HLS.out (by simp)).mono fun e w' hq => ?_
            rw [← HXY.out] at hq
            exact tki_next hlt hI h3 ((hq.2.block db h4.lt (h4.apart h1)).trans h4) hq.1)
          clear HI4
          go_wp2_with fail
          by_cases hc : tickE (playP P (l.take i)) l[i] = 0
          · have HTK := Lib.hid (show Calls Tryz.prog 158 #[.pointer (some ⟨z, 0, none⟩), .int .i64 y] w4.drew fun e w' => e = .returned (.tuple #[]) ∧ TkI z P l n db (i + 1) W w' from HT.out.mono fun e w' hq => hq.2 hc)
            clear HT hc
            go_still_tail 7, (by kernel_rfl)
            change wpList _ _ _ _ _ w4.drew
            go_wp2_with fail
            (with_reducible refine HTK.out.mono ?_)
            rintro e w5 ⟨rfl, hI5⟩
            have HI5 := Lib.hid hI5
            clear hI5 HTK
            go_wp2
            go_roundw
            case rel => exact ⟨i + 1, by omega, by go_num, HI5⟩
            case measure => simp [intOf]; omega
          · have HTK := Lib.hid (show Calls Tryz.prog 158 #[.pointer (some ⟨z, 0, none⟩), .int .i64 y] w4.drew fun e w' => e = woe (playE P l) ∧ RunQ z (playE P l) (playP P l) n e W w' from HT.out.mono fun e w' hq => ⟨(hq.1 hc).1, (hq.1 hc).2.2⟩)
            clear HT hc
            go_still_tail 7, (by kernel_rfl)
            change wpList _ _ _ _ _ w4.drew
            go_wp2_with fail
            (with_reducible refine HTK.out.mono ?_)
            rintro e w5 ⟨rfl, hI5⟩
            exact ⟨rfl, hI5⟩
    · obtain rfl : i = l.length := by omega
      have HR := Lib.hid (show RunQ z (playE P l) (playP P l) n (.returned (.tuple #[])) W wr from by
        obtain ⟨⟨gb, hb, nb, lv, h1, h2⟩, h3, h4, h5⟩ := HI.out
        rw [List.drop_length] at h5
        rw [List.take_length] at h1
        exact ⟨h3, .inr ⟨h5, rfl, gb, hb, nb, lv, h1, h2⟩⟩)
      clear HI hlt hi
      go_wp2
      go_end0
      exact HR.out

end Go.Proofs.YtdllhiihmpinoaaGreat
/-
  Package grace: readers that a turn takes; what Play has a turn do.
  Conditions: the ranges of Go's types.
-/
namespace Go.Proofs.YtdllhiihmpinoaaGreat
set_option maxRecDepth 100000
open Go.RowKit Go.Shelf
attribute [local go_sem] Oper.semAt_some

theorem rgs_nil (W : World) : RgsAt W (.slice none 0 0) [] := ⟨_, _, rfl, fun h => absurd rfl h⟩

set_option maxHeartbeats 8000000 in
theorem pread_no (z : Nat) (s : RdS) (u v : Value) (W : World) (hn : NumsAt W .i64 u s.ns) (ho : NumsAt W .i64 v s.os) (h1 : s.ns.length ≤ 9223372036854775807) (h2 : s.os.length ≤ 9223372036854775807) (hr : ∀ x ∈ s.os, I64 x) (hm : mayB s.now s.ns s.os = false) :
    Calls Tryz.prog 115 #[.pointer (some ⟨z, 0, none⟩), .agg #[.int .i64 s.now, u, v]] W fun e w' => e = woe 210 ∧ Below W.heap.size W w' := by
  obtain ⟨w0, hw0⟩ : ∃ X : World, X = W.alloc (.cells #[.int .i64 s.now, u, v] 24) := ⟨_, rfl⟩
  have hb0 : Below W.heap.size W w0 := by rw [hw0]; exact below1 _ _
  have HBX := Lib.hid (show RBox w0 W.heap.size s.now u v ∧ Below W.heap.size W w0 by exact ⟨by rw [hw0]; exact RBox.new _ _ _ _, hb0⟩)
  have HC := Lib.hid (run_no s.now u v (.slice none 0 0) s.ns s.os w0 (nums_below hn hb0) (nums_below ho hb0) h1 h2 hr hm)
  unfold zeroR at HC
  obtain ⟨d0, d1, d2⟩ := HBX.out.1.cells
  obtain ⟨p, c, rfl, -⟩ := hn
  obtain ⟨p2, c2, rfl, -⟩ := ho
  clear hb0 h1 h2 hr hm
  go_enter Tryz.func115, Tryz.ntmps115
  go_wp2_with fail
  rw [← hw0]
  clear hw0
  (with_reducible refine HC.out.mono ?_)
  rintro e w1 ⟨rfl, hb1⟩
  have hx1 := HBX.out.1.below hb1
  have hB1 := below_then HBX.out.2 HBX.out.2.size hb1
  have HB := Lib.hid (hB1.trans ((RBox.putK w1 W.heap.size 0 (.slice none 0 0) (.slice none 0 0)).below hB1.size (fun k e => by omega)))
  obtain ⟨d0, d1, d2⟩ := hx1.cells
  have m0 := hx1.marks 0
  have m1 := hx1.marks 1
  have m2 := hx1.marks 2
  obtain ⟨w2, hw2⟩ : ∃ X : World, X = (((w1.setCell ⟨W.heap.size, 0, none⟩ (.int .i64 0)).setCell ⟨W.heap.size, 1, none⟩ (.slice none 0 0)).setCell ⟨W.heap.size, 2, none⟩ (.slice none 0 0)) := ⟨_, rfl⟩
  rw [← hw2] at HB
  clear hx1 hB1 hb1
  go_wp2_with fail
  rw [← hw2]
  (with_reducible refine (must_no 210 (by decide) w2).mono ?_)
  rintro e w3 ⟨rfl, hww⟩
  rw [hww]
  exact ⟨rfl, rfl, HB.out⟩

set_option maxHeartbeats 8000000 in
theorem pread_ok (z : Nat) (now0 : Int) (u0 v0 : Value) (d a : Int) (on : Bool) (nv lv : Value) (s : RdS) (u v : Value) (W : World) (kb : TBox W z now0 u0 v0 d a on nv lv) (hn : NumsAt W .i64 u s.ns) (ho : NumsAt W .i64 v s.os) (g : Good s) :
    Calls Tryz.prog 115 #[.pointer (some ⟨z, 0, none⟩), .agg #[.int .i64 s.now, u, v]] W fun e w' => e = .returned (.tuple #[]) ∧ ∃ gb hb, TBox w' z s.now (rowV gb s.ns.length) (rowV hb s.ns.length) d a on nv lv ∧ IBlock w' gb s.ns ∧ IBlock w' hb s.os ∧ W.heap.size ≤ gb ∧ W.heap.size ≤ hb ∧ Keeps (fun k => k = z) W w' := by
  obtain ⟨w0, hw0⟩ : ∃ X : World, X = W.alloc (.cells #[.int .i64 s.now, u, v] 24) := ⟨_, rfl⟩
  have hb0 : Below W.heap.size W w0 := by rw [hw0]; exact below1 _ _
  have HBX := Lib.hid (show RBox w0 W.heap.size s.now u v ∧ Below W.heap.size W w0 by exact ⟨by rw [hw0]; exact RBox.new _ _ _ _, hb0⟩)
  have HC := Lib.hid (run_yes s u v (.slice none 0 0) [] w0 (nums_below hn hb0) (nums_below ho hb0) (rgs_nil _) (by simp) g)
  have HKB := Lib.hid kb
  have HLO := Lib.hid g.lo
  obtain ⟨d0, d1, d2⟩ := HBX.out.1.cells
  obtain ⟨p, c, rfl, -⟩ := hn
  obtain ⟨p2, c2, rfl, -⟩ := ho
  clear hb0 g kb
  go_enter Tryz.func115, Tryz.ntmps115
  go_wp2_with fail
  rw [← hw0]
  have HZ0 := Lib.hid (show w0.heap.size = W.heap.size + 1 by rw [hw0]; simp)
  clear hw0
  (with_reducible refine HC.out.mono ?_)
  rintro e w1 ⟨h | ⟨-, gb, hb, hgb, hhb, -, rfl, hI, hJ⟩, hb1⟩
  · obtain ⟨i, hi, -⟩ := h
    simp at hi
  obtain ⟨now, hnow⟩ : ∃ x, x = s.now := ⟨_, rfl⟩
  obtain ⟨n, hn⟩ : ∃ x, x = s.ns.length := ⟨_, rfl⟩
  have hm : n = s.os.length := by rw [hn]; exact HLO.out.symm
  have hr : runS s [] = s := rfl
  rw [hr] at hI hJ
  rw [hr, ← hn, ← hm, ← hnow]
  have hx1 := HBX.out.1.below hb1
  have hB1 := below_then HBX.out.2 HBX.out.2.size hb1
  have hk := RBox.putK w1 W.heap.size now (.slice (some ⟨gb, 0, none⟩) n n) (.slice (some ⟨hb, 0, none⟩) n n)
  have hp := hx1.put now (.slice (some ⟨gb, 0, none⟩) n n) (.slice (some ⟨hb, 0, none⟩) n n)
  have hz : z < W.heap.size := HKB.out.lt
  obtain ⟨w2, hw2⟩ : ∃ X : World, X = (((w1.setCell ⟨W.heap.size, 0, none⟩ (.int .i64 now)).setCell ⟨W.heap.size, 1, none⟩ (.slice (some ⟨gb, 0, none⟩) n n)).setCell ⟨W.heap.size, 2, none⟩ (.slice (some ⟨hb, 0, none⟩) n n)) := ⟨_, rfl⟩
  rw [← hw2] at hk hp
  have HF := Lib.hid (show RBox w2 W.heap.size now (.slice (some ⟨gb, 0, none⟩) n n) (.slice (some ⟨hb, 0, none⟩) n n) ∧ IBlock w2 gb s.ns ∧ IBlock w2 hb s.os ∧ Below W.heap.size W w2 ∧ TBox w2 z now0 u0 v0 d a on nv lv ∧ W.heap.size < gb ∧ W.heap.size < hb ∧ z < W.heap.size from by
    have h1 := HZ0.out
    refine ⟨hp, hI.keeps hk (by omega), hJ.keeps hk (by omega), hB1.trans (hk.below hB1.size (fun k e => by omega)), (HKB.out.below hB1).keeps hk (by omega), by omega, by omega, hz⟩)
  obtain ⟨d0, d1, d2⟩ := hx1.cells
  have m0 := hx1.marks 0
  have m1 := hx1.marks 1
  have m2 := hx1.marks 2
  have HW2 := Lib.hid hw2
  have HNN := Lib.hid (And.intro hnow hn)
  clear hx1 hB1 hk hp hI hJ hgb hhb hb1 hw2 hr hm hn hnow hz HC
  go_wp2_with fail
  rw [← HW2.out]
  (with_reducible refine (must_ok w2).mono ?_)
  rintro e w2' ⟨rfl, hww⟩
  rw [hww]
  clear hww d0 d1 d2 m0 m1 m2
  obtain ⟨d0, d1, d2⟩ := HF.out.1.cells
  obtain ⟨e0, e1, e2, e3, e4, e5, e6, e7⟩ := HF.out.2.2.2.2.1.cells
  have m0 := HF.out.2.2.2.2.1.marks 0
  have m1 := HF.out.2.2.2.2.1.marks 1
  have m2 := HF.out.2.2.2.2.1.marks 2
  have HP := Lib.hid (HF.out.2.2.2.2.1.putR now (.slice (some ⟨gb, 0, none⟩) n n) (.slice (some ⟨hb, 0, none⟩) n n))
  have HK := Lib.hid (putRK w2 z now (.slice (some ⟨gb, 0, none⟩) n n) (.slice (some ⟨hb, 0, none⟩) n n))
  go_wp2
  go_end0
  obtain ⟨-, h2, h3, h4, -, h6, h7, h8⟩ := HF.out
  refine ⟨rfl, gb, hb, ?_, h2.keeps HK.out (by omega), h3.keeps HK.out (by omega), Nat.le_of_lt h6, Nat.le_of_lt h7, (Keeps.of_below h4).trans HK.out⟩
  rw [← HNN.out.1, ← HNN.out.2]
  exact HP.out

/-- The error of Play. -/
def allE (s : RdS) (g : GrS) (l : List (Int × Int)) : Int := if mayB s.now s.ns s.os = false then 210 else if mayG g = false then 220 else if s.ns.length ≠ g.nd.length then 220 else playE ⟨s, g, []⟩ l
/-- What Play has a turn do. -/
def AllQ (z : Nat) (E : Int) (P' : PlS) (e : Ending) (W w' : World) : Prop :=
  Keeps (fun k => k = z ∨ z + 2 ≤ k) W w' ∧ ((E ≠ 0 ∧ e = woe E ∧ TAny w' z) ∨ (E = 0 ∧ e = .returned (.tuple #[]) ∧ ∃ n gb hb nb lv, PlAt w' z (z + 2) P' n gb hb nb lv ∧ z + 2 ≤ nb))

set_option maxHeartbeats 16000000 in
theorem play1_c (z rb gb lb : Nat) (s : RdS) (u v : Value) (g : GrS) (nv tv : Value) (l : List (Int × Int)) (W : World) (kb : TBox W z 0 nilV nilV 0 0 false nilV nilV) (hz2 : z + 2 = W.heap.size)
    (hrb : RBox W rb s.now u v) (hgb : GBox W gb g.done g.asked g.on nv) (hlb : Boxed W lb 157 tv) (hrz : rb < z) (hgz : gb < z) (hlz : lb < z)
    (hn : NumsAt W .i64 u s.ns) (ho : NumsAt W .i64 v s.os) (h1 : s.ns.length ≤ 9223372036854775807) (h2 : s.os.length ≤ 9223372036854775807) (hr : ∀ x ∈ s.os, I64 x)
    (hv : BoolsAt W nv g.nd) (h3 : g.nd.length ≤ 9223372036854775807) (hl : TksAt W tv l) (hz : ∀ b off n c, tv = .slice (some ⟨b, off, none⟩) n c → l ≠ [] → b < z) (hzv : ∀ b off n c, nv = .slice (some ⟨b, off, none⟩) n c → b < z) (hls : l.length ≤ 1000000) :
    Calls Tryz.prog 114 #[.pointer (some ⟨z, 0, none⟩), .pointer (some ⟨rb, 0, none⟩), .pointer (some ⟨gb, 0, none⟩), .pointer (some ⟨lb, 0, none⟩)] W fun e w' => AllQ z (allE s g l) (playP ⟨s, g, []⟩ l) e W w' := by
  obtain ⟨d0, d1, d2⟩ := hrb.cells
  have HKB := Lib.hid kb
  have HZ := Lib.hid (show rb < z ∧ gb < z ∧ lb < z ∧ z + 2 = W.heap.size from ⟨hrz, hgz, hlz, hz2⟩)
  have HBX := Lib.hid (show GBox W gb g.done g.asked g.on nv ∧ Boxed W lb 157 tv from ⟨hgb, hlb⟩)
  have HTK := Lib.hid (And.intro hl (And.intro hz hls))
  have HNV := Lib.hid (And.intro hv (And.intro h3 hzv))
  cases hm : mayB s.now s.ns s.os with
  | false =>
    have HC := Lib.hid (pread_no z s u v W hn ho h1 h2 hr hm)
    have HE := Lib.hid (show allE s g l = 210 by unfold allE; rw [if_pos hm])
    obtain ⟨p, c, rfl, -⟩ := hn
    obtain ⟨p2, c2, rfl, -⟩ := ho
    clear hm h1 h2 hr hv hl hz hzv kb hz2 hrz hgz hlz hgb hlb hrb h3 hls
    go_enter Tryz.func114, Tryz.ntmps114
    go_wp2_with fail
    (with_reducible refine HC.out.mono ?_)
    rintro e w1 ⟨rfl, hb1⟩
    exact ⟨rfl, Keeps.of_below hb1, .inl ⟨by rw [HE.out]; decide, by rw [HE.out]; rfl, TAny.keeps ⟨_, _, _, _, _, _, _, _, HKB.out, nil_sl, nil_sl, nil_sl, nil_sl⟩ (keepsB (z := z + 1) hb1) (by omega)⟩⟩
  | true =>
    have hgood := (good_iff s).1 hm
    have HGD := Lib.hid (And.intro hgood hm)
    have HC := Lib.hid (pread_ok z 0 nilV nilV 0 0 false nilV nilV s u v W kb hn ho hgood)
    obtain ⟨p, c, rfl, -⟩ := hn
    obtain ⟨p2, c2, rfl, -⟩ := ho
    obtain ⟨pn, cn, rfl, -⟩ := id hv
    obtain ⟨tp, tc, rfl, -⟩ := id hl
    clear hm h1 h2 hr hv hl hz hzv kb hz2 hrz hgz hlz hgb hlb hrb h3 hls hgood
    go_enter Tryz.func114, Tryz.ntmps114
    go_wp2_with fail
    (with_reducible refine HC.out.mono ?_)
    rintro e w1 ⟨rfl, b1, b2, hT, hI, hJ, hg1, hg2, hk⟩
    have hgz : GBox w1 gb g.done g.asked g.on (.slice pn g.nd.length cn) := HBX.out.1.keeps hk (by have := HZ.out; omega)
    have hlz : Boxed w1 lb 157 (.slice tp l.length tc) := (hk.block lb HBX.out.2.lt (by have := HZ.out; omega)).trans HBX.out.2
    have HV1 := Lib.hid (show BoolsAt w1 (.slice pn g.nd.length cn) g.nd from by
      obtain ⟨q, cap, e, hc⟩ := HNV.out.1
      injection e with e1 e2 e3
      subst e1 e3
      refine ⟨_, _, rfl, fun hne => ?_⟩
      obtain ⟨b, off, rfl, hcs⟩ := hc hne
      have := HNV.out.2.2 b off _ _ rfl
      exact ⟨b, off, rfl, fun i hi => hk.cell (hcs i hi) (by show ¬ b = z; omega)⟩)
    have HT1 := Lib.hid (show TBox w1 z s.now (rowV b1 s.ns.length) (rowV b2 s.ns.length) 0 0 false nilV nilV ∧ IBlock w1 b1 s.ns ∧ IBlock w1 b2 s.os ∧ W.heap.size ≤ b1 ∧ W.heap.size ≤ b2 ∧ Keeps (fun k => k = z) W w1 ∧ Boxed w1 lb 157 (.slice tp l.length tc) from ⟨hT, hI, hJ, hg1, hg2, hk, hlz⟩)
    obtain ⟨e0, e1, e2, e3⟩ := hgz.cells
    clear hT hI hJ hg1 hg2 hk hlz hgz HC d0 d1 d2
    cases hmg : mayG g with
    | false =>
      have HC := Lib.hid (ghold_no z g _ w1 HV1.out HNV.out.2.1 hmg)
      have HE := Lib.hid (show allE s g l = 220 by unfold allE; rw [if_neg (by rw [HGD.out.2]; decide), if_pos hmg])
      clear hmg
      go_wp2_with fail
      (with_reducible refine HC.out.mono ?_)
      rintro e w2 ⟨rfl, hb2⟩
      exact ⟨rfl, (HT1.out.2.2.2.2.2.1.sub (fun k _ e => .inl e)).trans (Keeps.of_below hb2), .inl ⟨by rw [HE.out]; decide, by rw [HE.out]; rfl, TAny.keeps ⟨_, _, _, _, _, _, _, _, HT1.out.1, rowV_sl _ _, rowV_sl _ _, nil_sl, nil_sl⟩ (keepsB (z := z + 1) hb2) (by omega)⟩⟩
    | true =>
      have HMG := Lib.hid hmg
      have HC := Lib.hid (ghold_ok z (z + 2) s.now (rowV b1 s.ns.length) (rowV b2 s.ns.length) 0 0 false nilV nilV [] g _ w1 HV1.out (mayG_facts hmg).2.1 hmg HT1.out.1 (World.ownsRow_nil _ _ _ _))
      clear hmg
      go_wp2_with fail
      (with_reducible refine HC.out.mono ?_)
      rintro e w2 ⟨rfl, nb, k2, hk2, hnb⟩
      have HT2 := Lib.hid (show TuAt w2 z (z + 2) s.now (rowV b1 s.ns.length) (rowV b2 s.ns.length) g g.nd.length nb nilV [] ∧ IBlock w2 b1 s.ns ∧ IBlock w2 b2 s.os ∧ W.heap.size ≤ nb ∧ Keeps (fun k => k = z ∨ z + 2 ≤ k) W w2 ∧ Boxed w2 lb 157 (.slice tp l.length tc) ∧ z + 2 ≤ w2.heap.size from by
        obtain ⟨g1, g2, g3, g4, g5, g6, g7⟩ := HT1.out
        have hz := HZ.out
        refine ⟨k2, g2.keeps hk2 (by omega), g3.keeps hk2 (by omega), Nat.le_trans g6.size hnb, (g6.trans hk2).sub (fun k _ e => .inl e), (hk2.block lb g7.lt (by omega)).trans g7, ?_⟩
        have := g6.size
        have := hk2.size
        omega)
      obtain ⟨d0, d1, d2, d3, d4, d5, d6, d7⟩ := k2.box.cells
      unfold rowV at d1 d2
      clear k2 hk2 hnb HC e0 e1 e2 e3
      by_cases hlen : s.ns.length = g.nd.length
      · have hq : ((s.ns.length : Int) != (g.nd.length : Int)) = false := by rw [bne_eq_false_iff_eq]; omega
        have HE := Lib.hid (show allE s g l = playE ⟨s, g, []⟩ l by unfold allE; rw [if_neg (by rw [HGD.out.2]; decide), if_neg (by rw [HMG.out]; decide), if_neg (fun h => h hlen)])
        have HP2 := Lib.hid (show ∀ Z, Below w2.heap.size w2 Z → PlAt Z z (z + 2) ⟨s, g, []⟩ g.nd.length b1 b2 nb nilV from fun Z hZ => by
          obtain ⟨g1, g2, g3, g4, g5, g6, g7⟩ := HT2.out
          have g1' := g1.below hZ
          rw [hlen] at g1'
          exact ⟨g1', g2.below hZ, g3.below hZ, ⟨HGD.out.1, (goodG_iff g).1 HMG.out, hlen⟩, fun q hq => by (cases hq), Nat.le_trans g7 hZ.size⟩)
        have el := HT2.out.2.2.2.2.2.1.cell
        clear hlen
        go_wp2
        go_quiet (fail)
        rename_i nq
        have HC := Lib.hid (ticks_c z ⟨s, g, []⟩ g.nd.length b1 b2 nb nilV (.slice tp l.length tc) l (w2.drewN nq) (HP2.out _ (below_drewN (Below.refl _ _) nq)) (by have := HT2.out.2.2.2.1; have := HZ.out; omega)
          ((HTK.out.1.keeps HT2.out.2.2.2.2.1 (fun q h => by omega) HTK.out.2.1).below (below_drewN (Below.refl _ _) nq)) HTK.out.2.1 (by have := HTK.out.2.2; simp only [List.length_nil]; omega))
        go_wp2_with fail
        (with_reducible refine HC.out.mono ?_)
        rintro e w3 ⟨hk3, h | ⟨h1, rfl, c1, c2, c3, lv, h2, h3⟩⟩
        · obtain ⟨hne, rfl, hany⟩ := h
          exact ⟨rfl, (HT2.out.2.2.2.2.1.drewN nq).trans hk3, .inl ⟨by rw [HE.out]; exact hne, by rw [HE.out]; rfl, hany⟩⟩
        · have HR := Lib.hid (show AllQ z (allE s g l) (playP ⟨s, g, []⟩ l) (.returned (.tuple #[])) W w3 from ⟨(HT2.out.2.2.2.2.1.drewN nq).trans hk3, .inr ⟨by rw [HE.out]; exact h1, rfl, _, _, _, _, _, h2, h3⟩⟩)
          clear h2 h3 h1 hk3
          go_wp2
          go_end0
          exact HR.out
      · have hq : ((s.ns.length : Int) != (g.nd.length : Int)) = true := by rw [bne_iff_ne]; omega
        have HE := Lib.hid (show allE s g l = 220 by unfold allE; rw [if_neg (by rw [HGD.out.2]; decide), if_neg (by rw [HMG.out]; decide), if_pos hlen])
        clear hlen
        go_wp2
        go_quiet (fail)
        rename_i nq
        go_wp2
        exact ⟨rfl, HT2.out.2.2.2.2.1.drewN nq, .inl ⟨by rw [HE.out]; decide, by rw [HE.out]; rfl, (HT2.out.1.any (rowV_sl _ _) (rowV_sl _ _)).keeps (S := fun _ => False) ((Keeps.refl _ _).drewN nq) id⟩⟩

end Go.Proofs.YtdllhiihmpinoaaGreat
/-
  A region that draws its order, loads cells, and at its end writes over them: what holds throughout (T), and what holds till the first of its last operations (S).
  Conditions: each of the last operations waits for each load of a cell that they write over.
-/
namespace Go.Proofs.YtdllhiihmpinoaaGreat
open Go

section
variable {P : Program} {ops : Array Oper} {Q : Exit → Act → World → Prop} {md : Region.Mode} {T S : World → Prop} {late : Nat → Bool}

/-- Behind operation i, which was carried out in the world w. -/
def Kept (T S : World → Prop) (late : Nat → Bool) (i : Nat) (w w' : World) : Prop := T w' ∧ (late i = false → S w → S w')
/-- Whatever is picked from here on; behind each operation its word is kept. -/
def wpTwo (P : Program) (md : Region.Mode) (ops : Array Oper) (Q : Exit → Act → World → Prop) (T S : World → Prop) (late : Nat → Bool) : Nat → Array Bool → Act → World → Prop
  | 0, did, a, w => Region.ready md ops did = [] ∧ Q .normal a w
  | n + 1, did, a, w => (Region.ready md ops did = [] → Q .normal a w) ∧
      ∀ i ∈ Region.ready md ops did, wpOp P ops Q i (fun a' w' => Kept T S late i w w' ∧ wpTwo P md ops Q T S late n (did.setIfInBounds i true) a' w') a w
theorem wpTwo_any : ∀ (n : Nat) (did : Array Bool) (a : Act) (w : World), wpTwo P md ops Q T S late n did a w → wpAny P md ops Q n did a w
  | 0, _, _, _, h => h
  | n + 1, _, _, _, h => ⟨h.1, fun i hi => wpOp_mono (fun _ _ hx => wpTwo_any n _ _ _ hx.2) (h.2 i hi)⟩
theorem wpTwo_begin {id : Nat} {a : Act} {w : World} (hm : P.follows .mixedOrders = true) (h : wpTwo P .any ops Q T S late ops.size (Array.replicate ops.size false) a w.drew) : (Code.region id ops true).wp P Q a w :=
  wp_region_any hm (wpTwo_any _ _ _ _ h)
theorem wpTwo_end {did : Array Bool} {a : Act} {w : World} (hr : Region.ready md ops did = []) (h : Q .normal a w) : ∀ n, wpTwo P md ops Q T S late n did a w
  | 0 => ⟨hr, h⟩
  | _ + 1 => ⟨fun _ => h, fun i hi => by rw [hr] at hi; cases hi⟩

/-- An operation that is ready, and yields v in each world that meets R, may be the next: if R is kept by each one that does not wait for it. -/
theorem wpTwo_next {R : World → Prop} {i : Nat} {oi : Oper} {v : Value} (hi : ops[i]? = some oi) (hs : Region.noSelect ops = true)
    (hQ : ∀ c a w, Q (.panic c) (a.put oi.dst v) w → Q (.panic c) a w) (hT : ∀ w, R w → T w)
    (hR : ∀ j oj, ops[j]? = some oj → (∀ e ∈ oj.after, Region.binds md e = true → e.on ≠ i) → ∀ w w', R w → Kept T S late j w w' → R w') (n : Nat) :
    ∀ (did : Array Bool) (a : Act) (w : World), (∀ j oj, ops[j]? = some oj → j ≠ i → did.getD j true = false → (∀ e ∈ oj.after, Region.binds md e = true → e.on ≠ i) → oi.apart ops oj = true) →
      i ∈ Region.ready md ops did → YieldsIf P ops R oi v a → R w → wpTwo P md ops Q T S late n (did.setIfInBounds i true) (a.put oi.dst v) w → wpTwo P md ops Q T S late (n + 1) did a w := by
  have hsel := Region.noSelect_spec hs
  -- the operation itself, where it is picked
  have self : ∀ (n : Nat) (did : Array Bool) (a : Act) (w : World), YieldsIf P ops R oi v a → R w → wpTwo P md ops Q T S late n (did.setIfInBounds i true) (a.put oi.dst v) w →
      wpOp P ops Q i (fun a' w' => Kept T S late i w w' ∧ wpTwo P md ops Q T S late n (did.setIfInBounds i true) a' w') a w :=
    fun _ _ _ w hy hw h => hy.wpOp hi hw ⟨⟨hT w hw, fun _ => id⟩, h⟩
  induction n with
  | zero =>
    intro did a w _ hr hy hw h
    refine ⟨fun e => (List.ne_nil_of_mem hr e).elim, fun j hj => ?_⟩
    by_cases e : j = i
    · subst e; exact self _ _ _ _ hy hw h
    · have := ready_mono hj e
      rw [h.1] at this
      cases this
  | succ n ih =>
    intro did a w hfree hr hy hw h
    refine ⟨fun e => (List.ne_nil_of_mem hr e).elim, fun j hj => ?_⟩
    by_cases e : j = i
    · subst e; exact self _ _ _ _ hy hw h
    · obtain ⟨hun, oj, hoj, hall⟩ := mem_ready.1 hj
      have hiun := (mem_ready.1 hr).1
      have hno : ∀ x ∈ oj.after, Region.binds md x = true → x.on ≠ i := fun x hx hb hxi => by
        have h1 := hall x hx hb
        rw [hxi, getD_both hiun] at h1
        cases h1
      refine wpOp_mono (fun a' w' hx => ⟨hx.2.1, ih (did.setIfInBounds j true) a' w' (fun k ok hk hki hkun hkno => hfree k ok hk hki (by
        by_cases hjk : j = k
        · subst hjk; exact hun
        · rwa [getD_set_ne true hjk] at hkun) hkno) (ready_mono hr (Ne.symm e)) hx.1 (hR j oj hoj hno w w' hw hx.2.1) ?_⟩) (wpOp_putIf hoj (hfree j oj hoj e hun hno) (fun cs b => hsel i oi cs b hi) (fun cs b => hsel j oj cs b hoj) hQ hy (h.2 j (ready_mono hj e)))
      rw [Array.setIfInBounds_comm _ _ e]
      exact hx.2.2

/-- Taken by what holds throughout. -/
theorem wpTwo_takeT {i : Nat} {oi : Oper} {v : Value} {n : Nat} {did : Array Bool} {a : Act} {w : World} (hi : ops[i]? = some oi) (hs : Region.noSelect ops = true) (hf : Region.free md ops did i = true)
    (hr : (Region.ready md ops did).contains i = true) (hQ : ∀ c a w, Q (.panic c) (a.put oi.dst v) w → Q (.panic c) a w)
    (hy : Region.wanted oi (yielded ops a.tmps) = true ∧ ∀ w, T w → (execOp a.eval oi).run P w = .ok (.value v) w) (hw : T w)
    (h : wpTwo P md ops Q T S late n (did.setIfInBounds i true) (a.put oi.dst v) w) : wpTwo P md ops Q T S late (n + 1) did a w :=
  wpTwo_next (R := T) hi hs hQ (fun _ h => h) (fun _ _ _ _ _ _ _ hk => hk.1) n did a w (Region.free_spec hi hf) (by simpa using hr) (.inl hy) hw h
/-- Taken by what holds till the last ones begin: they wait for it. -/
theorem wpTwo_takeS {i : Nat} {oi : Oper} {v : Value} {n : Nat} {did : Array Bool} {a : Act} {w : World} (hl : ∀ j, late j = true → Region.waitsFor md ops j i = true) (hi : ops[i]? = some oi) (hs : Region.noSelect ops = true) (hf : Region.free md ops did i = true)
    (hr : (Region.ready md ops did).contains i = true) (hQ : ∀ c a w, Q (.panic c) (a.put oi.dst v) w → Q (.panic c) a w)
    (hy : Region.wanted oi (yielded ops a.tmps) = true ∧ ∀ w, T w ∧ S w → (execOp a.eval oi).run P w = .ok (.value v) w) (hw : T w ∧ S w)
    (h : wpTwo P md ops Q T S late n (did.setIfInBounds i true) (a.put oi.dst v) w) : wpTwo P md ops Q T S late (n + 1) did a w :=
  wpTwo_next (R := fun w => T w ∧ S w) hi hs hQ (fun _ h => h.1) (fun j oj hoj hno w w' hR hk => ⟨hk.1, hk.2 (by
    cases hlj : late j with
    | false => rfl
    | true =>
      obtain ⟨o', ho', e, he, hb, hei⟩ := Region.waitsFor_spec (hl j hlj)
      rw [hoj] at ho'
      cases ho'
      exact (hno e he hb hei).elim) hR.2⟩) n did a w (Region.free_spec hi hf) (by simpa using hr) (.inl hy) hw h

theorem waits_all {l : List Nat} {i : Nat} (h : (l.all fun j => Region.waitsFor md ops j i) = true) : ∀ j, (l.contains j) = true → Region.waitsFor md ops j i = true := fun j hj =>
  List.all_eq_true.1 h j (by simpa using hj)
/-- Each of the operations rs comes up next. -/
def AllTwo (P : Program) (md : Region.Mode) (ops : Array Oper) (Q : Exit → Act → World → Prop) (T S : World → Prop) (late : Nat → Bool) (n : Nat) (did : Array Bool) (a : Act) (w : World) (rs : List Nat) : Prop :=
  ∀ i ∈ rs, wpOp P ops Q i (fun a' w' => Kept T S late i w w' ∧ wpTwo P md ops Q T S late n (did.setIfInBounds i true) a' w') a w
theorem wpTwo_ready {rs : List Nat} {n : Nat} {did : Array Bool} {a : Act} {w : World} (hr : Region.ready md ops did = rs) (hne : rs ≠ []) (h : AllTwo P md ops Q T S late n did a w rs) : wpTwo P md ops Q T S late (n + 1) did a w :=
  ⟨fun e => (hne (hr ▸ e)).elim, hr ▸ h⟩
theorem AllTwo.nil {n : Nat} {did : Array Bool} {a : Act} {w : World} : AllTwo P md ops Q T S late n did a w [] := fun _ h => by cases h
theorem AllTwo.cons {n : Nat} {did : Array Bool} {a : Act} {w : World} {i : Nat} {o : Oper} {rs : List Nat} (ho : ops[i]? = some o)
    (h : ∀ K : Act → World → Prop, Shut (∀ a' w', Kept T S late i w w' → wpTwo P md ops Q T S late n (did.setIfInBounds i true) a' w' → K a' w') → if Region.wanted o (yielded ops a.tmps) = true then Oper.wp P o a w K Q else K (a.put o.dst undef) w)
    (hs : AllTwo P md ops Q T S late n did a w rs) : AllTwo P md ops Q T S late n did a w (i :: rs) := fun j hj => by
  rcases List.mem_cons.1 hj with rfl | hj
  · exact wpOp_step ho fun K hK => h K fun a' w' h1 h2 => hK a' w' ⟨h1, h2⟩
  · exact hs j hj
end

end Go.Proofs.YtdllhiihmpinoaaGreat
namespace Go.Proofs.YtdllhiihmpinoaaGreat.U
set_option maxRecDepth 100000
open Go.RowKit Go.Shelf
attribute [local go_sem] Oper.semAt_some

theorem ret_b {b c : Bool} (h : b = c) : Ending.returned (.bool b) = Ending.returned (.bool c) := by rw [h]
theorem below1 (W : World) (o1 : Obj) : Below W.heap.size W (W.alloc o1) := (Below.refl _ _).alloc (Nat.le_refl _) _
theorem below2 (W : World) (o1 o2 : Obj) : Below W.heap.size W ((W.alloc o1).alloc o2) := (below1 W o1).alloc (by simp) _
theorem below3 (W : World) (o1 o2 o3 : Obj) : Below W.heap.size W (((W.alloc o1).alloc o2).alloc o3) := (below2 W o1 o2).alloc (by simp; omega) _
theorem below4 (W : World) (o1 o2 o3 o4 : Obj) : Below W.heap.size W ((((W.alloc o1).alloc o2).alloc o3).alloc o4) := (below3 W o1 o2 o3).alloc (by simp; omega) _
theorem owns_slice {B : Nat} {E : TypeId} {W : World} {v : Value} {s n : Nat} {xs : List Value} (h : W.ownsRow B E s v n xs) : ∃ p c, v = .slice p n c := by
  rcases h.2 with ⟨rfl, h0⟩ | ⟨g, cap, cur, rfl, _⟩
  · exact ⟨none, 0, by rw [h0]⟩
  · exact ⟨_, _, rfl⟩
theorem boxed_under {W W' : World} {B : Nat} {t : TypeId} {v : Value} (h : Boxed W B t v) (hb : Below W.heap.size W W') : Boxed W' B t v := (hb.block B h.lt).trans h

/-- The cells of a row of callbacks. -/
def cvs : List (Int × Int) → List Value
  | [] => []
  | c :: l => .int .u64 c.1 :: .int .u64 c.2 :: cvs l
theorem cvs_len : ∀ l : List (Int × Int), (cvs l).length = l.length * 2
  | [] => rfl
  | c :: l => by simp only [cvs, List.length_cons, cvs_len l]; omega
theorem cvs_append : ∀ l m : List (Int × Int), cvs (l ++ m) = cvs l ++ cvs m
  | [], _ => rfl
  | c :: l, m => by simp only [List.cons_append, cvs, cvs_append l m]
theorem cvs_take : ∀ (l : List (Int × Int)) (n : Nat), cvs (l.take n) = (cvs l).take (n * 2)
  | [], n => by simp [cvs]
  | c :: l, 0 => by simp [cvs]
  | c :: l, n + 1 => by rw [show (n + 1) * 2 = n * 2 + 1 + 1 by omega]; simp only [List.take_succ_cons, cvs, cvs_take l n]
theorem cvs_get : ∀ (l : List (Int × Int)) (i : Nat) (h : i < l.length), (cvs l)[i * 2]? = some (.int .u64 l[i].1) ∧ (cvs l)[i * 2 + 1]? = some (.int .u64 l[i].2)
  | c :: l, 0, h => ⟨rfl, rfl⟩
  | c :: l, i + 1, h => by
    have := cvs_get l i (by simpa using h)
    rw [show (i + 1) * 2 = i * 2 + 1 + 1 by omega]
    simpa [cvs] using this
theorem cvs_one : ∀ (l : List (Int × Int)), ∀ u ∈ cvs l, u.oneCell' = true
  | [], u, h => by cases h
  | c :: l, u, h => by
    rcases List.mem_cons.1 h with rfl | h
    · rfl
    · rcases List.mem_cons.1 h with rfl | h
      · rfl
      · exact cvs_one l u h

/-- A row of callbacks lies there, outside of S. -/
def CbOut (S : Nat → Prop) (W : World) (v : Value) (l : List (Int × Int)) : Prop := ∃ p cap, v = .slice p l.length cap ∧ l.length ≤ cap ∧ cap ≤ 9223372036854775807 ∧
  (l ≠ [] → ∃ b off, p = some ⟨b, off, none⟩ ∧ ¬ S b ∧ ∀ i (h : i < l.length), W.cell? ⟨b, off + i * 2, none⟩ = some (.int .u64 l[i].1) ∧ W.cell? ⟨b, off + i * 2 + 1, none⟩ = some (.int .u64 l[i].2))
def NoS : Nat → Prop := fun _ => False
theorem CbOut.below {S : Nat → Prop} {W W' : World} {v : Value} {l : List (Int × Int)} (h : CbOut S W v l) (hb : Below W.heap.size W W') : CbOut S W' v l := by
  obtain ⟨p, cap, rfl, h1, h2, hc⟩ := h
  refine ⟨p, cap, rfl, h1, h2, fun hne => ?_⟩
  obtain ⟨b, off, rfl, hS, hcs⟩ := hc hne
  exact ⟨b, off, rfl, hS, fun i hi => ⟨below_cell hb (hcs i hi).1, below_cell hb (hcs i hi).2⟩⟩
theorem CbOut.keeps {S : Nat → Prop} {W W' : World} {v : Value} {l : List (Int × Int)} (h : CbOut S W v l) (hk : Keeps S W W') : CbOut S W' v l := by
  obtain ⟨p, cap, rfl, h1, h2, hc⟩ := h
  refine ⟨p, cap, rfl, h1, h2, fun hne => ?_⟩
  obtain ⟨b, off, rfl, hS, hcs⟩ := hc hne
  exact ⟨b, off, rfl, hS, fun i hi => ⟨hk.cell (hcs i hi).1 hS, hk.cell (hcs i hi).2 hS⟩⟩
theorem CbOut.sub {S T : Nat → Prop} {W : World} {v : Value} {l : List (Int × Int)} (h : CbOut S W v l) (hST : ∀ q, T q → S q) : CbOut T W v l := by
  obtain ⟨p, cap, rfl, h1, h2, hc⟩ := h
  refine ⟨p, cap, rfl, h1, h2, fun hne => ?_⟩
  obtain ⟨b, off, rfl, hS, hcs⟩ := hc hne
  exact ⟨b, off, rfl, fun h => hS (hST b h), hcs⟩
/-- New blocks lie apart from it. -/
theorem CbOut.apart {S T : Nat → Prop} {W : World} {v : Value} {l : List (Int × Int)} (h : CbOut S W v l) (hT : ∀ q, T q → S q ∨ W.heap.size ≤ q) : CbOut T W v l := by
  obtain ⟨p, cap, rfl, h1, h2, hc⟩ := h
  refine ⟨p, cap, rfl, h1, h2, fun hne => ?_⟩
  obtain ⟨b, off, rfl, hS, hcs⟩ := hc hne
  have hlt := World.block_lt_of_cell? W _ (hcs 0 (List.length_pos_iff.2 hne)).1
  have hlt' : b < W.heap.size := hlt
  exact ⟨b, off, rfl, fun h => by rcases hT b h with h | h; exact hS h; omega, hcs⟩
/-- The first ones of it. -/
theorem CbOut.take {S : Nat → Prop} {W : World} {p : Option Addr} {n c : Nat} {l : List (Int × Int)} (h : CbOut S W (.slice p n c) l) (k : Nat) (hk : k ≤ n) : CbOut S W (.slice p k c) (l.take k) := by
  obtain ⟨p', cap, e, h1, h2, hc⟩ := h
  injection e with e1 e2 e3
  subst e1 e2 e3
  have hl : (l.take k).length = k := by rw [List.length_take]; omega
  refine ⟨p, c, by rw [hl], by omega, h2, fun hne => ?_⟩
  obtain ⟨b, off, rfl, hS, hcs⟩ := hc (by rintro rfl; simp at hne)
  exact ⟨b, off, rfl, hS, fun i hi => by rw [List.getElem_take]; exact hcs i (by rw [hl] at hi; omega)⟩
theorem CbOut.len {S : Nat → Prop} {W : World} {p : Option Addr} {n c : Nat} {l : List (Int × Int)} (h : CbOut S W (.slice p n c) l) : n = l.length ∧ n ≤ c ∧ c ≤ 9223372036854775807 := by
  obtain ⟨p', cap, e, h1, h2, hc⟩ := h
  injection e with e1 e2 e3
  subst e1 e2 e3
  exact ⟨rfl, h1, h2⟩
theorem cb_of_owns {B : Nat} {E : TypeId} {W : World} {v : Value} {l : List (Int × Int)} {n : Nat} (h : W.ownsRow B E 2 v n (cvs l)) : CbOut (fun q => q < B) W v l := by
  have hl := h.1
  rw [cvs_len] at hl
  obtain rfl : n = l.length := by omega
  rcases h.2 with ⟨rfl, h0⟩ | ⟨g, cap, cur, rfl, hB, hg, hcp, hmx, _⟩
  · obtain rfl : l = [] := List.eq_nil_of_length_eq_zero h0
    exact ⟨none, 0, rfl, by simp, by omega, fun h => absurd rfl h⟩
  · refine ⟨_, _, rfl, hcp, by unfold maxLen at hmx; omega, fun _ => ⟨g, 0, rfl, by omega, fun i hi => ?_⟩⟩
    have h1 := h.cellAt (i * 2) (by omega)
    have h2 := h.cellAt (i * 2 + 1) (by omega)
    rw [(cvs_get l i hi).1] at h1
    rw [(cvs_get l i hi).2] at h2
    rw [Nat.zero_add]
    exact ⟨by simpa using h1, by simpa using h2⟩

/-- What box a queue lies in; a callback. -/
def QBox (W : World) (z : Nat) (v : Value) (over : Int) : Prop := W.heap[z]? = some (.cells #[v, .int .u64 over] 66 (0, 0))
theorem QBox.cells {W : World} {z : Nat} {v : Value} {o : Int} (h : QBox W z v o) : W.cell? ⟨z, 0, none⟩ = some v ∧ W.cell? ⟨z, 1, none⟩ = some (.int .u64 o) := by
  have h' : W.heap[z]? = _ := h
  simp [World.cell?, h']
theorem QBox.marks {W : World} {z : Nat} {v : Value} {o : Int} (h : QBox W z v o) (i : Nat) : W.frozen? ⟨z, i, none⟩ = false := by
  have h' : W.heap[z]? = _ := h
  simp [World.frozen?, h']
theorem QBox.lt {W : World} {z : Nat} {v : Value} {o : Int} (h : QBox W z v o) : z < W.heap.size := (Array.getElem?_eq_some_iff.1 h).1
theorem QBox.below {W W' : World} {z : Nat} {v : Value} {o : Int} (h : QBox W z v o) (hb : Below W.heap.size W W') : QBox W' z v o := (hb.block z h.lt).trans h
theorem QBox.keeps {S : Nat → Prop} {W W' : World} {z : Nat} {v : Value} {o : Int} (h : QBox W z v o) (hk : Keeps S W W') (hz : ¬ S z) : QBox W' z v o := (hk.block z h.lt hz).trans h
theorem QBox.new (W : World) (v : Value) (o : Int) : QBox (W.alloc (.cells #[v, .int .u64 o] 66)) W.heap.size v o := World.alloc_heap_new W _
theorem QBox.put {W : World} {z : Nat} {v0 : Value} {o0 : Int} (h : QBox W z v0 o0) (v : Value) (o : Int) : QBox ((W.setCell ⟨z, 0, none⟩ v).setCell ⟨z, 1, none⟩ (.int .u64 o)) z v o := by
  have h0 := heap_setCell_same W z 0 _ _ v h
  have h1 := heap_setCell_same _ z 1 _ _ (.int .u64 o) h0
  unfold QBox
  rw [h1]
  rfl
theorem QBox.put0 {W : World} {z : Nat} {v0 : Value} {o : Int} (h : QBox W z v0 o) (v : Value) : QBox (W.setCell ⟨z, 0, none⟩ v) z v o := by
  have h0 := heap_setCell_same W z 0 _ _ v h
  unfold QBox
  rw [h0]
  rfl
theorem QBox.put1 {W : World} {z : Nat} {v : Value} {o0 : Int} (h : QBox W z v o0) (o : Int) : QBox (W.setCell ⟨z, 1, none⟩ (.int .u64 o)) z v o := by
  have h0 := heap_setCell_same W z 1 _ _ (.int .u64 o) h
  unfold QBox
  rw [h0]
  rfl
theorem set1K (W : World) (z i : Nat) (v : Value) : Keeps (fun k => k = z) W (W.setCell ⟨z, i, none⟩ v) := Keeps.setCell W (S := (· = z)) (p := ⟨z, i, none⟩) rfl _
theorem QBox.putK (W : World) (z : Nat) (v : Value) (o : Int) : Keeps (fun k => k = z) W ((W.setCell ⟨z, 0, none⟩ v).setCell ⟨z, 1, none⟩ (.int .u64 o)) := (set1K W z 0 _).trans (set1K _ z 1 _)
def CBox (W : World) (z : Nat) (p x : Int) : Prop := W.heap[z]? = some (.cells #[.int .u64 p, .int .u64 x] 68 (0, 0))
theorem CBox.cells {W : World} {z : Nat} {p x : Int} (h : CBox W z p x) : W.cell? ⟨z, 0, none⟩ = some (.int .u64 p) ∧ W.cell? ⟨z, 1, none⟩ = some (.int .u64 x) := by
  have h' : W.heap[z]? = _ := h
  simp [World.cell?, h']
theorem CBox.lt {W : World} {z : Nat} {p x : Int} (h : CBox W z p x) : z < W.heap.size := (Array.getElem?_eq_some_iff.1 h).1
theorem CBox.below {W W' : World} {z : Nat} {p x : Int} (h : CBox W z p x) (hb : Below W.heap.size W W') : CBox W' z p x := (hb.block z h.lt).trans h
theorem CBox.new (W : World) (p x : Int) : CBox (W.alloc (.cells #[.int .u64 p, .int .u64 x] 68)) W.heap.size p x := World.alloc_heap_new W _
theorem CBox.keeps {S : Nat → Prop} {W W' : World} {z : Nat} {p x : Int} (h : CBox W z p x) (hk : Keeps S W W') (hz : ¬ S z) : CBox W' z p x := (hk.block z h.lt hz).trans h
theorem bx_keeps {S : Nat → Prop} {W W' : World} {z : Nat} {t : TypeId} {v : Value} (h : Boxed W z t v) (hk : Keeps S W W') (hz : ¬ S z) : Boxed W' z t v := (hk.block z h.lt hz).trans h

/-- The last one's period. -/
def lastP (l : List (Int × Int)) : Int := if h : l = [] then 0 else (l[l.length - 1]'(by have := List.length_pos_iff.2 h; omega)).1
/-- May a callback of this period stand there? -/
def allowsB (least over p : Int) : Bool := decide (least ≤ p) && decide (p ≤ over + 2)
/-- May these stand behind one of this period? -/
def upB (over : Int) : Int → List (Int × Int) → Bool
  | _, [] => true
  | least, c :: l => allowsB least over c.1 && upB over c.1 l
def mayB (over : Int) (l : List (Int × Int)) : Bool := decide (over ≤ 9223372036854775806) && decide (l.length ≤ 16) && upB over 0 l
/-- The numbers of a row are ones of Go's. -/
def RgL (l : List (Int × Int)) : Prop := ∀ c ∈ l, 0 ≤ c.1 ∧ c.1 < 18446744073709551616 ∧ 0 ≤ c.2 ∧ c.2 < 18446744073709551616
theorem RgL.take {l : List (Int × Int)} (h : RgL l) (k : Nat) : RgL (l.take k) := fun c hc => h c (List.mem_of_mem_take hc)
theorem lastP_take (l : List (Int × Int)) (i : Nat) (h : i < l.length) : lastP (l.take (i + 1)) = l[i].1 := by
  have hl : (l.take (i + 1)).length = i + 1 := by rw [List.length_take]; omega
  have hne : l.take (i + 1) ≠ [] := by intro e; rw [e] at hl; simp at hl
  unfold lastP
  rw [dif_neg hne]
  simp only [List.getElem_take, hl, Nat.add_sub_cancel]
theorem up_step (over least : Int) (l : List (Int × Int)) (i : Nat) (h : i < l.length) : upB over least (l.drop i) = (allowsB least over l[i].1 && upB over l[i].1 (l.drop (i + 1))) := by
  rw [List.drop_eq_getElem_cons h]
  rfl

theorem wrap_u64 (x : Int) (h0 : 0 ≤ x) (h1 : x < 18446744073709551616) : IntKind.u64.wrap x = x := by
  simp [IntKind.wrap, IntKind.signed, IntKind.bits]
  omega

set_option maxHeartbeats 4000000 in
theorem allows1_c (bl bq : Nat) (least over p : Int) (v : Value) (W : World) (hl : Boxed W bl 35 (.int .u64 least)) (hq : QBox W bq v over) (h0 : 0 ≤ over) (h1 : over ≤ 9223372036854775806) :
    Calls Tryz.prog 159 #[.int .u64 p, .pointer (some ⟨bl, 0, none⟩), .pointer (some ⟨bq, 0, none⟩)] W fun e w' => e = .returned (.bool (allowsB least over p)) ∧ w' = W := by
  have hc := hl.cell
  obtain ⟨q0, q1⟩ := hq.cells
  have hwr : IntKind.u64.wrap (over + 2) = over + 2 := wrap_u64 _ (by omega) (by omega)
  unfold allowsB
  by_cases hle : least ≤ p
  · rw [decide_eq_true hle, Bool.true_and]
    by_cases hp : p ≤ over + 2
    · rw [decide_eq_true hp]
      go_enter Tryz.func159, Tryz.ntmps159
      go_wp2
      go_ret
      exact ⟨rfl, rfl⟩
    · rw [decide_eq_false hp]
      go_enter Tryz.func159, Tryz.ntmps159
      go_wp2
      go_ret
      exact ⟨rfl, rfl⟩
  · rw [decide_eq_false hle, Bool.false_and]
    go_enter Tryz.func159, Tryz.ntmps159
    go_wp2
    go_ret
    exact ⟨rfl, rfl⟩

/-- What allows answers. -/
def alV (B : Nat) : Value := .func (.func 159) #[] #[.pointer (some ⟨B + 1, 0, none⟩), .pointer (some ⟨B, 0, none⟩)]
def AllowsQ (v : Value) (over : Int) (l : List (Int × Int)) (e : Ending) (W w' : World) : Prop :=
  e = .returned (alV W.heap.size) ∧ QBox w' W.heap.size v over ∧ Boxed w' (W.heap.size + 1) 35 (.int .u64 (lastP l)) ∧ Below W.heap.size W w'
set_option maxHeartbeats 4000000 in
theorem allows_c (S : Nat → Prop) (v : Value) (over : Int) (l : List (Int × Int)) (W : World) (hv : CbOut S W v l) :
    Calls Tryz.prog 141 #[.agg #[v, .int .u64 over]] W fun e w' => AllowsQ v over l e W w' := by
  unfold AllowsQ alV
  obtain ⟨p, cap, rfl, hl1, hl2, hc⟩ := hv
  by_cases hne : l = []
  · have e : lastP l = 0 := by unfold lastP; rw [dif_pos hne]
    rw [e]
    have h0 : l.length = 0 := by rw [hne]; rfl
    rw [h0]
    clear hc e
    go_enter Tryz.func141, Tryz.ntmps141
    go_wp2
    go_ret
    refine ⟨rfl, (QBox.new W _ _).below (below1 _ _), ?_, below2 _ _ _⟩
    have := Boxed.new (W.alloc (.cells #[.slice p 0 cap, .int .u64 over] 66)) 35 (.int .u64 0)
    rwa [World.size_alloc] at this
  · obtain ⟨b, off, rfl, hS, hcs⟩ := hc hne
    have hpos := List.length_pos_iff.2 hne
    have hx := (hcs (l.length - 1) (by omega)).1
    have e : lastP l = (l[l.length - 1]'(by omega)).1 := by unfold lastP; rw [dif_neg hne]
    rw [← e] at hx
    obtain ⟨n, hn⟩ : ∃ n, n = l.length := ⟨_, rfl⟩
    rw [← hn] at hpos hx hl1 ⊢
    clear hcs hn hne e
    have hi : (0 : Int) ≤ (n : Int) - 1 ∧ (n : Int) - 1 < (n : Int) := by omega
    obtain ⟨m, hm⟩ : ∃ m, n = m + 1 := ⟨n - 1, by omega⟩
    subst hm
    rw [Nat.add_sub_cancel] at hx
    have hblt := World.block_lt_of_cell? W _ hx
    have hgt : ((m + 1 : Nat) : Int) > 0 := by omega
    go_enter Tryz.func141, Tryz.ntmps141
    go_wp2
    go_ret
    have hb := Boxed.new (W.alloc (.cells #[.slice (some ⟨b, off, none⟩) (m + 1) cap, .int .u64 over] 66)) 35 (.int .u64 (lastP l))
    rw [World.size_alloc] at hb
    exact ⟨rfl, (QBox.new W _ _).below (below1 _ _), hb, below2 W _ _⟩

end Go.Proofs.YtdllhiihmpinoaaGreat.U
