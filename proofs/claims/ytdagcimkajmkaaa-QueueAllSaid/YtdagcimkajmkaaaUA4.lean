/-
  Opening arguments of layer 13: a queue, a row of words, of numbers, two words.
  Conditions: none.
-/
import Derived.Test.YtdagcimkajmkaaaUA3
import Derived.Laws.AppendOwnNone
import Derived.Test.YtdagcimkajmkaaaUA2
import Derived.Test.YtdagcimkajmkaaaUA1
import Derived.Lib.SmallJoins
import Derived.Laws.IdiomArrays
import Derived.Deep.Grids
/-
  Of the statements of layer 13: own, spoil.
  Conditions: as each has them.
-/
namespace Go.Proofs.Ytdagcimkajmkaaa
set_option maxRecDepth 100000
open Go.RowKit Go.Shelf
attribute [local go_sem] Oper.semAt_some

theorem cell_set_other (W : World) (b i j : Nat) (u : Value) (h : i ≠ j) : (W.setCell ⟨b, i, none⟩ u).cell? ⟨b, j, none⟩ = W.cell? ⟨b, j, none⟩ := by
  refine World.cell?_setCell_other W _ _ u ?_
  intro e
  injection e with _ e
  omega
theorem CbOut.set {W : World} {b off n c : Nat} {l : List (Int × Int)} (h : CbOut NoS W (.slice (some ⟨b, off, none⟩) n c) l) (i : Nat) (hi : i < l.length) (x : Int) :
    CbOut NoS (W.setCell ⟨b, off + i * 2 + 1, none⟩ (.int .u64 x)) (.slice (some ⟨b, off, none⟩) n c) (l.set i (l[i].1, x)) := by
  obtain ⟨p, cap, e, h1, h2, hc⟩ := h
  injection e with e1 e2 e3
  subst e1 e2 e3
  have hne : l ≠ [] := by rintro rfl; simp at hi
  obtain ⟨b', off', e, -, hcs⟩ := hc hne
  injection e with e
  injection e with e1 e2
  subst e1 e2
  refine ⟨_, _, by rw [List.length_set], by rw [List.length_set]; exact h1, h2, fun _ => ⟨b, off, rfl, fun h => h, fun j hj => ?_⟩⟩
  rw [List.length_set] at hj
  obtain ⟨hx, hy⟩ := hcs j hj
  by_cases e : i = j
  · subst e
    rw [List.getElem_set_self]
    refine ⟨?_, ?_⟩
    · rw [cell_set_other W b _ _ _ (by omega)]; exact hx
    · exact World.cell?_setCell_same' _ _ _ (by rw [hy]; rfl)
  · rw [List.getElem_set_ne e]
    exact ⟨by rw [cell_set_other W b _ _ _ (by omega)]; exact hx, by rw [cell_set_other W b _ _ _ (by omega)]; exact hy⟩

/-- The block in which a row lies. -/
def rowBlk (v : Value) (l : List (Int × Int)) (k : Nat) : Prop := l ≠ [] ∧ ∃ off n c, v = .slice (some ⟨k, off, none⟩) n c
set_option maxHeartbeats 8000000 in
theorem spoil_c (v : Value) (over : Int) (l : List (Int × Int)) (W : World) (hv : CbOut NoS W v l) (hf : CbFree W v l) :
    Calls Try.prog 13 #[.agg #[v, .int .u64 over]] W fun e w' => e = .returned (.tuple #[]) ∧ Keeps (rowBlk v l) W w' := by
  obtain ⟨p, c, rfl, hlc, hcm, hc0⟩ := id hv
  obtain ⟨n, hn⟩ : ∃ n, n = l.length := ⟨_, rfl⟩
  rw [← hn] at hlc hv hf ⊢
  have hb0 := below1 W (.cells #[.slice p n c, .int .u64 over] 25)
  have HI := Lib.hid (show QBox (W.alloc (.cells #[.slice p n c, .int .u64 over] 25)) W.heap.size (.slice p n c) over ∧ CbOut NoS (W.alloc (.cells #[.slice p n c, .int .u64 over] 25)) (.slice p n c) l ∧ CbFree (W.alloc (.cells #[.slice p n c, .int .u64 over] 25)) (.slice p n c) l ∧ Keeps (rowBlk (.slice p n c) l) W (W.alloc (.cells #[.slice p n c, .int .u64 over] 25)) from ⟨QBox.new W _ _, hv.below hb0, hf.below hb0, Keeps.of_below hb0⟩)
  have HN := Lib.hid hn
  have HB := Lib.hid (show ∀ b off, p = some ⟨b, off, none⟩ → l ≠ [] → b < W.heap.size from fun b off e hne => by
    obtain ⟨b', off', e', -, hcs⟩ := hc0 hne
    rw [e] at e'
    injection e' with e'
    injection e' with e1 e2
    have := World.block_lt_of_cell? W _ (hcs 0 (List.length_pos_iff.2 hne)).1
    rw [e1]
    exact this)
  clear hv hf hn hb0 hc0
  go_enter Try.func13, Try.ntmps13
  go_wp2
  go_loopw [6] (fun iv wr => ∃ (i : Nat) (m : List (Int × Int)), i ≤ n ∧ iv = .int .i64 (i : Int) ∧ Hid (m.length = n ∧ QBox wr W.heap.size (.slice p n c) over ∧ CbOut NoS wr (.slice p n c) m ∧ CbFree wr (.slice p n c) m ∧ Keeps (rowBlk (.slice p n c) l) W wr)) (fun iv _ => n - (intOf iv).toNat)
  case atStart => exact ⟨0, l, Nat.zero_le _, rfl, HN.out.symm, HI.out⟩
  case round =>
    clear HI
    obtain ⟨i, m, hi, rfl, HX⟩ := hrel
    by_cases hlt : i < n
    · have him : i < m.length := by have := HX.out.1; omega
      have hne : m ≠ [] := by rintro rfl; simp at him
      have hnel : l ≠ [] := by rintro rfl; have := HN.out; simp at this; omega
      obtain ⟨p', cap', e, -, -, hc⟩ := HX.out.2.2.1
      injection e with e1 e2 e3
      subst e1 e3
      obtain ⟨b, off, rfl, -, hcs⟩ := hc hne
      obtain ⟨hx, hy⟩ := hcs i him
      obtain ⟨cur, t, hblk⟩ := HX.out.2.2.2.1 b off _ _ rfl hne
      have hfz : wr.frozen? ⟨b, off + i * 2 + 1, none⟩ = false := by simp [World.frozen?, hblk]
      obtain ⟨y, hye⟩ : ∃ y, y = m[i].2 := ⟨_, rfl⟩
      rw [← hye] at hy
      have hbz : b ≠ W.heap.size := by have := HB.out b off rfl hnel; omega
      have hblt := World.block_lt_of_cell? wr _ hy
      obtain ⟨w1, hw1⟩ : ∃ X : World, X = wr.setCell ⟨b, off + i * 2 + 1, none⟩ (.int .u64 (IntKind.u64.wrap (y + 1))) := ⟨_, rfl⟩
      obtain ⟨mm, hmm⟩ : ∃ mm, mm = m.set i (m[i].1, IntKind.u64.wrap (y + 1)) := ⟨_, rfl⟩
      have hk1 : Keeps (rowBlk (.slice (some ⟨b, off, none⟩) n c) l) wr w1 := by rw [hw1]; exact (set1K wr b _ _).sub (fun k _ h => ⟨hnel, off, n, c, by rw [h]⟩)
      have HX1 := Lib.hid (show mm.length = n ∧ QBox w1 W.heap.size (.slice (some ⟨b, off, none⟩) n c) over ∧ CbOut NoS w1 (.slice (some ⟨b, off, none⟩) n c) mm ∧ CbFree w1 (.slice (some ⟨b, off, none⟩) n c) mm ∧ Keeps (rowBlk (.slice (some ⟨b, off, none⟩) n c) l) W w1 from
        ⟨by rw [hmm, List.length_set]; exact HX.out.1, by rw [hw1]; exact HX.out.2.1.keeps (set1K wr b _ _) (fun e => hbz e.symm), by rw [hw1, hmm]; exact HX.out.2.2.1.set i him _, fun b' off' n' c' e _ => by
          injection e with e _ _
          injection e with e
          injection e with e _
          subst e
          rw [hw1]
          exact ⟨_, _, heap_setCell_same wr b _ cur t _ hblk⟩, HX.out.2.2.2.2.trans hk1⟩)
      have hi0 : (0 : Int) ≤ (i : Int) := by omega
      have hlt' : (i : Int) < (n : Int) := by omega
      obtain ⟨q0, q1⟩ := HX.out.2.1.cells
      have HW1 := Lib.hid hw1
      clear hc hcs hblk hye hw1 hk1 hne hnel e2 hx hmm
      go_upto_region 5 with fail
      rw [← HW1.out]
      clear HW1 q0 q1 hy hfz
      go_wp2
      go_roundw
      case rel => exact ⟨i + 1, _, by omega, by go_num, HX1⟩
      case measure => simp [intOf]; omega
    · go_wp2
      go_end0
      exact ⟨rfl, HX.out.2.2.2.2⟩

theorem run_min20 (n k : Nat) (hk : k = min n 20) (wx : World) : (Builtin.min_ #[3, 3] 3 #[.int .i64 (n : Int), .int .i64 20]).run Try.prog wx = .ok (.int .i64 (k : Int)) wx := by
  have : (if (20 : Int) < (n : Int) then (20 : Int) else n) = (k : Int) := by rw [hk]; split <;> omega
  simp [Builtin.min_, Builtin.min2, this]
theorem vals_cb {W : World} {p : Option Addr} {n c : Nat} {l : List (Int × Int)} (h : CbOut NoS W (.slice p n c) l) (hz : p = none → c = 0) (k : Nat) (hk : k = min n 20) : ValsAt W (.slice p k c) 2 k (cvs (l.take 20)) := by
  obtain ⟨q, cap, e, h1, h2, hc⟩ := h
  injection e with e1 e2 e3
  subst e1 e2 e3
  refine ⟨by rw [cvs_len, List.length_take, hk]; omega, p, c, rfl, ?_⟩
  by_cases hne : l = []
  · subst hne
    cases p with
    | none => exact .inl ⟨rfl, by rw [hk]; simp, hz rfl⟩
    | some a => exact .inr ⟨a, rfl, fun j u hj => by simp [cvs] at hj⟩
  · obtain ⟨b, off, rfl, -, hcs⟩ := hc hne
    refine .inr ⟨_, rfl, fun j u hj => ?_⟩
    obtain ⟨hj1, hj2⟩ := List.getElem?_eq_some_iff.1 hj
    rw [cvs_len] at hj1
    rw [addr_add_off]
    have hlt : j / 2 < (l.take 20).length := by omega
    have hlt2 : j / 2 < l.length := by rw [List.length_take] at hlt; omega
    have hg := cvs_get (l.take 20) (j / 2) hlt
    have hcc := hcs (j / 2) hlt2
    rw [List.getElem_take] at hg
    rcases (show j = j / 2 * 2 ∨ j = j / 2 * 2 + 1 by omega) with e | e
    · rw [← e, hj] at hg
      rw [← e] at hcc
      rw [Option.some.inj hg.1]
      exact hcc.1
    · rw [← e, hj] at hg
      have e2 : off + j = off + j / 2 * 2 + 1 := by omega
      rw [Option.some.inj hg.2, e2]
      exact hcc.2

set_option maxHeartbeats 8000000 in
theorem lown_c (v : Value) (over : Int) (l : List (Int × Int)) (W : World) (hv : CbOut NoS W v l) (hz : ∀ p n c, v = .slice p n c → p = none → c = 0) :
    Calls Try.prog 8 #[.agg #[v, .int .u64 over]] W fun e w' => GivesQ W.heap.size over (l.take 20) e w' ∧ Below W.heap.size W w' := by
  obtain ⟨p, c, rfl, hlc, hcm, -⟩ := id hv
  obtain ⟨n, hn⟩ : ∃ n, n = l.length := ⟨_, rfl⟩
  rw [← hn] at hlc hv ⊢
  obtain ⟨k, hk⟩ : ∃ k, k = min n 20 := ⟨_, rfl⟩
  have hkl : (l.take 20).length = k := by rw [List.length_take]; omega
  obtain ⟨w0, hw0⟩ : ∃ X : World, X = (W.alloc (.cells #[.slice p n c, .int .u64 over] 25)).alloc (.cells #[.slice none 0 0, .int .u64 0] 25) := ⟨_, rfl⟩
  have hb0 : Below W.heap.size W w0 := by rw [hw0]; exact below2 _ _ _
  have HF := Lib.hid (show QBox w0 W.heap.size (.slice p n c) over ∧ QBox w0 (W.heap.size + 1) (.slice none 0 0) 0 ∧ Below W.heap.size W w0 ∧ w0.heap.size = W.heap.size + 2 from ⟨by rw [hw0]; exact (QBox.new W _ _).below (below1 _ _), by
      rw [hw0]
      have := QBox.new (W.alloc (.cells #[.slice p n c, .int .u64 over] 25)) (.slice none 0 0) 0
      simpa using this, hb0, by rw [hw0]; simp⟩)
  have HV := Lib.hid (vals_cb (hv.below hb0) (hz _ _ _ rfl) k hk)
  have hm := run_min20 n k hk
  have hcut := run_cutC p n c k (by omega) hcm
  have HK := Lib.hid (show k ≤ 20 ∧ (l.take 20).length = k from ⟨by omega, hkl⟩)
  have hnm : n ≤ 9223372036854775807 := by omega
  have HW0 := Lib.hid hw0
  obtain ⟨q0, q1⟩ := HF.out.1.cells
  rw [hw0] at q0 q1
  clear hb0 hv hz hw0 hk hkl hn
  go_enter Try.func8, Try.ntmps8
  go_upto_region 1 with fail
  rw [← HW0.out]
  clear HW0 q0 q1
  refine wpTwo_begin (T := fun w' => QBox w' W.heap.size (.slice p n c) over) (S := fun _ => True) (late := fun _ => false) (by kernel_rfl) ?_
  obtain ⟨X, hX⟩ : ∃ Y : World, Y = w0.drew := ⟨_, rfl⟩
  rw [← hX]
  have hbx : Below w0.heap.size w0 X := by rw [hX]; exact (Below.refl _ _).drew
  clear hX
  have hT0 := HF.out.1.below hbx
  have HZ := Lib.hid (show QBox X (W.heap.size + 1) (.slice none 0 0) 0 ∧ Below W.heap.size W X ∧ W.heap.size + 2 ≤ X.heap.size from ⟨HF.out.2.1.below hbx, below_then HF.out.2.2.1 HF.out.2.2.1.size hbx, by have := HF.out.2.2.2; have := hbx.size; omega⟩)
  have hvx : ValsAt X (.slice p k c) 2 k (cvs (l.take 20)) := by
    obtain ⟨h1, p', c', e, h2⟩ := HV.out
    refine ⟨h1, p', c', e, h2.imp id (fun ⟨a, e2, h3⟩ => ⟨a, e2, fun j u hj => below_cell hbx (h3 j u hj)⟩)⟩
  have HC := Lib.hid (cloneC (.slice p k c) k (cvs (l.take 20)) X hvx (cvs_one _) (by have := HK.out.1; omega))
  clear hbx hvx HF HV
  refine wpTwo_takeT (i := 0) (v := .pointer (some ⟨W.heap.size, 0, none⟩)) rfl (by kernel_rfl) (by kernel_rfl) (by kernel_rfl) (fun _ _ _ h => h) ⟨by rfl, ?_⟩ hT0 ?_
  · rintro w hTw
    obtain ⟨t0', t1'⟩ := hTw.cells
    go_simp
  (try simp only [Act.put, List.getElem_toArray, List.getElem_cons_zero, List.setIfInBounds_toArray, List.set_cons_succ, List.set_cons_zero])
  refine wpTwo_takeT (i := 1) (v := .slice p n c) rfl (by kernel_rfl) (by kernel_rfl) (by kernel_rfl) (fun _ _ _ h => h) ⟨by rfl, ?_⟩ hT0 ?_
  · rintro w hTw
    obtain ⟨t0', t1'⟩ := hTw.cells
    go_simp
  (try simp only [Act.put, List.getElem_toArray, List.getElem_cons_succ, List.getElem_cons_zero, List.setIfInBounds_toArray, List.set_cons_succ, List.set_cons_zero])
  refine wpTwo_takeT (i := 2) (v := .pointer (some ⟨W.heap.size, 0, none⟩)) rfl (by kernel_rfl) (by kernel_rfl) (by kernel_rfl) (fun _ _ _ h => h) ⟨by rfl, ?_⟩ hT0 ?_
  · rintro w hTw
    obtain ⟨t0', t1'⟩ := hTw.cells
    go_simp
  (try simp only [Act.put, List.getElem_toArray, List.getElem_cons_succ, List.getElem_cons_zero, List.setIfInBounds_toArray, List.set_cons_succ, List.set_cons_zero])
  refine wpTwo_takeT (i := 3) (v := .slice p n c) rfl (by kernel_rfl) (by kernel_rfl) (by kernel_rfl) (fun _ _ _ h => h) ⟨by rfl, ?_⟩ hT0 ?_
  · rintro w hTw
    obtain ⟨t0', t1'⟩ := hTw.cells
    go_simp
  (try simp only [Act.put, List.getElem_toArray, List.getElem_cons_succ, List.getElem_cons_zero, List.setIfInBounds_toArray, List.set_cons_succ, List.set_cons_zero])
  refine wpTwo_takeT (i := 4) (v := .int .i64 (n : Int)) rfl (by kernel_rfl) (by kernel_rfl) (by kernel_rfl) (fun _ _ _ h => h) ⟨by rfl, ?_⟩ hT0 ?_
  · rintro w hTw
    obtain ⟨t0', t1'⟩ := hTw.cells
    go_simp
  (try simp only [Act.put, List.getElem_toArray, List.getElem_cons_succ, List.getElem_cons_zero, List.setIfInBounds_toArray, List.set_cons_succ, List.set_cons_zero])
  refine wpTwo_takeT (i := 5) (v := .int .i64 (k : Int)) rfl (by kernel_rfl) (by kernel_rfl) (by kernel_rfl) (fun _ _ _ h => h) ⟨by rfl, ?_⟩ hT0 ?_
  · rintro w hTw
    obtain ⟨t0', t1'⟩ := hTw.cells
    go_simp
  (try simp only [Act.put, List.getElem_toArray, List.getElem_cons_succ, List.getElem_cons_zero, List.setIfInBounds_toArray, List.set_cons_succ, List.set_cons_zero])
  refine wpTwo_takeT (i := 6) (v := .slice p k c) rfl (by kernel_rfl) (by kernel_rfl) (by kernel_rfl) (fun _ _ _ h => h) ⟨by rfl, ?_⟩ hT0 ?_
  · rintro w hTw
    obtain ⟨t0', t1'⟩ := hTw.cells
    go_simp
  (try simp only [Act.put, List.getElem_toArray, List.getElem_cons_succ, List.getElem_cons_zero, List.setIfInBounds_toArray, List.set_cons_succ, List.set_cons_zero])
  refine wpTwo_takeT (i := 8) (v := .pointer (some ⟨W.heap.size, 1, none⟩)) rfl (by kernel_rfl) (by kernel_rfl) (by kernel_rfl) (fun _ _ _ h => h) ⟨by rfl, ?_⟩ hT0 ?_
  · rintro w hTw
    obtain ⟨t0', t1'⟩ := hTw.cells
    go_simp
  (try simp only [Act.put, List.getElem_toArray, List.getElem_cons_succ, List.getElem_cons_zero, List.setIfInBounds_toArray, List.set_cons_succ, List.set_cons_zero])
  refine wpTwo_takeT (i := 9) (v := .int .u64 over) rfl (by kernel_rfl) (by kernel_rfl) (by kernel_rfl) (fun _ _ _ h => h) ⟨by rfl, ?_⟩ hT0 ?_
  · rintro w hTw
    obtain ⟨t0', t1'⟩ := hTw.cells
    go_simp
  (try simp only [Act.put, List.getElem_toArray, List.getElem_cons_succ, List.getElem_cons_zero, List.setIfInBounds_toArray, List.set_cons_succ, List.set_cons_zero])
  refine wpTwo_ready (rs := [7]) (by kernel_rfl) (by simp) ?_
  refine (AllTwo.cons rfl (fun K hK => ?_) AllTwo.nil)
  go_simp
  (with_reducible refine HC.out.mono ?_)
  rintro e X1 ⟨⟨v1, rfl, o1⟩, hb1⟩
  obtain ⟨p1, c1, rfl⟩ := owns_slice o1
  have hT1 := hT0.below hb1
  have HZ1 := Lib.hid (show QBox X1 (W.heap.size + 1) (.slice none 0 0) 0 ∧ Below W.heap.size W X1 ∧ X1.ownsRow (W.heap.size + 2) 53 2 (.slice p1 k c1) k (cvs (l.take 20)) from ⟨HZ.out.1.below hb1, below_then HZ.out.2.1 HZ.out.2.1.size hb1, o1.mono HZ.out.2.2⟩)
  clear o1 hb1 HZ HC hT0
  go_wp2_with fail
  refine hK.out _ _ ⟨hT1, fun _ _ => trivial⟩ ?_
  clear hK K
  (try simp only [Act.put, List.getElem_toArray, List.getElem_cons_succ, List.getElem_cons_zero, List.setIfInBounds_toArray, List.set_cons_succ, List.set_cons_zero])
  refine wpTwo_takeT (i := 10) (v := .agg #[.slice p1 k c1, .int .u64 over]) rfl (by kernel_rfl) (by kernel_rfl) (by kernel_rfl) (fun _ _ _ h => h) ⟨by rfl, ?_⟩ hT1 ?_
  · rintro w -
    go_simp
  (try simp only [Act.put, List.getElem_toArray, List.getElem_cons_succ, List.getElem_cons_zero, List.setIfInBounds_toArray, List.set_cons_succ, List.set_cons_zero])
  obtain ⟨r0, r1⟩ := HZ1.out.1.cells
  have m0 := HZ1.out.1.marks 0
  have m1 := HZ1.out.1.marks 1
  obtain ⟨Y, hY⟩ : ∃ Y : World, Y = (X1.setCell ⟨W.heap.size + 1, 0, none⟩ (.slice p1 k c1)).setCell ⟨W.heap.size + 1, 1, none⟩ (.int .u64 over) := ⟨_, rfl⟩
  have hky : Keeps (fun q => q = W.heap.size + 1) X1 Y := by rw [hY]; exact QBox.putK _ _ _ _
  have HY := Lib.hid (show QBox Y (W.heap.size + 1) (.slice p1 k c1) over ∧ Below W.heap.size W Y ∧ Y.ownsRow (W.heap.size + 2) 53 2 (.slice p1 k c1) k (cvs (l.take 20)) from ⟨by rw [hY]; exact HZ1.out.1.put _ _, HZ1.out.2.1.trans (hky.below HZ1.out.2.1.size (fun q e => by omega)), hky.row HZ1.out.2.2 (fun g e => by have := (HZ1.out.2.2.lt g e).1; omega)⟩)
  have hT2 := hT1.keeps hky (by omega)
  have HYY := Lib.hid hY
  clear hY hky hT1 HZ1
  refine wpTwo_ready (rs := [11]) (by kernel_rfl) (by simp) ?_
  refine (AllTwo.cons rfl (fun K hK => ?_) AllTwo.nil)
  go_simp
  rw [← HYY.out]
  refine hK.out _ _ ⟨hT2, fun _ _ => trivial⟩ ?_
  clear hK K r0 r1 m0 m1 HYY
  (try simp only [Act.put])
  refine wpTwo_end (by kernel_rfl) ?_ _
  clear hT2
  go_wp2
  exact bodyPost_ret (results_cell1 rfl _ _ _ rfl (queue_load HY.out.1)) rfl ⟨⟨_, rfl, by rw [HK.out.2]; exact HY.out.2.2.mono (by omega)⟩, HY.out.2.1⟩

end Go.Proofs.Ytdagcimkajmkaaa
/-
  The reference of layer 13: Put.
  Conditions: the queue may be.
-/
namespace Go.Proofs.Ytdagcimkajmkaaa
set_option maxRecDepth 100000
open Go.RowKit Go.Shelf
attribute [local go_sem] Oper.semAt_some

def NilZ (v : Value) : Prop := ∀ p n c, v = .slice p n c → p = none → c = 0
theorem nilZ_owns {B : Nat} {E : TypeId} {W : World} {v : Value} {s n : Nat} {xs : List Value} (h : W.ownsRow B E s v n xs) : NilZ v := fun p m c e hp => by
  rcases h.2 with ⟨rfl, _⟩ | ⟨g, cap, cur, rfl, _⟩
  · injection e with _ _ e; exact e.symm
  · injection e with e _ _; rw [hp] at e; cases e
/-- append of a row to one of one's own. -/
theorem wpList_app_row {ops : Array Oper} {rest : List Oper} {o : Oper} {a : Act} {Q : Exit → Act → World → Prop} {w : World} (hgd : o.guard = none) (s x : Operand)
    (ho : o.op = .call { callee := .builtin .append, args := #[s, x], argTypes := #[22, 22] })
    (B : Nat) (v : Value) (n : Nat) (l : List (Int × Int)) (hs : a.eval s = v) (hown : w.ownsRow B 53 2 v n (cvs l))
    (p : Option Addr) (m c : Nat) (l2 : List (Int × Int)) (hx : a.eval x = .slice p m c) (hcb : CbOut NoS w (.slice p m c) l2) (hz : p = none → c = 0) (hl : n + m ≤ 1000000) (hB : B ≤ w.heap.size)
    (h : ∀ q r w', w'.ownsRow B 53 2 (.slice q (n + m) r) (n + m) (cvs (l ++ l2)) → Keeps (fun k => some k = v.ownBlock) w w' → wpList Try.prog ops Q rest (a.put o.dst (.slice q (n + m) r)) w') :
    wpList Try.prog ops Q (o :: rest) a w := by
  obtain ⟨i0, hi, hz0, hz1, hz2⟩ := info_parts info_cb
  obtain ⟨p', c', e, h1, h2, hc⟩ := hcb
  injection e with e1 e2 e3
  subst e1 e3
  cases p with
  | none =>
    obtain rfl : l2 = [] := by
      by_cases hne : l2 = []
      · exact hne
      · obtain ⟨b, off, e, _⟩ := hc hne; cases e
    obtain rfl : c = 0 := hz rfl
    simp only [List.length_nil] at e2
    subst e2
    obtain ⟨q, r, rfl⟩ := owns_slice hown
    refine wpList_append_own_none hgd s x 22 ho B 53 i0 2 Try.underlying22 hi _ n (cvs l) hs hown hx ?_
    have h' := h q r w (by rw [List.append_nil]; exact hown) (Keeps.refl _ _)
    exact h'
  | some ad =>
    refine wpList_append_own w hgd s x 22 ho B 53 i0 (.agg #[.int .u64 0, .int .u64 0]) 2 16 Try.underlying22 hi hz0 hz1 hz2 rfl (by decide) v n (cvs l) hs hown ad m c (cvs l2) hx (by rw [cvs_len]; omega) (fun j u hj => ?_) (cvs_one l2) (by unfold maxLen; omega) (by omega) hB fun v' w' h3 h4 _ => ?_
    · obtain ⟨hj1, hj2⟩ := List.getElem?_eq_some_iff.1 hj
      rw [cvs_len] at hj1
      obtain ⟨b, off, e, -, hcs⟩ := hc (by rintro rfl; simp at hj1)
      injection e with e
      subst e
      rw [addr_add_off]
      have hg := cvs_get l2 (j / 2) (by omega)
      have hcc := hcs (j / 2) (by omega)
      rcases (show j = j / 2 * 2 ∨ j = j / 2 * 2 + 1 by omega) with e | e
      · rw [← e, hj] at hg
        rw [← e] at hcc
        rw [Option.some.inj hg.1]
        exact hcc.1
      · rw [← e, hj] at hg
        have e2 : off + j = off + j / 2 * 2 + 1 := by omega
        rw [Option.some.inj hg.2, e2]
        exact hcc.2
    · rw [← cvs_append] at h3
      obtain ⟨q, r, rfl⟩ := owns_slice h3
      exact h q r w' h3 ⟨h4.os, h4.tape, h4.output, h4.size, fun k hk hn => h4.block k hk (fun e => hn e)⟩

theorem put_late {over : Int} {l : List (Int × Int)} {ahead : Int} (hm : mayB over l = true) (ho : 0 ≤ over) (h : ∃ c ∈ l, over + ahead < c.1) (h1 : 1 ≤ ahead) (h2 : ahead ≤ 2) : putE over l ahead = 2 := by
  rw [may_srt over l ho] at hm
  simp only [Bool.and_eq_true, decide_eq_true_eq] at hm
  obtain ⟨c, hc, hlt⟩ := h
  have := (srt_last l 0 hm.1.1.1 c hc).2
  have hm' : mayB over l = true := by rw [may_srt over l ho]; simp [hm]
  unfold putE allowsB
  rw [hm', if_pos rfl, if_neg (by omega), decide_eq_false (show ¬ lastP l ≤ over + ahead by omega), Bool.false_and]
  rfl
theorem put_fits {over : Int} {l : List (Int × Int)} {ahead : Int} (hm : mayB over l = true) (ho : 0 ≤ over) (h : ∀ c ∈ l, c.1 ≤ over + ahead) (h1 : 1 ≤ ahead) (h2 : ahead ≤ 2) : putE over l ahead = if l.length = 16 then 6 else 0 := by
  have hl : lastP l ≤ over + ahead := by
    by_cases he : l = []
    · subst he; simp [lastP]; omega
    · obtain ⟨c, hc, e⟩ := lastP_mem he
      rw [e]; exact h c hc
  unfold putE allowsB
  rw [hm, if_pos rfl, if_neg (by omega), decide_eq_true hl, decide_eq_true (show over + ahead ≤ over + 2 by omega)]
  rfl

set_option maxHeartbeats 16000000 in
theorem rput_c (v : Value) (over : Int) (l : List (Int × Int)) (x ahead : Int) (W : World) (hv : CbOut NoS W v l) (hz : NilZ v) (ho : 0 ≤ over) (hm : mayB over l = true) :
    Calls Try.prog 11 #[.agg #[v, .int .u64 over], .int .u64 x, .int .i64 ahead] W fun e w' => PutQ W.heap.size over l x ahead e w' ∧ Below W.heap.size W w' := by
  obtain ⟨w0, hw0⟩ : ∃ X : World, X = (W.alloc (.cells #[v, .int .u64 over] 25)).alloc (.cells #[.slice none 0 0, .int .u64 0] 25) := ⟨_, rfl⟩
  have hb0 : Below W.heap.size W w0 := by rw [hw0]; exact below2 _ _ _
  have H1 := Lib.hid (show QBox w0 W.heap.size v over ∧ QBox w0 (W.heap.size + 1) (.slice none 0 0) 0 ∧ Below W.heap.size W w0 ∧ w0.heap.size = W.heap.size + 2 from ⟨by rw [hw0]; exact (QBox.new W _ _).below (below1 _ _), by
      rw [hw0]
      have := QBox.new (W.alloc (.cells #[v, .int .u64 over] 25)) (.slice none 0 0) 0
      simpa using this, hb0, by rw [hw0]; simp⟩)
  have HV := Lib.hid (hv.below hb0)
  obtain ⟨p, c, rfl, hlc, hcm, -⟩ := hv
  obtain ⟨hg1, hg2, -⟩ := may_parts hm
  obtain ⟨n, hN⟩ : ∃ n, n = l.length := ⟨_, rfl⟩
  rw [← hN] at H1 HV hlc hg2 hw0 ⊢
  have HZ := Lib.hid (show p = none → c = 0 from hz _ _ _ rfl)
  have HW0 := Lib.hid hw0
  have HM := Lib.hid hm
  have HN := Lib.hid hN
  obtain ⟨q0, q1⟩ := H1.out.1.cells
  rw [hw0] at q0 q1
  clear hw0 hb0 hz hm hN
  have hw0' := HW0.out
  have QB1 := Lib.hid (fun (_ : Int) => (show QBox ((((W.alloc (.cells #[.slice p n c, .int .u64 over] 25)).alloc (.cells #[.slice none 0 0, .int .u64 0] 25))).drewN 0) (W.heap.size + 1) (.slice none 0 0) 0 ∧ Below W.heap.size W ((W.alloc (.cells #[.slice p n c, .int .u64 over] 25)).alloc (.cells #[.slice none 0 0, .int .u64 0] 25)) by rw [← hw0']; exact ⟨H1.out.2.1, H1.out.2.2.1⟩))
  by_cases ha : ahead ≠ 1 ∧ ahead ≠ 2
  · have h1' : (ahead != 1) = true := by rw [bne_iff_ne]; exact ha.1
    have h2' : (ahead != 2) = true := by rw [bne_iff_ne]; exact ha.2
    have HE := Lib.hid (show putE over l ahead = 2 by unfold putE; rw [HM.out, if_pos rfl, if_pos (by omega)])
    obtain ⟨hn1, hn2⟩ := ha
    have hr1 := H1.out.2.1
    rw [hw0'] at hr1
    obtain ⟨r0, r1⟩ := hr1.cells
    have m0 := hr1.marks 0
    have m1 := hr1.marks 1
    clear hr1
    go_enter Try.func11, Try.ntmps11
    go_wp2
    exact bodyPost_ret (results_ct rfl _ _ _ rfl rfl (queue_load (QB1.out 2).1)) rfl ⟨.inr ⟨by rw [HE.out]; decide, by rw [HE.out]; exact ansQ_none _ _ _⟩, (QB1.out 2).2⟩
  · have ha' : 1 ≤ ahead ∧ ahead ≤ 2 := by omega
    have hcv : IntKind.u64.wrap ahead = ahead := wrap_u64 _ (by omega) (by omega)
    have hap : IntKind.u64.wrap (over + ahead) = over + ahead := wrap_u64 _ (by omega) (by omega)
    have HLA := Lib.hid (fun h => put_late (ahead := ahead) HM.out ho h ha'.1 ha'.2)
    have HFI := Lib.hid (fun h => put_fits (ahead := ahead) HM.out ho h ha'.1 ha'.2)
    obtain ⟨P, hP⟩ : ∃ P, P = over + ahead := ⟨_, rfl⟩
    rw [← hP] at hap HLA HFI
    have hP2 : over + ahead = P := hP.symm
    have HPP := Lib.hid hP
    clear hP QB1 HM hw0'
    have hcase : ahead = 1 ∨ ahead = 2 := by omega
    clear ha ha'
    rcases hcase with rfl | rfl
    all_goals
      go_enter Try.func11, Try.ntmps11
      go_upto_region 4 with fail
      rw [← HW0.out]
      clear q0 q1
      obtain ⟨q0, q1⟩ := H1.out.1.cells
      go_wp2
      clear q0 q1
      go_loopw [26] (fun iv wr => ∃ i : Nat, i ≤ n ∧ iv = .int .i64 (i : Int) ∧ Hid (Below w0.heap.size w0 wr) ∧ Hid (∀ c ∈ l.take i, c.1 ≤ P)) (fun iv _ => n - (intOf iv).toNat)
      case atStart => exact ⟨0, Nat.zero_le _, rfl, Lib.hid (Below.refl _ _), Lib.hid (by simp)⟩
      case round =>
        obtain ⟨i, hi, rfl, HB, HA⟩ := hrel
        have HXr := Lib.hid (show QBox wr W.heap.size (.slice p n c) over ∧ QBox wr (W.heap.size + 1) (.slice none 0 0) 0 ∧ CbOut NoS wr (.slice p n c) l ∧ Below W.heap.size W wr ∧ W.heap.size + 2 ≤ wr.heap.size from ⟨H1.out.1.below HB.out, H1.out.2.1.below HB.out, HV.out.below HB.out, below_then H1.out.2.2.1 H1.out.2.2.1.size HB.out, by have := H1.out.2.2.2; have := HB.out.size; omega⟩)
        by_cases hlt : i < n
        · have hil : i < l.length := by have := HN.out; omega
          have hne : l ≠ [] := by rintro rfl; simp at hil
          obtain ⟨p', cap', e, -, -, hc⟩ := HXr.out.2.2.1
          injection e with e1 e2 e3
          subst e1 e3
          obtain ⟨b, off, rfl, -, hcs⟩ := hc hne
          obtain ⟨hx, hy⟩ := hcs i hil
          have htk := List.take_succ_eq_append_getElem hil
          obtain ⟨u, hue⟩ : ∃ u, u = l[i].1 := ⟨_, rfl⟩
          obtain ⟨y, hye⟩ : ∃ y, y = l[i].2 := ⟨_, rfl⟩
          have hmem : l[i] ∈ l := List.getElem_mem _
          have huy : l[i] = (u, y) := by rw [hue, hye]
          rw [huy] at hmem htk
          rw [← hue] at hx
          rw [← hye] at hy
          have hbl := World.block_lt_of_cell? wr _ hx
          obtain ⟨w1, hw1⟩ : ∃ X : World, X = wr.alloc (.cells #[.int .u64 u, .int .u64 y] 53) := ⟨_, rfl⟩
          have hb1 : Below wr.heap.size wr w1 := by rw [hw1]; exact below1 _ _
          have HB1 := Lib.hid (below_then HB.out HB.out.size hb1)
          have hr1 := HXr.out.2.1.below hb1
          have hc1 : CBox w1 wr.heap.size u y := by rw [hw1]; exact CBox.new _ _ _
          obtain ⟨k0, k1⟩ := hc1.cells
          obtain ⟨r0, r1⟩ := hr1.cells
          have m0 := hr1.marks 0
          have m1 := hr1.marks 1
          have HR1 := Lib.hid hr1
          have HW1 := Lib.hid hw1
          have HMM := Lib.hid (And.intro hmem htk)
          have HBW := Lib.hid (below_then HXr.out.2.2.2.1 HXr.out.2.2.2.1.size hb1)
          have HSW := Lib.hid (show W.heap.size + 2 ≤ w1.heap.size by have := HXr.out.2.2.2.2; have := hb1.size; omega)
          have hi0 : (0 : Int) ≤ (i : Int) := by omega
          have hlt' : (i : Int) < (n : Int) := by omega
          clear hc hcs htk hue hye hmem huy hw1 hb1 hr1 hc1 hne e2
          go_upto_region 7 with fail
          rw [← HW1.out]
          clear HW1 hx hy hbl
          by_cases hlate : P < u
          · have HE := Lib.hid (HLA.out ⟨_, HMM.out.1, hlate⟩)
            have HQ := Lib.hid (show QBox ((w1.setCell ⟨W.heap.size + 1, 0, none⟩ (.slice none 0 0)).setCell ⟨W.heap.size + 1, 1, none⟩ (.int .u64 0)) (W.heap.size + 1) (.slice none 0 0) 0 ∧ Below W.heap.size W ((w1.setCell ⟨W.heap.size + 1, 0, none⟩ (.slice none 0 0)).setCell ⟨W.heap.size + 1, 1, none⟩ (.int .u64 0)) from ⟨HR1.out.put _ _, HBW.out.trans ((QBox.putK w1 _ _ _).below (by have := HSW.out; omega) (fun k e => by omega))⟩)
            go_wp2
            exact bodyPost_ret (results_ct rfl _ _ _ rfl rfl (queue_load HQ.out.1)) rfl ⟨.inr ⟨by rw [HE.out]; decide, by rw [HE.out]; exact ansQ_none _ _ _⟩, HQ.out.2⟩
          · have HA2 := Lib.hid (show ∀ c ∈ l.take (i + 1), c.1 ≤ P from fun c hc => by
              rw [HMM.out.2] at hc
              rcases List.mem_append.1 hc with hc | hc
              · exact HA.out c hc
              · rw [List.mem_singleton.1 hc]; simp only; omega)
            have hle : u ≤ P := by omega
            clear hlate
            go_wp2
            go_roundw
            case rel => exact ⟨i + 1, by omega, by go_num, HB1, HA2⟩
            case measure => simp [intOf]; omega
        · have hin : i = n := by omega
          have HE3 := Lib.hid (HFI.out (fun c hc => HA.out c (by rw [hin, HN.out, List.take_length]; exact hc)))
          obtain ⟨q0, q1⟩ := HXr.out.1.cells
          obtain ⟨r0, r1⟩ := HXr.out.2.1.cells
          have m0 := HXr.out.2.1.marks 0
          have m1 := HXr.out.2.1.marks 1
          clear hin
          by_cases h16 : n = 16
          · have HE := Lib.hid (HE3.out.trans (if_pos (by have := HN.out; omega)))
            have HQ := Lib.hid (show QBox ((wr.setCell ⟨W.heap.size + 1, 0, none⟩ (.slice none 0 0)).setCell ⟨W.heap.size + 1, 1, none⟩ (.int .u64 0)) (W.heap.size + 1) (.slice none 0 0) 0 ∧ Below W.heap.size W ((wr.setCell ⟨W.heap.size + 1, 0, none⟩ (.slice none 0 0)).setCell ⟨W.heap.size + 1, 1, none⟩ (.int .u64 0)) from ⟨HXr.out.2.1.put _ _, HXr.out.2.2.2.1.trans ((QBox.putK wr _ _ _).below (by have := HXr.out.2.2.2.2; omega) (fun k e => by omega))⟩)
            have h16' : (n : Int) = 16 := by omega
            go_wp2
            exact bodyPost_ret (results_ct rfl _ _ _ rfl rfl (queue_load HQ.out.1)) rfl ⟨.inr ⟨by rw [HE.out]; decide, by rw [HE.out]; exact ansQ_none _ _ _⟩, HQ.out.2⟩
          · have HE := Lib.hid (HE3.out.trans (if_neg (by have := HN.out; omega)))
            have h16' : ((n : Int) == 16) = false := by rw [beq_eq_false_iff_ne]; omega
            have h16n : ¬ (n : Int) = 16 := by omega
            obtain ⟨w1, hw1⟩ : ∃ X : World, X = wr.alloc (.cells #[] 53) := ⟨_, rfl⟩
            have hb1 : Below wr.heap.size wr w1 := by rw [hw1]; exact below1 _ _
            have ho1 : w1.ownsRow (W.heap.size + 2) 53 2 (.slice (some ⟨wr.heap.size, 0, none⟩) 0 0) 0 (cvs []) := by rw [hw1]; exact World.ownsRow_lit (base := W.heap.size + 2) (e := 53) (size := 2) wr #[] 0 HXr.out.2.2.2.2 (by decide) rfl
            have HX1 := Lib.hid (show QBox w1 W.heap.size (.slice p n c) over ∧ QBox w1 (W.heap.size + 1) (.slice none 0 0) 0 ∧ CbOut NoS w1 (.slice p n c) l ∧ Below W.heap.size W w1 ∧ W.heap.size + 2 ≤ w1.heap.size from ⟨HXr.out.1.below hb1, HXr.out.2.1.below hb1, HXr.out.2.2.1.below hb1, below_then HXr.out.2.2.2.1 HXr.out.2.2.2.1.size hb1, by have := HXr.out.2.2.2.2; have := hb1.size; omega⟩)
            have HO1 := Lib.hid ho1
            have HW1 := Lib.hid hw1
            obtain ⟨q0', q1'⟩ := HX1.out.1.cells
            rw [hw1] at q0' q1'
            clear hw1 hb1 ho1 h16 r0 r1 m0 m1
            have HNL := Lib.hid (show l.length = n ∧ n ≤ 16 from ⟨HN.out.symm, hg2⟩)
            go_upto_region 13 with (first
              | (at_builtin; rw [← HW1.out]; refine wpList_app_row rfl _ _ rfl (W.heap.size + 2) (.slice (some ⟨wr.heap.size, 0, none⟩) 0 0) 0 [] rfl HO1.out p n c l rfl HX1.out.2.2.1 HZ.out (by have := HNL.out; omega) HX1.out.2.2.2.2 ?_; intro q r w2 ho2 hk2; rw [Nat.zero_add, List.nil_append] at ho2; simp only [Nat.zero_add]; have hs2 : ∀ k, some k = (Value.slice (some ⟨wr.heap.size, 0, none⟩) 0 0).ownBlock → W.heap.size + 2 ≤ k := fun k e => (HO1.out.lt k e.symm).1; have HX2 := Lib.hid (show QBox w2 W.heap.size (.slice p n c) over ∧ QBox w2 (W.heap.size + 1) (.slice none 0 0) 0 ∧ Below W.heap.size W w2 ∧ W.heap.size + 2 ≤ w2.heap.size ∧ w2.ownsRow (W.heap.size + 2) 53 2 (.slice q n r) n (cvs l) from ⟨HX1.out.1.keeps hk2 (fun e => by have := hs2 _ e; omega), HX1.out.2.1.keeps hk2 (fun e => by have := hs2 _ e; omega), HX1.out.2.2.2.1.trans (hk2.below (by have := HX1.out.2.2.2.2; omega) (fun k e => by have := hs2 k e; omega)), by have := HX1.out.2.2.2.2; have := hk2.size; omega, ho2⟩); clear ho2 hk2 hs2 HW1 HX1 HO1 q0 q1 q0' q1'; have q0 := HX2.out.1.cells.1)
              | (at_builtin; refine wpList_app_one rfl _ _ rfl (W.heap.size + 2) (.slice _ n _) n l HNL.out.1 rfl (owns_below HX2.out.2.2.2.2 (below1 _ _)) w2.heap.size 1 P x rfl (by simp) (by simp) (by have := HNL.out; omega) (by have := HX2.out.2.2.2.1; rw [World.size_alloc]; omega) ?_; intro q3 r3 w3 ho3 hk3; have hs3 : ∀ k, some k = (Value.slice _ n _).ownBlock → W.heap.size + 2 ≤ k := fun k e => (HX2.out.2.2.2.2.lt k e.symm).1; have hk3' := (Keeps.of_below (below1 w2 _)).trans hk3; have HX3 := Lib.hid (show QBox w3 W.heap.size (.slice p n c) over ∧ QBox w3 (W.heap.size + 1) (.slice none 0 0) 0 ∧ Below W.heap.size W w3 ∧ W.heap.size + 2 ≤ w3.heap.size ∧ w3.ownsRow (W.heap.size + 2) 53 2 (.slice q3 (n + 1) r3) (n + 1) (cvs (l ++ [(P, x)])) from ⟨HX2.out.1.keeps hk3' (fun e => by have := hs3 _ e; omega), HX2.out.2.1.keeps hk3' (fun e => by have := hs3 _ e; omega), HX2.out.2.2.1.trans (hk3'.below (by have := HX2.out.2.2.2.1; omega) (fun k e => by have := hs3 k e; omega)), by have := HX2.out.2.2.2.1; have := hk3'.size; omega, ho3⟩); clear ho3 hk3 hs3 hk3' HX2 q0; have q0 := HX3.out.1.cells.1; have f0 := HX3.out.1.marks 0))
            obtain ⟨w4, hw4⟩ : ∃ X : World, X = w3.setCell ⟨W.heap.size, 0, none⟩ (.slice q3 (n + 1) r3) := ⟨_, rfl⟩
            rw [← hw4]
            have hk4 : Keeps (fun k => k = W.heap.size) w3 w4 := by rw [hw4]; exact set1K _ _ 0 _
            have hq4 : QBox w4 W.heap.size (.slice q3 (n + 1) r3) over := by rw [hw4]; exact HX3.out.1.put0 _
            have hr4 : QBox w4 (W.heap.size + 1) (.slice none 0 0) 0 := HX3.out.2.1.keeps hk4 (by omega)
            have hb4 : Below W.heap.size W w4 := HX3.out.2.2.1.trans (hk4.below HX3.out.2.2.1.size (fun k e => by omega))
            have ho4 := hk4.row HX3.out.2.2.2.2 (fun g e => by have := (HX3.out.2.2.2.2.lt g e).1; omega)
            obtain ⟨w5, hw5⟩ : ∃ X : World, X = (w4.setCell ⟨W.heap.size + 1, 0, none⟩ (.slice q3 (n + 1) r3)).setCell ⟨W.heap.size + 1, 1, none⟩ (.int .u64 over) := ⟨_, rfl⟩
            have hk5 : Keeps (fun k => k = W.heap.size + 1) w4 w5 := by rw [hw5]; exact QBox.putK _ _ _ _
            have H5 := Lib.hid (show QBox w5 (W.heap.size + 1) (.slice q3 (n + 1) r3) over ∧ w5.ownsRow (W.heap.size + 2) 53 2 (.slice q3 (n + 1) r3) (n + 1) (cvs (l ++ [(P, x)])) ∧ Below W.heap.size W w5 from ⟨by rw [hw5]; exact hr4.put _ _, hk5.row ho4 (fun g e => by have := (ho4.lt g e).1; omega), hb4.trans (hk5.below hb4.size (fun k e => by omega))⟩)
            obtain ⟨q0, q1⟩ := hq4.cells
            obtain ⟨r0, r1⟩ := hr4.cells
            have m0 := hr4.marks 0
            have m1 := hr4.marks 1
            have HW5 := Lib.hid hw5
            clear hw4 hk4 hq4 hr4 hb4 ho4 hw5 hk5 HX3 f0
            go_wp2
            rw [← HW5.out]
            refine bodyPost_ret (results_ct rfl _ _ _ rfl rfl (queue_load H5.out.1)) rfl ⟨.inl ⟨HE.out, ⟨_, rfl, ?_⟩⟩, H5.out.2.2⟩
            rw [← HPP.out, List.length_append, List.length_singleton, HNL.out.1]
            exact H5.out.2.1.mono (by omega)

end Go.Proofs.Ytdagcimkajmkaaa
/-
  Whether two queues are the same: slices.Equal at callbacks, package queue's Same, the reference's Same.
  Conditions: the ranges of Go's types.
-/
namespace Go.Proofs.Ytdagcimkajmkaaa
set_option maxRecDepth 100000
open Go.RowKit Go.Shelf
attribute [local go_sem] Oper.semAt_some

theorem run_cmp_cb (a p a' p' : Int) (w : World) : (Op.equalIn 10000 53 (.agg #[.int .u64 a, .int .u64 p]) (.agg #[.int .u64 a', .int .u64 p'])).run Try.prog w = .ok (decide ((a, p) = (a', p'))) w := by
  rw [Op.equalIn]
  have hst : Try.prog.stoodInHeld 53 = false := by kernel_rfl
  have hpr : ∀ w, Sem.run Try.prog program w = .ok Try.prog w := fun _ => rfl
  simp only [Sem.run_bind, run_underlying Try.underlying53, Result.andThen_ok, hpr, hst, Bool.false_eq_true, if_false]
  have p0 : ∀ (a p : Int) w, (part 23 #[.int .u64 a, .int .u64 p] 0).run Try.prog w = .ok (.int .u64 a) w := fun a p w => by kernel_rfl
  have p1 : ∀ (a p : Int) w, (part 23 #[.int .u64 a, .int .u64 p] 1).run Try.prog w = .ok (.int .u64 p) w := fun a p w => by kernel_rfl
  have e0 : ∀ (p q : Int) w, (Op.equalIn 9999 23 (.int .u64 p) (.int .u64 q)).run Try.prog w = .ok (p == q) w := fun p q w => by rw [run_equalIn_int w 9998 23 .u64 .u64 p q Try.underlying23]
  simp [Sem.run_bind, Result.andThen_ok, p0, p1, e0]
  clear p0 p1 e0 hst hpr
  by_cases h0 : a = a' <;> by_cases h1 : p = p' <;> simp [*]
def neC (c d : Int × Int) : Bool := !decide (c = d)
theorem run_neq_cb (a p a' p' : Int) (w : World) : (binOp .neq 53 (.agg #[.int .u64 a, .int .u64 p]) (.agg #[.int .u64 a', .int .u64 p'])).run Try.prog w = .ok (.bool (neC (a, p) (a', p'))) w := by
  rw [run_neq_struct]
  have := run_cmp_cb a p a' p' w
  simp [this, neC]

set_option maxHeartbeats 8000000 in
theorem equalC_c (v0 v1 : Value) (xs ys : List (Int × Int)) (W : World) (hv0 : CbOut NoS W v0 xs) (hv1 : CbOut NoS W v1 ys) :
    Calls Try.prog 32 #[v0, v1] W fun e w' => e = .returned (.bool (decide (xs = ys))) ∧ Below W.heap.size W w' := by
  obtain ⟨p0, cap0, rfl, hx0, hy0, hc0⟩ := hv0
  obtain ⟨p1, cap1, rfl, hx1, hy1, hc1⟩ := hv1
  go_enter Try.func32, Try.ntmps32
  by_cases hlen : xs.length = ys.length
  · have hne : ((xs.length : Int) != (ys.length : Int)) = false := by rw [bne_eq_false_iff_eq]; omega
    have HL := Lib.hid hlen
    clear hlen
    go_wp2
    clear hne
    go_loopw [13] (fun iv wr => ∃ i : Nat, i ≤ xs.length ∧ iv = .int .i64 i ∧ xs.take i = ys.take i ∧ Below W.heap.size W wr) (fun iv _ => xs.length - (intOf iv).toNat)
    case atStart => exact ⟨0, Nat.zero_le _, rfl, rfl, Below.refl _ _⟩
    case round =>
      obtain ⟨i, hi, rfl, heq, hB⟩ := hrel
      by_cases hlt : i < xs.length
      · obtain ⟨b0, off0, rfl, -, hcs0⟩ := hc0 (by intro e; rw [e] at hlt; cases hlt)
        have hlt1 : i < ys.length := by have := HL.out; omega
        obtain ⟨b1, off1, rfl, -, hcs1⟩ := hc1 (by intro e; rw [e] at hlt1; cases hlt1)
        obtain ⟨hx, hx2⟩ := hcs0 i hlt
        obtain ⟨hy, hy2⟩ := hcs1 i hlt1
        have ha := List.take_succ_eq_append_getElem hlt
        have hb := List.take_succ_eq_append_getElem hlt1
        obtain ⟨x, hxe⟩ : ∃ x, x = xs[i] := ⟨_, rfl⟩
        obtain ⟨y, hye⟩ : ∃ y, y = ys[i] := ⟨_, rfl⟩
        rw [← hxe] at hx hx2 ha
        rw [← hye] at hy hy2 hb
        obtain ⟨x0, x1⟩ := x
        obtain ⟨y0, y1⟩ := y
        simp only at hx hx2 hy hy2
        have hx' := below_cell hB hx
        have hx2' := below_cell hB hx2
        have hy' := below_cell hB hy
        have hy2' := below_cell hB hy2
        have hnq := fun w => run_neq_cb x0 x1 y0 y1 w
        have HE := Lib.hid heq
        have HA := Lib.hid ha
        have HB := Lib.hid hb
        have HXY := Lib.hid (And.intro hxe hye)
        clear hx hy hx2 hy2 hcs0 hcs1 heq ha hb hxe hye
        cases hxy : neC (x0, x1) (y0, y1) with
        | false =>
          rw [hxy] at hnq
          have HXQ := Lib.hid (show (x0, x1) = (y0, y1) by unfold neC at hxy; simpa using hxy)
          clear hxy
          go_wp2
          go_quiet (fail)
          go_wp2
          all_goals
            go_roundw
            case rel => exact ⟨i + 1, by omega, by go_num, by rw [HA.out, HB.out, HE.out, HXQ.out], below_drewN hB _⟩
            case measure => simp [intOf]; omega
        | true =>
          rw [hxy] at hnq
          have hr : decide (xs = ys) = false := by
            rw [decide_eq_false_iff_not]
            intro e
            subst e
            have h1 := HXY.out.1.trans HXY.out.2.symm
            unfold neC at hxy
            rw [h1] at hxy
            simp at hxy
          have HR := Lib.hid hr
          clear hr hxy
          go_wp2
          go_quiet (fail)
          go_wp2
          all_goals go_ret
          all_goals exact ⟨ret_bool HR.out.symm, below_drewN hB _⟩
      · have heq2 : xs = ys := by rwa [List.take_of_length_le (by omega), List.take_of_length_le (by have := HL.out; omega)] at heq
        have HE := Lib.hid heq2
        clear heq heq2
        go_wp2
        go_ret
        exact ⟨ret_bool (by simp [HE.out]), hB⟩
  · have hne : ((xs.length : Int) != (ys.length : Int)) = true := by rw [bne_iff_ne]; omega
    have hr : decide (xs = ys) = false := by rw [decide_eq_false_iff_not]; intro e; rw [e] at hlen; exact hlen rfl
    have HR := Lib.hid hr
    clear hr hlen
    go_wp2
    go_ret
    exact ⟨ret_bool HR.out.symm, Below.refl _ _⟩

def sameB (o o' : Int) (l l' : List (Int × Int)) : Bool := decide (o = o') && decide (l = l')
/-- Two boxes. -/
def wQ2 (W : World) (v : Value) (o : Int) (v' : Value) (o' : Int) : World := (W.alloc (.cells #[v, .int .u64 o] 25)).alloc (.cells #[v', .int .u64 o'] 25)
theorem wQ2_facts (W : World) (v : Value) (o : Int) (v' : Value) (o' : Int) : QBox (wQ2 W v o v' o') W.heap.size v o ∧ QBox (wQ2 W v o v' o') (W.heap.size + 1) v' o' ∧ Below W.heap.size W (wQ2 W v o v' o') ∧ (wQ2 W v o v' o').heap.size = W.heap.size + 2 := by
  refine ⟨(QBox.new W _ _).below (below1 _ _), ?_, below2 _ _ _, by simp [wQ2]⟩
  have := QBox.new (W.alloc (.cells #[v, .int .u64 o] 25)) v' o'
  rwa [World.size_alloc] at this

set_option maxHeartbeats 8000000 in
theorem same_c (v v' : Value) (o o' : Int) (l l' : List (Int × Int)) (W : World) (hv : CbOut NoS W v l) (hv' : CbOut NoS W v' l') :
    Calls Try.prog 23 #[.agg #[v, .int .u64 o], .agg #[v', .int .u64 o']] W fun e w' => e = .returned (.bool (sameB o o' l l')) ∧ Below W.heap.size W w' := by
  obtain ⟨w0, hw0⟩ : ∃ X, X = wQ2 W v o v' o' := ⟨_, rfl⟩
  have HF := Lib.hid (wQ2_facts W v o v' o')
  rw [← hw0] at HF
  have HE := Lib.hid (equalC_c v v' l l' w0 (hv.below HF.out.2.2.1) (hv'.below HF.out.2.2.1))
  obtain ⟨a0, a1⟩ := HF.out.1.cells
  obtain ⟨b0, b1⟩ := HF.out.2.1.cells
  obtain ⟨p, c, rfl, -⟩ := hv
  obtain ⟨p', c', rfl, -⟩ := hv'
  unfold wQ2 at hw0
  rw [hw0] at a0 a1 b0 b1
  obtain ⟨R, hR⟩ : ∃ R, R = sameB o o' l l' := ⟨_, rfl⟩
  rw [← hR]
  have HR := Lib.hid hR
  have HW := Lib.hid hw0
  clear hR hw0
  by_cases ho : o = o'
  · have hoo : (o == o') = true := by rw [beq_iff_eq]; exact ho
    have HRR := Lib.hid (show R = decide (l = l') by rw [HR.out]; unfold sameB; rw [decide_eq_true ho, Bool.true_and])
    subst ho
    clear hoo
    go_enter Try.func23, Try.ntmps23
    go_wp2_with fail
    rw [← HW.out]
    (with_reducible refine HE.out.mono ?_)
    rintro e w1 ⟨rfl, hb1⟩
    rw [← HRR.out]
    have HB := Lib.hid (below_then HF.out.2.2.1 HF.out.2.2.1.size hb1)
    clear hb1 a0 a1 b0 b1
    go_wp2
    go_ret
    exact ⟨rfl, HB.out⟩
  · have hoo : (o == o') = false := by rw [beq_eq_false_iff_ne]; exact ho
    have HRR := Lib.hid (show R = false by rw [HR.out]; unfold sameB; rw [decide_eq_false ho, Bool.false_and])
    go_enter Try.func23, Try.ntmps23
    go_wp2
    rw [← HW.out]
    go_ret
    exact ⟨by rw [HRR.out]; rfl, HF.out.2.2.1⟩

set_option maxHeartbeats 16000000 in
theorem rsame_c (v v' : Value) (o o' : Int) (l l' : List (Int × Int)) (W : World) (hv : CbOut NoS W v l) (hv' : CbOut NoS W v' l') :
    Calls Try.prog 12 #[.agg #[v, .int .u64 o], .agg #[v', .int .u64 o']] W fun e w' => e = .returned (.bool (sameB o o' l l')) ∧ Below W.heap.size W w' := by
  obtain ⟨w0, hw0⟩ : ∃ X, X = wQ2 W v o v' o' := ⟨_, rfl⟩
  have HF := Lib.hid (wQ2_facts W v o v' o')
  rw [← hw0] at HF
  have HV := Lib.hid (And.intro (hv.below HF.out.2.2.1) (hv'.below HF.out.2.2.1))
  obtain ⟨a0, a1⟩ := HF.out.1.cells
  obtain ⟨b0, b1⟩ := HF.out.2.1.cells
  obtain ⟨p, c, rfl, hlc, hcm, -⟩ := hv
  obtain ⟨p', c', rfl, hlc', hcm', -⟩ := hv'
  obtain ⟨n, hn⟩ : ∃ n, n = l.length := ⟨_, rfl⟩
  obtain ⟨m, hm⟩ : ∃ m, m = l'.length := ⟨_, rfl⟩
  unfold wQ2 at hw0
  rw [hw0] at a0 a1 b0 b1
  obtain ⟨R, hR⟩ : ∃ R, R = sameB o o' l l' := ⟨_, rfl⟩
  rw [← hR]
  rw [← hn] at HF HV a0 a1 b0 b1 hw0 hlc ⊢
  rw [← hm] at HF HV a0 a1 b0 b1 hw0 hlc' ⊢
  have HR := Lib.hid hR
  have HW := Lib.hid hw0
  have HN := Lib.hid (And.intro hn hm)
  clear hR hw0 hn hm
  by_cases ho : o = o'
  · subst ho
    by_cases hnm : n = m
    · have hnn : ((n : Int) != (m : Int)) = false := by rw [bne_eq_false_iff_eq]; omega
      have HRR := Lib.hid (show R = decide (l = l') by rw [HR.out]; unfold sameB; rw [decide_eq_true (rfl : o = o), Bool.true_and])
      subst hnm
      go_enter Try.func12, Try.ntmps12
      go_upto_region 3 with fail
      rw [← HW.out]
      clear a0 a1 b0 b1 hnn
      obtain ⟨a0, a1⟩ := HF.out.1.cells
      go_wp2
      clear a0 a1
      go_loopw [24] (fun iv wr => ∃ i : Nat, i ≤ n ∧ iv = .int .i64 i ∧ Hid (l.take i = l'.take i) ∧ Hid (QBox wr (W.heap.size + 1) (.slice p' n c') o ∧ CbOut NoS wr (.slice p n c) l ∧ CbOut NoS wr (.slice p' n c') l' ∧ Below W.heap.size W wr)) (fun iv _ => n - (intOf iv).toNat)
      case atStart => exact ⟨0, Nat.zero_le _, rfl, Lib.hid (by simp), HF.out.2.1, HV.out.1, HV.out.2, HF.out.2.2.1⟩
      case round =>
        obtain ⟨i, hi, rfl, HE, HX⟩ := hrel
        by_cases hlt : i < n
        · have hl1 : i < l.length := by have := HN.out; omega
          have hl2 : i < l'.length := by have := HN.out; omega
          obtain ⟨q, d, e, -, -, hc0⟩ := HX.out.2.1
          injection e with e1 e2 e3
          subst e1 e3
          obtain ⟨q', d', e, -, -, hc1⟩ := HX.out.2.2.1
          injection e with e1 e2' e3
          subst e1 e3
          obtain ⟨bb0, off0, rfl, -, hcs0⟩ := hc0 (by intro e; rw [e] at hl1; cases hl1)
          obtain ⟨bb1, off1, rfl, -, hcs1⟩ := hc1 (by intro e; rw [e] at hl2; cases hl2)
          obtain ⟨hx, hx2⟩ := hcs0 i hl1
          obtain ⟨hy, hy2⟩ := hcs1 i hl2
          have ha := List.take_succ_eq_append_getElem hl1
          have hb := List.take_succ_eq_append_getElem hl2
          obtain ⟨x, hxe⟩ : ∃ x, x = l[i] := ⟨_, rfl⟩
          obtain ⟨y, hye⟩ : ∃ y, y = l'[i] := ⟨_, rfl⟩
          rw [← hxe] at hx hx2 ha
          rw [← hye] at hy hy2 hb
          obtain ⟨x0, x1⟩ := x
          obtain ⟨y0, y1⟩ := y
          simp only at hx hx2 hy hy2
          have hnq := fun w => run_neq_cb x0 x1 y0 y1 w
          have HA := Lib.hid ha
          have HB := Lib.hid hb
          have HXY := Lib.hid (And.intro hxe hye)
          obtain ⟨w1, hw1⟩ : ∃ X : World, X = wr.alloc (.cells #[.int .u64 x0, .int .u64 x1] 53) := ⟨_, rfl⟩
          have hb1 : Below wr.heap.size wr w1 := by rw [hw1]; exact below1 _ _
          have hc1b : CBox w1 wr.heap.size x0 x1 := by rw [hw1]; exact CBox.new _ _ _
          obtain ⟨k0, k1⟩ := hc1b.cells
          obtain ⟨b0, b1⟩ := (HX.out.1.below hb1).cells
          have hy' := below_cell hb1 hy
          have hy2' := below_cell hb1 hy2
          have HX1 := Lib.hid (show QBox w1 (W.heap.size + 1) (.slice (some ⟨bb1, off1, none⟩) n c') o ∧ CbOut NoS w1 (.slice (some ⟨bb0, off0, none⟩) n c) l ∧ CbOut NoS w1 (.slice (some ⟨bb1, off1, none⟩) n c') l' ∧ Below W.heap.size W w1 from ⟨HX.out.1.below hb1, HX.out.2.1.below hb1, HX.out.2.2.1.below hb1, below_then HX.out.2.2.2 HX.out.2.2.2.size hb1⟩)
          have HX1n := Lib.hid (fun j => (show QBox (w1.drewN j) (W.heap.size + 1) (.slice (some ⟨bb1, off1, none⟩) n c') o ∧ CbOut NoS (w1.drewN j) (.slice (some ⟨bb0, off0, none⟩) n c) l ∧ CbOut NoS (w1.drewN j) (.slice (some ⟨bb1, off1, none⟩) n c') l' ∧ Below W.heap.size W (w1.drewN j) from
            ⟨HX1.out.1.below (below_drewN (Below.refl _ _) j), HX1.out.2.1.below (below_drewN (Below.refl _ _) j), HX1.out.2.2.1.below (below_drewN (Below.refl _ _) j), below_drewN HX1.out.2.2.2 j⟩))
          have HW1 := Lib.hid hw1
          clear hcs0 hcs1 hc0 hc1 ha hb hxe hye hb1 hc1b hw1 hy hy2 e2 e2'
          go_upto_region 6 with fail
          rw [← HW1.out]
          clear HW1 hx hx2
          obtain ⟨cz, hcz⟩ : ∃ z, z = wr.heap.size := ⟨_, rfl⟩
          rw [← hcz] at k0 k1 ⊢
          clear hcz
          cases hxy : neC (x0, x1) (y0, y1) with
          | false =>
            rw [hxy] at hnq
            have HXQ := Lib.hid (show (x0, x1) = (y0, y1) by unfold neC at hxy; simpa using hxy)
            clear hxy
            go_quiet (fail)
            go_wp2
            all_goals
              go_roundw
              case rel => exact ⟨i + 1, by omega, by go_num, Lib.hid (by rw [HA.out, HB.out, HE.out, HXQ.out]), Lib.hid (HX1n.out _)⟩
              case measure => simp [intOf]; omega
          | true =>
            rw [hxy] at hnq
            have hr : R = false := by
              rw [HRR.out, decide_eq_false_iff_not]
              intro e
              subst e
              have h1 := HXY.out.1.trans HXY.out.2.symm
              unfold neC at hxy
              rw [h1] at hxy
              simp at hxy
            have HRF := Lib.hid hr
            clear hr hxy
            go_quiet (fail)
            go_wp2
            all_goals go_ret
            all_goals exact ⟨ret_bool HRF.out.symm, (HX1n.out _).2.2.2⟩
        · have heq2 : l = l' := by
            have := HE.out
            have hN := HN.out
            rwa [List.take_of_length_le (by omega), List.take_of_length_le (by omega)] at this
          have HEE := Lib.hid (show R = true by rw [HRR.out, decide_eq_true heq2])
          clear heq2
          go_wp2
          go_ret
          exact ⟨ret_bool HEE.out.symm, HX.out.2.2.2⟩
    · have hnn : ((n : Int) != (m : Int)) = true := by rw [bne_iff_ne]; omega
      have HRR := Lib.hid (show R = false by rw [HR.out]; unfold sameB; rw [decide_eq_false (show ¬ l = l' by intro e; apply hnm; have := HN.out; rw [this.1, this.2, e]), Bool.and_false])
      go_enter Try.func12, Try.ntmps12
      go_wp2
      rw [← HW.out]
      go_ret
      exact ⟨by rw [HRR.out]; rfl, HF.out.2.2.1⟩
  · have hoo : (o != o') = true := by rw [bne_iff_ne]; exact ho
    have HRR := Lib.hid (show R = false by rw [HR.out]; unfold sameB; rw [decide_eq_false ho, Bool.false_and])
    go_enter Try.func12, Try.ntmps12
    go_wp2
    rw [← HW.out]
    go_ret
    exact ⟨by rw [HRR.out]; rfl, HF.out.2.2.1⟩

end Go.Proofs.Ytdagcimkajmkaaa
/-
  What the statements of layer 13 keep between their steps.
  Conditions: as each has them.
-/
namespace Go.Proofs.Ytdagcimkajmkaaa
set_option maxRecDepth 100000
open Go.RowKit Go.Shelf
attribute [local go_sem] Oper.semAt_some

structure QpI (W : World) (v : Value) (over : Int) (z Z : Nat) (p : Option Addr) (n c : Nat) (ls : List (Int × Int)) (w : World) : Prop where
  x : QBox w W.heap.size v over
  q : QBox w z (.slice p n c) over
  row : CbOut (fun k => Z ≤ k) w (.slice p n c) ls
  nz : p = none → c = 0
  b : Below W.heap.size W w
  zs : Z ≤ w.heap.size
  z1 : W.heap.size < Z ∧ z < Z ∧ W.heap.size ≤ z
theorem QpI.below {W : World} {v : Value} {over : Int} {z Z : Nat} {p : Option Addr} {n c : Nat} {ls : List (Int × Int)} {w w' : World} (h : QpI W v over z Z p n c ls w) (hb : Below w.heap.size w w') : QpI W v over z Z p n c ls w' :=
  ⟨h.x.below hb, h.q.below hb, h.row.below hb, h.nz, below_then h.b h.b.size hb, Nat.le_trans h.zs hb.size, h.z1⟩
theorem QpI.keeps {S : Nat → Prop} {W : World} {v : Value} {over : Int} {z Z : Nat} {p : Option Addr} {n c : Nat} {ls : List (Int × Int)} {w w' : World} (h : QpI W v over z Z p n c ls w) (hk : Keeps S w w') (hS : ∀ k, S k → Z ≤ k) : QpI W v over z Z p n c ls w' := by
  obtain ⟨h1, h2, h3⟩ := h.z1
  have hk' : Keeps (fun k => Z ≤ k) w w' := hk.sub (fun k _ hs => hS k hs)
  exact ⟨h.x.keeps hk' (by omega), h.q.keeps hk' (by omega), h.row.keeps hk', h.nz, h.b.trans (hk'.below h.b.size (fun k e => by omega)), Nat.le_trans h.zs hk.size, h.z1⟩
theorem rowBlk_out {B : Nat} {u : Value} {m : List (Int × Int)} {w : World} (h : OutQ B u m w) : ∀ k, rowBlk u m k → B ≤ k := fun k ⟨hne, off, n, c, e⟩ => by
  obtain ⟨p, cap, e', _, _, hc⟩ := h.1
  obtain ⟨b, off', rfl, hB, _⟩ := hc hne
  rw [e] at e'
  injection e' with e' _ _
  injection e' with e'
  injection e' with e' _
  omega
theorem out_of_owns {B : Nat} {W : World} {v : Value} {l : List (Int × Int)} {n : Nat} (h : W.ownsRow B 53 2 v n (cvs l)) : OutQ B v l W := by
  obtain ⟨p, c, rfl⟩ := owns_slice h
  have hl := h.1
  rw [cvs_len] at hl
  obtain rfl : n = l.length := by omega
  have := drop_cb h 0 (Nat.zero_le _) p (fun _ => by cases p <;> simp [Addr.add_zero']) c (by have := (cb_of_owns h).len; omega) (by have := (cb_of_owns h).len; omega)
  exact this
/-- A queue that is handed out, in memory made in between. -/
def OutS (Z za : Nat) (v : Value) (l : List (Int × Int)) (w : World) : Prop := CbOut (fun q => q < Z ∨ za ≤ q) w v l ∧ CbFree w v l
theorem OutS.below {Z za : Nat} {v : Value} {l : List (Int × Int)} {w w' : World} (h : OutS Z za v l w) (hb : Below w.heap.size w w') : OutS Z za v l w' := ⟨h.1.below hb, h.2.below hb⟩
theorem OutS.of {B Z za : Nat} {v : Value} {l : List (Int × Int)} {w : World} (h : OutQ B v l w) (hB : Z ≤ B) (hz : za = w.heap.size) : OutS Z za v l w := ⟨h.1.apart (fun q hq => by omega), h.2⟩
theorem OutS.out {Z za : Nat} {v : Value} {l : List (Int × Int)} {w : World} (h : OutS Z za v l w) : OutQ Z v l w := ⟨h.1.sub (fun _ hq => .inl hq), h.2⟩
theorem OutS.keeps {S : Nat → Prop} {Z za : Nat} {v : Value} {l : List (Int × Int)} {w w' : World} (h : OutS Z za v l w) (hk : Keeps S w w') (hS : ∀ k, S k → k < Z ∨ za ≤ k) : OutS Z za v l w' := by
  refine ⟨h.1.keeps (hk.sub (fun k _ hs => hS k hs)), fun b off n c e hne => ?_⟩
  obtain ⟨cur, t, hx⟩ := h.2 b off n c e hne
  obtain ⟨p, cap, e', _, _, hc⟩ := h.1
  obtain ⟨b', off', rfl, hB, _⟩ := hc hne
  rw [e] at e'
  injection e' with e' _ _
  injection e' with e'
  injection e' with e' _
  subst e'
  exact ⟨cur, t, (hk.block b (Array.getElem?_eq_some_iff.1 hx).1 (fun hs => hB (hS b hs))).trans hx⟩
theorem sameB_self (o : Int) (l : List (Int × Int)) : sameB o o l l = true := by unfold sameB; simp

/-- Of Put, and End, by parts. -/
def pO (E o : Int) : Int := if E = 0 then o else 0
def pL (E : Int) (l : List (Int × Int)) : List (Int × Int) := if E = 0 then l else []
theorem putQ_any {B : Nat} {over : Int} {l : List (Int × Int)} {x ahead : Int} {e : Ending} {w : World} (h : PutQ B over l x ahead e w) : AnsQ B (putE over l ahead) (pO (putE over l ahead) over) (pL (putE over l ahead) (l ++ [(over + ahead, x)])) e w := by
  rcases h with ⟨h, k⟩ | ⟨h, k⟩
  · rw [h]; exact k
  · unfold pO pL; rw [if_neg h, if_neg h]; exact k
theorem endQ_any {B : Nat} {over : Int} {l : List (Int × Int)} {x : Int} {e : Ending} {w : World} (h : EndQ B over l x e w) : AnsQ B (endE over l x) (pO (endE over l x) x) (pL (endE over l x) l) e w := by
  rcases h with ⟨h, k⟩ | ⟨h, k⟩
  · rw [h]; exact k
  · unfold pO pL; rw [if_neg h, if_neg h]; exact k

end Go.Proofs.Ytdagcimkajmkaaa
namespace Go.Proofs.Ytdagcimkajmkaaa
open Go.ChangeShapes Go.WideShapes Go.ChangeAt Go.RowKit Go.Deep Go.Joins

theorem choose_lt' {α : Type} [Inhabited α] {P : Nat → α → Prop} {n : Nat} (h : ∀ i, i < n → ∃ x, P i x) : ∃ F : Nat → α, ∀ i, i < n → P i (F i) := by
  classical
  refine ⟨fun i => if hi : i < n then (h i hi).choose else default, fun i hi => ?_⟩
  simp only [hi, dif_pos]
  exact (h i hi).choose_spec
theorem spot_none {W : World} {b off : Nat} {sp : Option Nat} {u : Value} (h : W.cell? ⟨b, off, sp⟩ = some u) : sp = none := by
  cases sp with
  | none => rfl
  | some x =>
    simp only [World.cell?] at h
    split at h <;> simp at h
theorem nums_open {H : Type} {enc : TypeId × Value → H} {P : Program} {W : World} {base : Nat} {t e : TypeId} {k : IntKind} {v : Value} {d : DataW H} {ps : List MemPlace} (ht : P.underlying t = some (.slice e)) (he : P.underlying e = some (.int k)) (hc : P.cellsOf e = 1)
    (hval : Value.okWide P W .any base t v) (h : DataW.Trod enc P W 0 (fun _ => true) true t v d ps) :
    ∃ ns : List Int, NumsAt W k v ns ∧ (∀ x ∈ ns, (Lit.int k x).wf = true) ∧ ns.length ≤ 9223372036854775807 := by
  obtain ⟨a0, len, cap, rfl⟩ := okWide_slice ht hval
  obtain ⟨fuel, hf⟩ := h
  rcases open_ints ht he hc hf with ⟨hcs, _⟩ | ⟨a, len', cap', zs, hcs, _, hl, hm, hz, _, hcell, hwz⟩
  · simp [Value.cells] at hcs
    obtain ⟨rfl, rfl, rfl⟩ := hcs
    exact ⟨[], ⟨_, _, rfl, fun h => absurd rfl h⟩, (fun x hx => by cases hx), by decide⟩
  · simp [Value.cells] at hcs
    obtain ⟨rfl, rfl, rfl⟩ := hcs
    simp only [if_true] at hz
    have hlen : (zs.take len).length = len := List.length_take_of_le (by omega)
    refine ⟨zs.take len, ⟨_, _, by rw [hlen], fun hne => ?_⟩, fun x hx => hwz x (List.mem_of_mem_take hx), by rw [hlen]; unfold maxLen at hm; omega⟩
    have hpos : 0 < len := by
      rcases Nat.eq_zero_or_pos len with e | e
      · subst e; exact absurd (List.take_zero) hne
      · exact e
    obtain ⟨b, off, sp⟩ := a
    have hspot : sp = none := by
      have h0 := hcell 0 (by omega)
      simp only [Addr.add, if_true, World.cell?] at h0
      split at h0
      · cases sp with
        | none => rfl
        | some x => simp at h0
      · cases h0
    subst hspot
    refine ⟨b, off, rfl, fun i hi => ?_⟩
    rw [hlen] at hi
    have h1 := hcell i (by omega)
    rw [addr_add_off, List.getD_eq_getElem?_getD, List.getElem?_eq_getElem (by omega)] at h1
    simpa using h1


set_option maxRecDepth 100000 in
theorem cbs_open {H : Type} {enc : TypeId × Value → H} {W : World} {v : Value} {n : Nat} {y : DataW H × List MemPlace}
    (hf : DataW.trod enc Try.prog W 0 (fun _ => true) true n 22 [v] = some y) :
    ∃ bs : List (Int × Int), CbOut NoS W v bs ∧ NilZ v ∧ RgL bs := by
  have hce : Try.prog.cellsOf 53 = 2 := by kernel_rfl
  have hcu : Try.prog.cellsOf 23 = 1 := by kernel_rfl
  rcases open_slice Try.underlying22 hf with ⟨hcs, _⟩ | ⟨a, len, cap, m, n, D, Pl, hcs, _, hl, hm, hmm, _, hall⟩
  · simp only [List.cons.injEq, and_true] at hcs
    subst hcs
    exact ⟨[], ⟨_, _, rfl, by simp, by omega, fun h => absurd rfl h⟩, fun p n c e _ => (by injection e with _ _ e; exact e.symm), fun c hc => by cases hc⟩
  · simp only [List.cons.injEq, and_true] at hcs
    subst hcs
    simp only [if_true] at hmm
    have hone : ∀ i, i < len → ∃ g : Int × Int, W.cell? (a.add (i * 2)) = some (.int .u64 g.1) ∧ W.cell? (a.add (i * 2 + 1)) = some (.int .u64 g.2) ∧ 0 ≤ g.1 ∧ g.1 < 18446744073709551616 ∧ 0 ≤ g.2 ∧ g.2 < 18446744073709551616 := by
      intro i hi
      obtain ⟨cs', hc, ht⟩ := hall i (by omega)
      rw [hce] at hc
      obtain ⟨_, hcl, hat⟩ := World.cells?_some hc
      obtain ⟨xs, k, _, _, _, hlx, hx⟩ := DataW.trod_struct Try.underlying53 ht
      have hlx : xs.length = 2 := hlx
      match cs', hcl with
      | [c0, c1], _ =>
        have h0 : DataW.trod enc Try.prog W 0 (fun _ => true) true k 23 (([c0, c1].drop 0).take (Try.prog.cellsOf 23)) = xs[0]? := hx 0 _ rfl
        have h1 : DataW.trod enc Try.prog W 0 (fun _ => true) true k 23 (([c0, c1].drop 1).take (Try.prog.cellsOf 23)) = xs[1]? := hx 1 _ rfl
        rw [hcu] at h0 h1
        simp only [List.drop_zero, List.take_succ_cons, List.take_zero, List.drop_succ_cons] at h0 h1
        rw [List.getElem?_eq_getElem (by omega)] at h0 h1
        have e0 := hat 0 (by decide)
        have e1 := hat 1 (by decide)
        rw [Go.Deep.add_add] at e0 e1
        obtain ⟨x0, y0, _, w0⟩ := DataW.trod_int (t := 23) Try.underlying23 h0
        obtain ⟨x1, y1, _, w1⟩ := DataW.trod_int (t := 23) Try.underlying23 h1
        simp only [List.cons.injEq, and_true] at y0 y1
        subst y0 y1
        have r0 : 0 ≤ x0 ∧ x0 < 18446744073709551616 := by
          have : 0 ≤ x0 ∧ x0 ≤ 18446744073709551615 := by simpa [Lit.wf, IntKind.min, IntKind.max, IntKind.signed, IntKind.bits] using w0
          omega
        have r1 : 0 ≤ x1 ∧ x1 < 18446744073709551616 := by
          have : 0 ≤ x1 ∧ x1 ≤ 18446744073709551615 := by simpa [Lit.wf, IntKind.min, IntKind.max, IntKind.signed, IntKind.bits] using w1
          omega
        exact ⟨(x0, x1), by simpa using e0, by simpa using e1, r0.1, r0.2, r1.1, r1.2⟩
    obtain ⟨F, hF⟩ := choose_lt' hone
    have hlen : ((List.range len).map F).length = len := by simp
    refine ⟨(List.range len).map F, ⟨_, _, by rw [hlen], by rw [hlen]; exact hl, by unfold maxLen at hm; omega, fun hne => ?_⟩, fun p n c e h => (by injection e with e _ _; rw [h] at e; cases e), fun c hc => ?_⟩
    · have hpos : 0 < len := by
        rcases Nat.eq_zero_or_pos len with e | e
        · subst e; exact absurd rfl hne
        · exact e
      obtain ⟨b, off, sp⟩ := a
      have h0 := (hF 0 hpos).1
      rw [Nat.zero_mul, Addr.add_zero'] at h0
      obtain rfl := spot_none h0
      refine ⟨b, off, rfl, fun h => h, fun i hi => ?_⟩
      rw [hlen] at hi
      have hg := hF i hi
      rw [addr_add_off, addr_add_off] at hg
      simp only [List.getElem_map, List.getElem_range]
      exact ⟨hg.1, by rw [Nat.add_assoc]; exact hg.2.1⟩
    · obtain ⟨i, hi, rfl⟩ := List.mem_map.1 hc
      exact (hF i (List.mem_range.1 hi)).2.2

set_option maxRecDepth 100000 in
theorem queue_open {H : Type} {enc : TypeId × Value → H} {W : World} {base : Nat} {v : Value} {d : DataW H} {ps : List MemPlace}
    (hval : Value.okWide Try.prog W .any base 25 v) (h : DataW.Trod enc Try.prog W 0 (fun _ => true) true 25 v d ps) :
    ∃ (u : Value) (over : Int) (bs : List (Int × Int)), v = .agg #[u, .int .u64 over] ∧ CbOut NoS W u bs ∧ NilZ u ∧ RgL bs ∧ (0 ≤ over ∧ over < 18446744073709551616) := by
  obtain ⟨v0, v1, y0, y1, n, rfl, _, _, h0, h1⟩ := open_agg2 Try.underlying25 (by kernel_rfl) (by kernel_rfl) hval h
  obtain ⟨k, hk, _, wk⟩ := DataW.trod_int (t := 23) Try.underlying23 h1
  simp only [List.cons.injEq, and_true] at hk
  subst hk
  obtain ⟨bs, hb, hz, hr⟩ := cbs_open h0
  have : 0 ≤ k ∧ k ≤ 18446744073709551615 := by simpa [Lit.wf, IntKind.min, IntKind.max, IntKind.signed, IntKind.bits] using wk
  exact ⟨v0, k, bs, rfl, hb, hz, hr, this.1, by omega⟩

theorem array2 {cs : Array Value} (h : cs.size = 2) : ∃ a b, cs = #[a, b] := by
  obtain ⟨l⟩ := cs
  match l, h with
  | [a, b], _ => exact ⟨a, b, rfl⟩
theorem trod_array2 {H : Type} {enc : TypeId × Value → H} {P : Program} {w : World} {base : Nat} {spare : Nat → Bool} {held : Bool} {t e : TypeId} {fuel : Nat} {c0 c1 : Value} {x : DataW H × List MemPlace} (ht : P.underlying t = some (.array 2 e)) (hce : P.cellsOf e = 1)
    (h : DataW.trod enc P w base spare held fuel t [c0, c1] = some x) :
    ∃ y0 y1 n, DataW.trod enc P w base spare held n e [c0] = some y0 ∧ DataW.trod enc P w base spare held n e [c1] = some y1 := by
  cases fuel with
  | zero => simp [DataW.trod] at h
  | succ n =>
    unfold DataW.trod at h
    rw [ht] at h
    have r2 : List.range 2 = [0, 1] := rfl
    simp [r2, hce] at h
    obtain ⟨_, h⟩ := h
    cases h0 : DataW.trod enc P w base spare held n e [c0] with
    | none => simp [h0] at h
    | some y0 =>
      cases h1 : DataW.trod enc P w base spare held n e [c1] with
      | none => simp [h0, h1] at h
      | some y1 => exact ⟨y0, y1, n, h0, h1⟩
set_option maxRecDepth 100000 in
theorem arr2w_open {H : Type} {enc : TypeId × Value → H} {W : World} {base : Nat} {v : Value} {d : DataW H} {ps : List MemPlace}
    (hval : Value.okWide Try.prog W .any base 27 v) (h : DataW.Trod enc Try.prog W 0 (fun _ => true) true 27 v d ps) :
    ∃ x y, v = .agg #[.int .u64 x, .int .u64 y] := by
  have hval2 := hval
  unfold Value.okWide at hval2
  rw [Try.underlying27] at hval2
  obtain ⟨cs, rfl, hsz, _⟩ := hval2
  obtain ⟨c0, c1, rfl⟩ := array2 (hsz.trans (by kernel_rfl))
  obtain ⟨fuel, hf⟩ := h
  obtain ⟨y0, y1, n, h0, h1⟩ := trod_array2 Try.underlying27 (by kernel_rfl) hf
  obtain ⟨x, hx, _, wx⟩ := DataW.trod_int (t := 23) Try.underlying23 h0
  obtain ⟨y, hy, _, wy⟩ := DataW.trod_int (t := 23) Try.underlying23 h1
  simp only [List.cons.injEq, and_true] at hx hy
  subst hx hy
  exact ⟨x, y, rfl⟩
theorem rg_u64 {ns : List Int} (h : ∀ x ∈ ns, (Lit.int .u64 x).wf = true) : ∀ w ∈ ns, 0 ≤ w ∧ w < 18446744073709551616 := fun w hw => by
  have := h w hw
  have : 0 ≤ w ∧ w ≤ 18446744073709551615 := by simpa [Lit.wf, IntKind.min, IntKind.max, IntKind.signed, IntKind.bits] using this
  omega
theorem rg_i64 {ns : List Int} (h : ∀ x ∈ ns, (Lit.int .i64 x).wf = true) : ∀ w ∈ ns, -9223372036854775808 ≤ w ∧ w ≤ 9223372036854775807 := fun w hw => by
  have := h w hw
  simpa [Lit.wf, IntKind.min, IntKind.max, IntKind.signed, IntKind.bits] using this

end Go.Proofs.Ytdagcimkajmkaaa
