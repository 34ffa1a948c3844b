/-
  Package queue: done tells what the callbacks are that are done, in order.
  Conditions: who ranges over them leaves the queue's box and row as they are.
-/
import Derived.Test.YtdllhiihmpinoaaGreatVB5
import Derived.Laws.CopyOwn
import Derived.BigRegion
import Derived.Deep.Cut
import Derived.Deep.CutBlock
import Derived.WalkSpells
import Derived.Laws.MakeOwn
import Derived.Maps.AppendAt
/-
  Package queue: which queues may be.
  Conditions: the ranges of Go's types.
-/
namespace Go.Proofs.YtdllhiihmpinoaaGreat.U
set_option maxRecDepth 100000
open Go.RowKit Go.Shelf
attribute [local go_sem] Oper.semAt_some

/-- Between two rounds. -/
structure MyI (W : World) (v : Value) (over : Int) (l : List (Int × Int)) (w : World) : Prop where
  q : QBox w W.heap.size v over
  cb : CbOut NoS w v l
  b : Below W.heap.size W w
theorem MyI.below {W : World} {v : Value} {over : Int} {l : List (Int × Int)} {w w' : World} (h : MyI W v over l w) (hb : Below w.heap.size w w') : MyI W v over l w' :=
  ⟨h.q.below hb, h.cb.below hb, below_then h.b h.b.size hb⟩
theorem run_cutC (p : Option Addr) (n c k : Nat) (h : k ≤ c) (_ : c ≤ 9223372036854775807) (wx : World) :
    (Instr.slice 64 (.slice p n c) none (some (.int .i64 (k : Int))) none).run Tryz.prog wx = .ok (.slice p k c) wx := by
  rw [run_slice_h wx 64 p n c Tryz.underlying64 .i64 (k : Int) (by omega) (by omega)]
  have hE : (sizeOf (Tryz.prog.elem 64)).run Tryz.prog wx = .ok 2 wx := by go_simp
  rw [hE]
  have : Option.map (fun x : Addr => x.add 0) p = p := by cases p <;> simp [Addr.add_zero']
  simp [sliced, Result.andThen, this]

set_option maxHeartbeats 16000000 in
theorem may_c (v : Value) (over : Int) (l : List (Int × Int)) (W : World) (hv : CbOut NoS W v l) (ho : 0 ≤ over) :
    Calls Tryz.prog 118 #[.agg #[v, .int .u64 over]] W fun e w' => e = .returned (.bool (mayB over l)) ∧ Below W.heap.size W w' := by
  obtain ⟨p, cap, rfl, hcp, hmx, -⟩ := id hv
  obtain ⟨n, hn⟩ : ∃ n, n = l.length := ⟨_, rfl⟩
  unfold mayB
  rw [← hn] at hcp hv ⊢
  by_cases h1 : 9223372036854775806 < over
  · rw [decide_eq_false (show ¬ over ≤ 9223372036854775806 by omega), Bool.false_and, Bool.false_and]
    go_enter Tryz.func118, Tryz.ntmps118
    go_wp2
    go_ret
    exact ⟨rfl, below1 _ _⟩
  have h1' : over ≤ 9223372036854775806 := by omega
  rw [decide_eq_true h1', Bool.true_and]
  by_cases h2 : 16 < n
  · rw [decide_eq_false (show ¬ n ≤ 16 by omega), Bool.false_and]
    have h2' : (16 : Int) < (n : Int) := by omega
    go_enter Tryz.func118, Tryz.ntmps118
    go_wp2
    go_ret
    exact ⟨rfl, below1 _ _⟩
  have h2' : (n : Int) ≤ 16 := by omega
  rw [decide_eq_true (show n ≤ 16 by omega), Bool.true_and]
  have HI := Lib.hid (show MyI W (.slice p n cap) over l (W.alloc (.cells #[.slice p n cap, .int .u64 over] 66)) from ⟨QBox.new W _ _, hv.below (below1 _ _), below1 _ _⟩)
  have HN := Lib.hid hn
  have HO := Lib.hid ho
  have hnm : n ≤ 9223372036854775807 := by omega
  clear hv hn ho
  go_enter Tryz.func118, Tryz.ntmps118
  go_wp2
  go_loopw [18] (fun iv wr => ∃ i : Nat, i ≤ n ∧ iv = .int .i64 (i : Int) ∧ Hid (MyI W (.slice p n cap) over l wr) ∧ Hid (upB over 0 l = upB over (lastP (l.take i)) (l.drop i))) (fun iv _ => n - (intOf iv).toNat)
  case atStart => exact ⟨0, Nat.zero_le _, rfl, HI, Lib.hid (by simp [lastP])⟩
  case round =>
    clear HI
    obtain ⟨i, hi, rfl, HM, HU⟩ := hrel
    by_cases hlt : i < n
    · have hil : i < l.length := by have := HN.out; omega
      have hne : l ≠ [] := by rintro rfl; simp at hil
      obtain ⟨p', cap', e, -, -, hc⟩ := HM.out.cb
      injection e with e1 e2 e3
      subst e1 e3
      obtain ⟨b, off, rfl, -, hcs⟩ := hc hne
      obtain ⟨hx, hy⟩ := hcs i hil
      have hup := up_step over (lastP (l.take i)) l i hil
      have hlp := lastP_take l i hil
      obtain ⟨x, hxe⟩ : ∃ x, x = l[i].1 := ⟨_, rfl⟩
      obtain ⟨y, hye⟩ : ∃ y, y = l[i].2 := ⟨_, rfl⟩
      rw [← hxe] at hx hup hlp
      rw [← hye] at hy
      have hbl := World.block_lt_of_cell? wr _ hx
      obtain ⟨w1, hw1⟩ : ∃ X : World, X = wr.alloc (.cells #[.int .u64 x, .int .u64 y] 68) := ⟨_, rfl⟩
      have HC1 := Lib.hid (show CBox w1 wr.heap.size x y ∧ MyI W (.slice (some ⟨b, off, none⟩) n cap) over l w1 by rw [hw1]; exact ⟨CBox.new wr x y, HM.out.below (below1 _ _)⟩)
      have HW1 := Lib.hid hw1
      have HUP := Lib.hid (And.intro hup hlp)
      have hji := (run_cutC (some ⟨b, off, none⟩) n cap i (by omega) hmx)
      have hi0 : (0 : Int) ≤ (i : Int) := by omega
      have hlt' : (i : Int) < (n : Int) := by omega
      obtain ⟨q0, q1⟩ := HM.out.q.cells
      clear hc hcs hup hlp hxe hye hw1 hne e2
      go_upto_region 6 with fail
      rw [← HW1.out]
      clear HW1 q0 q1 hx hy hbl
      obtain ⟨cz, hcz⟩ : ∃ z, z = wr.heap.size := ⟨_, rfl⟩
      rw [← hcz] at HC1 ⊢
      have HCZ := Lib.hid hcz
      clear hcz
      refine wpTwo_begin (T := fun w' => QBox w' W.heap.size (.slice (some ⟨b, off, none⟩) n cap) over) (S := fun _ => True) (late := fun _ => false) (by kernel_rfl) ?_
      obtain ⟨X, hX⟩ : ∃ Y : World, Y = w1.drew := ⟨_, rfl⟩
      rw [← hX]
      have hbx : Below w1.heap.size w1 X := by rw [hX]; exact (Below.refl _ _).drew
      clear hX
      have HX := Lib.hid (show CBox X cz x y ∧ MyI W (.slice (some ⟨b, off, none⟩) n cap) over l X from ⟨HC1.out.1.below hbx, HC1.out.2.below hbx⟩)
      have hT0 := HX.out.2.q
      clear hbx HC1
      refine wpTwo_takeT (i := 0) (v := .pointer (some ⟨W.heap.size, 0, none⟩)) rfl (by kernel_rfl) (by kernel_rfl) (by kernel_rfl) (fun _ _ _ h => h) ⟨by rfl, ?_⟩ hT0 ?_
      · rintro w hTw
        obtain ⟨t0', t1'⟩ := hTw.cells
        go_simp
      (try simp only [Act.put, List.getElem_toArray, List.getElem_cons_zero, List.setIfInBounds_toArray, List.set_cons_succ, List.set_cons_zero])
      refine wpTwo_takeT (i := 1) (v := .slice (some ⟨b, off, none⟩) n cap) rfl (by kernel_rfl) (by kernel_rfl) (by kernel_rfl) (fun _ _ _ h => h) ⟨by rfl, ?_⟩ hT0 ?_
      · rintro w hTw
        obtain ⟨t0', t1'⟩ := hTw.cells
        go_simp
      (try simp only [Act.put, List.getElem_toArray, List.getElem_cons_succ, List.getElem_cons_zero, List.setIfInBounds_toArray, List.set_cons_succ, List.set_cons_zero])
      refine wpTwo_takeT (i := 2) (v := .int .i64 (i : Int)) rfl (by kernel_rfl) (by kernel_rfl) (by kernel_rfl) (fun _ _ _ h => h) ⟨by rfl, ?_⟩ hT0 ?_
      · rintro w hTw
        obtain ⟨t0', t1'⟩ := hTw.cells
        go_simp
      (try simp only [Act.put, List.getElem_toArray, List.getElem_cons_succ, List.getElem_cons_zero, List.setIfInBounds_toArray, List.set_cons_succ, List.set_cons_zero])
      refine wpTwo_takeT (i := 3) (v := .slice (some ⟨b, off, none⟩) i cap) rfl (by kernel_rfl) (by kernel_rfl) (by kernel_rfl) (fun _ _ _ h => h) ⟨by rfl, ?_⟩ hT0 ?_
      · rintro w hTw
        obtain ⟨t0', t1'⟩ := hTw.cells
        go_simp
      (try simp only [Act.put, List.getElem_toArray, List.getElem_cons_succ, List.getElem_cons_zero, List.setIfInBounds_toArray, List.set_cons_succ, List.set_cons_zero])
      refine wpTwo_takeT (i := 4) (v := .pointer (some ⟨W.heap.size, 1, none⟩)) rfl (by kernel_rfl) (by kernel_rfl) (by kernel_rfl) (fun _ _ _ h => h) ⟨by rfl, ?_⟩ hT0 ?_
      · rintro w hTw
        obtain ⟨t0', t1'⟩ := hTw.cells
        go_simp
      (try simp only [Act.put, List.getElem_toArray, List.getElem_cons_succ, List.getElem_cons_zero, List.setIfInBounds_toArray, List.set_cons_succ, List.set_cons_zero])
      refine wpTwo_takeT (i := 5) (v := .int .u64 over) rfl (by kernel_rfl) (by kernel_rfl) (by kernel_rfl) (fun _ _ _ h => h) ⟨by rfl, ?_⟩ hT0 ?_
      · rintro w hTw
        obtain ⟨t0', t1'⟩ := hTw.cells
        go_simp
      (try simp only [Act.put, List.getElem_toArray, List.getElem_cons_succ, List.getElem_cons_zero, List.setIfInBounds_toArray, List.set_cons_succ, List.set_cons_zero])
      refine wpTwo_takeT (i := 6) (v := .agg #[.slice (some ⟨b, off, none⟩) i cap, .int .u64 over]) rfl (by kernel_rfl) (by kernel_rfl) (by kernel_rfl) (fun _ _ _ h => h) ⟨by rfl, ?_⟩ hT0 ?_
      · rintro w hTw
        obtain ⟨t0', t1'⟩ := hTw.cells
        go_simp
      (try simp only [Act.put, List.getElem_toArray, List.getElem_cons_succ, List.getElem_cons_zero, List.setIfInBounds_toArray, List.set_cons_succ, List.set_cons_zero])
      refine wpTwo_ready (rs := [7]) (by kernel_rfl) (by simp) ?_
      refine (AllTwo.cons rfl (fun K hK => ?_) AllTwo.nil)
      go_simp
      obtain ⟨Xa, hXa⟩ : ∃ Y : World, Y = X.alloc (.cells #[.slice none 0 0, .int .u64 0] 66) := ⟨_, rfl⟩
      have hqa : QBox Xa X.heap.size (.slice none 0 0) 0 := by rw [hXa]; exact QBox.new X _ _
      have hba : Below X.heap.size X Xa := by rw [hXa]; exact below1 _ _
      rw [← hXa]
      clear hXa
      refine hK.out _ _ ⟨hT0.below hba, fun _ _ => trivial⟩ ?_
      clear hK K
      (try simp only [Act.put, List.getElem_toArray, List.getElem_cons_succ, List.getElem_cons_zero, List.setIfInBounds_toArray, List.set_cons_succ, List.set_cons_zero])
      obtain ⟨g0, g1⟩ := hqa.cells
      have m0 := hqa.marks 0
      have m1 := hqa.marks 1
      refine wpTwo_ready (rs := [8]) (by kernel_rfl) (by simp) ?_
      refine (AllTwo.cons rfl (fun K hK => ?_) AllTwo.nil)
      go_simp
      obtain ⟨Xb, hXb⟩ : ∃ Y : World, Y = (Xa.setCell ⟨X.heap.size, 0, none⟩ (.slice (some ⟨b, off, none⟩) i cap)).setCell ⟨X.heap.size, 1, none⟩ (.int .u64 over) := ⟨_, rfl⟩
      have hqb : QBox Xb X.heap.size (.slice (some ⟨b, off, none⟩) i cap) over := by rw [hXb]; exact hqa.put _ _
      have hkb : Keeps (fun k => k = X.heap.size) Xa Xb := by rw [hXb]; exact QBox.putK _ _ _ _
      have hbb : Below X.heap.size X Xb := hba.trans (hkb.below hba.size (fun k e => by omega))
      rw [← hXb]
      clear hXb
      refine hK.out _ _ ⟨hT0.below hbb, fun _ _ => trivial⟩ ?_
      clear hK K g0 g1 m0 m1
      (try simp only [Act.put, List.getElem_toArray, List.getElem_cons_succ, List.getElem_cons_zero, List.setIfInBounds_toArray, List.set_cons_succ, List.set_cons_zero])
      have HB := Lib.hid (show CBox Xb cz x y ∧ MyI W (.slice (some ⟨b, off, none⟩) n cap) over l Xb ∧ QBox Xb X.heap.size (.slice (some ⟨b, off, none⟩) i cap) over ∧ CbOut NoS Xb (.slice (some ⟨b, off, none⟩) i cap) (l.take i) from ⟨HX.out.1.below hbb, HX.out.2.below hbb, hqb, (HX.out.2.below hbb).cb.take i (by omega)⟩)
      refine wpTwo_end (by kernel_rfl) ?_ _
      clear hT0 hba hkb hbb hqa HX hqb
      obtain ⟨az, haz⟩ : ∃ z, z = X.heap.size := ⟨_, rfl⟩
      rw [← haz] at HB ⊢
      clear haz
      go_upto_region 7 with fail
      refine wpTwo_begin (T := fun w' => CBox w' cz x y ∧ QBox w' az (.slice (some ⟨b, off, none⟩) i cap) over) (S := fun _ => True) (late := fun _ => false) (by kernel_rfl) ?_
      obtain ⟨Y, hY⟩ : ∃ Y : World, Y = Xb.drew := ⟨_, rfl⟩
      rw [← hY]
      have hby : Below Xb.heap.size Xb Y := by rw [hY]; exact (Below.refl _ _).drew
      clear hY
      have hT0 : CBox Y cz x y ∧ QBox Y az (.slice (some ⟨b, off, none⟩) i cap) over := ⟨HB.out.1.below hby, HB.out.2.2.1.below hby⟩
      have HY := Lib.hid (show MyI W (.slice (some ⟨b, off, none⟩) n cap) over l Y ∧ CbOut NoS Y (.slice (some ⟨b, off, none⟩) i cap) (l.take i) from ⟨HB.out.2.1.below hby, HB.out.2.2.2.below hby⟩)
      clear hby HB
      refine wpTwo_takeT (i := 0) (v := .agg #[.slice (some ⟨b, off, none⟩) i cap, .int .u64 over]) rfl (by kernel_rfl) (by kernel_rfl) (by kernel_rfl) (fun _ _ _ h => h) ⟨by rfl, ?_⟩ hT0 ?_
      · rintro w ⟨hT1, hT2⟩
        obtain ⟨t0', t1'⟩ := hT1.cells
        obtain ⟨t2', t3'⟩ := hT2.cells
        go_simp
      (try simp only [Act.put, List.getElem_toArray, List.getElem_cons_zero, List.setIfInBounds_toArray, List.set_cons_succ, List.set_cons_zero])
      refine wpTwo_takeT (i := 2) (v := .pointer (some ⟨cz, 0, none⟩)) rfl (by kernel_rfl) (by kernel_rfl) (by kernel_rfl) (fun _ _ _ h => h) ⟨by rfl, ?_⟩ hT0 ?_
      · rintro w ⟨hT1, hT2⟩
        obtain ⟨t0', t1'⟩ := hT1.cells
        obtain ⟨t2', t3'⟩ := hT2.cells
        go_simp
      (try simp only [Act.put, List.getElem_toArray, List.getElem_cons_succ, List.getElem_cons_zero, List.setIfInBounds_toArray, List.set_cons_succ, List.set_cons_zero])
      refine wpTwo_takeT (i := 3) (v := .int .u64 x) rfl (by kernel_rfl) (by kernel_rfl) (by kernel_rfl) (fun _ _ _ h => h) ⟨by rfl, ?_⟩ hT0 ?_
      · rintro w ⟨hT1, hT2⟩
        obtain ⟨t0', t1'⟩ := hT1.cells
        obtain ⟨t2', t3'⟩ := hT2.cells
        go_simp
      (try simp only [Act.put, List.getElem_toArray, List.getElem_cons_succ, List.getElem_cons_zero, List.setIfInBounds_toArray, List.set_cons_succ, List.set_cons_zero])
      refine wpTwo_ready (rs := [1]) (by kernel_rfl) (by simp) ?_
      refine (AllTwo.cons rfl (fun K hK => ?_) AllTwo.nil)
      go_simp
      (with_reducible refine (allows_c NoS _ over (l.take i) Y HY.out.2).mono ?_)
      rintro e Y1 ⟨rfl, hq1, hl1, hb1⟩
      have hc1 := allows1_c (Y.heap.size + 1) Y.heap.size (lastP (l.take i)) over x _ Y1 hl1 hq1 HO.out h1'
      have HY1 := Lib.hid (HY.out.1.below hb1)
      have hT1 : CBox Y1 cz x y ∧ QBox Y1 az (.slice (some ⟨b, off, none⟩) i cap) over := ⟨hT0.1.below hb1, hT0.2.below hb1⟩
      clear hq1 hl1 hb1 hT0 HY
      unfold alV
      go_wp2_with fail
      refine hK.out _ _ ⟨hT1, fun _ _ => trivial⟩ ?_
      clear hK K
      (try simp only [Act.put, List.getElem_toArray, List.getElem_cons_succ, List.getElem_cons_zero, List.setIfInBounds_toArray, List.set_cons_succ, List.set_cons_zero])
      refine wpTwo_ready (rs := [4]) (by kernel_rfl) (by simp) ?_
      refine (AllTwo.cons rfl (fun K hK => ?_) AllTwo.nil)
      go_simp
      (with_reducible refine hc1.mono ?_)
      rintro e Y2 ⟨rfl, rfl⟩
      clear hc1
      go_wp2_with fail
      refine hK.out _ _ ⟨hT1, fun _ _ => trivial⟩ ?_
      clear hK K
      (try simp only [Act.put, List.getElem_toArray, List.getElem_cons_succ, List.getElem_cons_zero, List.setIfInBounds_toArray, List.set_cons_succ, List.set_cons_zero])
      refine wpTwo_takeT (i := 5) (v := .bool (!allowsB (lastP (l.take i)) over x)) rfl (by kernel_rfl) (by kernel_rfl) (by kernel_rfl) (fun _ _ _ h => h) ⟨by rfl, ?_⟩ hT1 ?_
      · rintro w -
        go_simp
      (try simp only [Act.put, List.getElem_toArray, List.getElem_cons_succ, List.getElem_cons_zero, List.setIfInBounds_toArray, List.set_cons_succ, List.set_cons_zero])
      refine wpTwo_end (by kernel_rfl) ?_ _
      clear hT1
      cases ha : allowsB (lastP (l.take i)) over x with
      | false =>
        go_wp2
        go_ret
        exact ⟨ret_b (by rw [HU.out, HUP.out.1, ha]; rfl), HY1.out.b⟩
      | true =>
        have HU2 := Lib.hid (show upB over 0 l = upB over (lastP (l.take (i + 1))) (l.drop (i + 1)) by rw [HU.out, HUP.out.1, HUP.out.2, ha, Bool.true_and])
        go_wp2
        go_roundw
        case rel => exact ⟨i + 1, by omega, by go_num, HY1, HU2⟩
        case measure => simp [intOf]; omega
    · have hin : i = n := by omega
      have HE := Lib.hid (show upB over 0 l = true by rw [HU.out, hin, HN.out, List.drop_length]; rfl)
      clear hin
      go_wp2
      go_ret
      exact ⟨ret_b HE.out.symm, HM.out.b⟩

end Go.Proofs.YtdllhiihmpinoaaGreat.U
/-
  Package queue: own; slices.Clone at callbacks; the closed form of a queue in memory of its own.
  Conditions: as each has them.
-/
namespace Go.Proofs.YtdllhiihmpinoaaGreat.U
set_option maxRecDepth 100000
open Go.RowKit Go.Shelf
attribute [local go_sem] Oper.semAt_some

theorem run_fmap {α β : Type} {P : Program} (f : α → β) (s : Sem α) (w : World) : Sem.run P (f <$> s) w = (Sem.run P s w).andThen fun a w' => .ok (f a) w' := by
  show Sem.run P (s >>= fun a => pure (f a)) w = _
  rw [Sem.run_bind]
  rfl
theorem results_cell1 {fn : Func} {a : Tmp} {t : TypeId} (h : fn.results = #[.cell a t]) (tmps : Array Value) (P : Program) (w : World) {p : Addr} {x : Value} (ha : tmps.getD a undef = .pointer (some p)) (hx : (loadVar t p).run P w = .ok x w) : (results fn tmps).run P w = .ok x w := by
  unfold results
  rw [h]
  simp only [Array.mapM_eq_foldlM, List.foldlM_toArray, List.foldlM_cons, List.foldlM_nil, ha, asAddr, run_fmap, Sem.run_bind, Sem.run_pure, Result.andThen_ok, hx]
  rfl
theorem queue_load {W : World} {z : Nat} {v : Value} {o : Int} (h : QBox W z v o) : (loadVar 66 ⟨z, 0, none⟩).run Tryz.prog W = .ok (.agg #[v, .int .u64 o]) W := by
  obtain ⟨h0, h1⟩ := h.cells
  simp [go_sem, h0, h1]

/-- A queue in memory of its own. -/
def GivesQ (B : Nat) (over : Int) (l : List (Int × Int)) (e : Ending) (w' : World) : Prop := ∃ v, e = .returned (.agg #[v, .int .u64 over]) ∧ w'.ownsRow B 68 2 v l.length (cvs l)

theorem run_copy_many {P : Program} (w : World) (dT sT ty elem : TypeId) (sz : Nat) (g dLen dCap sLen sCap : Nat) (ad : Addr) (cur : Array Value) (t : TypeId) (cs : List Value)
    (hu : P.underlying dT = some (.slice elem)) (hs : (P.info? elem).map (·.size) = some sz) (hg : w.heap[g]? = some (.cells cur t (0, 0))) (hn : cs.length = Nat.min sLen dLen * sz)
    (hsrc : ∀ j v, cs[j]? = some v → w.cell? (ad.add j) = some v) (hfit : cs.length = cur.size) (h1 : ∀ v ∈ cs, v.oneCell' = true) :
    (Builtin.copy_ #[dT, sT] ty #[.slice (some ⟨g, 0, none⟩) dLen dCap, .slice (some ad) sLen sCap]).run P w = .ok (goInt (Nat.min sLen dLen)) (w.setRow g cs.toArray) := by
  have hl := run_loadCells_list (P := P) w ad cs hsrc
  have hst := run_storeCells_at P g 0 t cs 0 cur w hg (by omega) h1
  have hdr : cur.toList.drop (0 + 0 + cs.length) = [] := List.drop_eq_nil_of_le (by rw [Array.length_toList]; omega)
  rw [hdr] at hst
  cases hq : P.info? elem with
  | none => simp [hq] at hs
  | some i =>
    have hi : i.size = sz := by simpa [hq] using hs
    simp [Builtin.copy_, run_underlying hu, Builtin.lenOf, Builtin.firstCells, sizeOf, typeInfo, hq, hi, ← hn, hl, hst]
theorem run_copy_zero {P : Program} (w : World) (dT sT ty elem : TypeId) (sz : Nat) (g dCap sCap : Nat) (a : Option Addr)
    (hu : P.underlying dT = some (.slice elem)) (hs : (P.info? elem).map (·.size) = some sz) :
    (Builtin.copy_ #[dT, sT] ty #[.slice (some ⟨g, 0, none⟩) 0 dCap, .slice a 0 sCap]).run P w = .ok (goInt 0) w := by
  cases hq : P.info? elem with
  | none => simp [hq] at hs
  | some i =>
    cases a <;> simp [Builtin.copy_, run_underlying hu, Builtin.lenOf, Builtin.firstCells, sizeOf, typeInfo, hq, storeCells, loadCells, loadCellsFrom]

theorem info_cb : (Tryz.prog.info? 68).map (fun i => (i.zero, i.size, i.bytes)) = some (some (.agg #[.int .u64 0, .int .u64 0]), 2, 16) := by kernel_rfl
theorem run_makeC (n : Nat) (hn : n ≤ 1099511627776) (w : World) : (Instr.makeSlice 64 (.int .i64 (n : Int)) (.int .i64 (n : Int))).run Tryz.prog w = .ok (.slice (some ⟨w.heap.size, 0, none⟩) n n) (w.alloc (.cells (madeCells #[.int .u64 0, .int .u64 0] (n * 2)) 68)) := by
  obtain ⟨i0, hi, hz0, hz1, hz2⟩ := info_parts info_cb
  have := run_make (P := Tryz.prog) w 64 68 i0 (.agg #[.int .u64 0, .int .u64 0]) Tryz.underlying64 hi hz0 .i64 .i64 (n : Int) (n : Int) (by omega) (by omega) (by rw [hz2]; omega) (by omega)
  rw [this, hz1, Int.toNat_natCast]
  rfl
theorem owns_block {W : World} {B g : Nat} {l : List (Int × Int)} (h : W.heap[g]? = some (.cells (cvs l).toArray 68 (0, 0))) (hB : B ≤ g) (hl : l.length ≤ 1099511627776) : W.ownsRow B 68 2 (.slice (some ⟨g, 0, none⟩) l.length l.length) l.length (cvs l) :=
  ⟨by rw [cvs_len], .inr ⟨g, l.length, _, rfl, hB, h, Nat.le_refl _, by unfold maxLen; omega, by rw [List.size_toArray, cvs_len], by rw [List.toList_toArray]; exact List.take_of_length_le (by rw [cvs_len]; omega)⟩⟩

set_option maxHeartbeats 8000000 in
theorem own_c (v : Value) (over : Int) (l : List (Int × Int)) (W : World) (hv : CbOut NoS W v l) (hl : l.length ≤ 1000) :
    Calls Tryz.prog 119 #[.agg #[v, .int .u64 over]] W fun e w' => GivesQ W.heap.size over l e w' ∧ Below W.heap.size W w' := by
  obtain ⟨p, cap, rfl, hcp, hmx, hc⟩ := id hv
  obtain ⟨n, hn⟩ : ∃ n, n = l.length := ⟨_, rfl⟩
  rw [← hn] at hcp hl ⊢
  obtain ⟨w0, hw0⟩ : ∃ X : World, X = ((W.alloc (.cells #[.slice p n cap, .int .u64 over] 66)).alloc (.cells #[.slice none 0 0, .int .u64 0] 66)).alloc (.cells (madeCells #[.int .u64 0, .int .u64 0] (n * 2)) 68) := ⟨_, rfl⟩
  have hb0 : Below W.heap.size W w0 := by rw [hw0]; exact below3 _ _ _ _
  have HB0 := Lib.hid (show QBox w0 W.heap.size (.slice p n cap) over ∧ QBox w0 (W.heap.size + 1) (.slice none 0 0) 0 ∧ w0.heap[W.heap.size + 2]? = some (.cells (madeCells #[.int .u64 0, .int .u64 0] (n * 2)) 68 (0, 0)) ∧ w0.heap.size = W.heap.size + 3 ∧ Below W.heap.size W w0 by
    rw [hw0]
    refine ⟨((QBox.new W _ _).below (below1 _ _)).below (below1 _ _), ?_, ?_, by simp, by rw [← hw0]; exact hb0⟩
    · have := QBox.new (W.alloc (.cells #[.slice p n cap, .int .u64 over] 66)) (.slice none 0 0) 0
      rw [World.size_alloc] at this
      exact this.below (below1 _ _)
    · have := World.alloc_heap_new ((W.alloc (.cells #[.slice p n cap, .int .u64 over] 66)).alloc (.cells #[.slice none 0 0, .int .u64 0] 66)) (.cells (madeCells #[.int .u64 0, .int .u64 0] (n * 2)) 68)
      rwa [World.size_alloc, World.size_alloc] at this)
  have HV := Lib.hid (hv.below hb0)
  have hmk := run_makeC n (by omega)
  have HW0 := Lib.hid hw0
  have HN := Lib.hid hn
  have hnm : n ≤ 9223372036854775807 := by omega
  obtain ⟨w2, hw2⟩ : ∃ w2, (Builtin.copy_ #[64, 64] 3 #[.slice (some ⟨W.heap.size + 2, 0, none⟩) n n, .slice p n cap]).run Tryz.prog w0 = .ok (goInt n) w2 ∧ w2.heap[W.heap.size + 2]? = some (.cells (cvs l).toArray 68 (0, 0)) ∧ Keeps (fun k => k = W.heap.size + 2) w0 w2 := by
    by_cases hne : l = []
    · have h0 : n = 0 := by rw [hn, hne]; rfl
      subst h0
      refine ⟨w0, run_copy_zero w0 _ _ _ 68 2 _ _ _ _ Tryz.underlying64 (by kernel_rfl), ?_, Keeps.refl _ _⟩
      rw [hne]
      have := HB0.out.2.2.1
      rw [Array.eq_empty_of_size_eq_zero (show (madeCells #[Value.int .u64 0, Value.int .u64 0] (0 * 2)).size = 0 from size_madeCells _ _)] at this
      exact this
    · obtain ⟨b, off, rfl, -, hcs⟩ := hc hne
      have h := run_copy_many (P := Tryz.prog) w0 64 64 3 68 2 (W.heap.size + 2) n n n cap ⟨b, off, none⟩ _ _ (cvs l) Tryz.underlying64 (by kernel_rfl) HB0.out.2.2.1 (by rw [cvs_len, ← hn]; simp) ?_ (by rw [cvs_len, size_madeCells, hn]) (cvs_one l)
      · rw [show Nat.min n n = n from Nat.min_self n] at h
        refine ⟨_, h, setRow_heap w0 _ _ _ _ _ HB0.out.2.2.1, ⟨rfl, rfl, rfl, by simp [World.setRow], fun k _ hk => setRow_other w0 _ k _ hk⟩⟩
      · intro j u hj
        obtain ⟨hj1, hj2⟩ := List.getElem?_eq_some_iff.1 hj
        rw [cvs_len] at hj1
        rw [addr_add_off]
        have hg := cvs_get l (j / 2) (by omega)
        have hcc := hcs (j / 2) (by omega)
        rcases (show j = j / 2 * 2 ∨ j = j / 2 * 2 + 1 by omega) with e | e
        · rw [← e, hj] at hg
          rw [← e] at hcc
          rw [Option.some.inj hg.1]
          exact below_cell hb0 hcc.1
        · rw [← e, hj] at hg
          have e2 : off + j = off + j / 2 * 2 + 1 := by omega
          rw [Option.some.inj hg.2, e2]
          exact below_cell hb0 hcc.2
  obtain ⟨hw2, hrow, hk2⟩ := hw2
  have HW2 := Lib.hid (show QBox w2 W.heap.size (.slice p n cap) over ∧ QBox w2 (W.heap.size + 1) (.slice none 0 0) 0 ∧ Below W.heap.size W w2 ∧ w2.ownsRow W.heap.size 68 2 (.slice (some ⟨W.heap.size + 2, 0, none⟩) n n) n (cvs l) from ⟨HB0.out.1.keeps hk2 (by omega), HB0.out.2.1.keeps hk2 (by omega), hb0.trans (hk2.below hb0.size (fun k e => by omega)), by rw [hn]; exact owns_block hrow (by omega) (by omega)⟩)
  have HK2 := Lib.hid (And.intro hrow hk2)
  clear hw0 hc hv hn hrow hk2 hb0
  go_enter Tryz.func119, Tryz.ntmps119
  go_upto_region 2 with fail
  rw [← HW0.out]
  clear hmk
  obtain ⟨q0, q1⟩ := HB0.out.1.cells
  go_upto_region 3 with fail
  clear HW0 hw2 q0 q1 HB0
  obtain ⟨q0, q1⟩ := HW2.out.1.cells
  have hr := HW2.out.2.1
  obtain ⟨r0, r1⟩ := hr.cells
  have m0 := hr.marks 0
  have m1 := hr.marks 1
  obtain ⟨w3, hw3⟩ : ∃ Y : World, Y = (w2.setCell ⟨W.heap.size + 1, 0, none⟩ (.slice (some ⟨W.heap.size + 2, 0, none⟩) n n)).setCell ⟨W.heap.size + 1, 1, none⟩ (.int .u64 over) := ⟨_, rfl⟩
  have hk3 : Keeps (fun k => k = W.heap.size + 1) w2 w3 := by rw [hw3]; exact QBox.putK _ _ _ _
  have H3 := Lib.hid (show QBox w3 (W.heap.size + 1) (.slice (some ⟨W.heap.size + 2, 0, none⟩) n n) over ∧ Below W.heap.size W w3 ∧ w3.ownsRow W.heap.size 68 2 (.slice (some ⟨W.heap.size + 2, 0, none⟩) n n) n (cvs l) from ⟨by rw [hw3]; exact hr.put _ _, HW2.out.2.2.1.trans (hk3.below HW2.out.2.2.1.size (fun k e => by omega)), hk3.row HW2.out.2.2.2 (fun g e => by simp [Value.ownBlock] at e; omega)⟩)
  have HW3 := Lib.hid hw3
  clear hk3 hw3 hr
  go_wp2
  rw [← HW3.out]
  refine bodyPost_ret (results_cell1 rfl _ _ _ rfl (queue_load H3.out.1)) rfl ⟨⟨_, rfl, by rw [← HN.out]; exact H3.out.2.2⟩, H3.out.2.1⟩

set_option maxHeartbeats 2000000 in
theorem cloneC (v : Value) (n : Nat) (xs : List Value) (W : World) (hv : ValsAt W v 2 n xs) (h1 : ∀ u ∈ xs, u.oneCell' = true) (hn : n ≤ 1099511627776) :
    Calls Tryz.prog 31 #[v] W fun e w' => OwnsNew W.heap.size 68 2 n xs e w' ∧ Below W.heap.size W w' := by
  obtain ⟨hlen, p, cap, rfl, ⟨rfl, rfl, rfl⟩ | ⟨ad, rfl, hcells⟩⟩ := hv
  · obtain rfl : xs = [] := List.eq_nil_of_length_eq_zero (by omega)
    have hcmp := fun w => Lib.run_eql_slice_nil (P := Tryz.prog) w 64 68 none 0 0 0 0 Tryz.underlying64
    go_enter Tryz.func31, Tryz.ntmps31
    go_wp2
    go_ret
    exact ⟨⟨_, rfl, World.ownsRow_nil _ _ _ _⟩, Below.refl _ _⟩
  · have hcmp := fun w => Lib.run_eql_slice_nil (P := Tryz.prog) w 64 68 (some ad) n cap 0 0 Tryz.underlying64
    obtain ⟨i0, hi, hz0, hz1, hz2⟩ := info_parts info_cb
    have hown := World.ownsRow_lit (base := W.heap.size) (e := 68) (size := 2) W #[] 0 (Nat.le_refl _) (by decide) rfl
    have hnews : ∀ j u, xs[j]? = some u → (W.alloc (Obj.cells #[] 68)).cell? (ad.add j) = some u := fun j u hj => by
      have h0 := hcells j u hj
      rw [World.cell?_alloc_lt _ _ _ (World.block_lt_of_cell? W _ h0)]
      exact h0
    have HN := Lib.hid hnews
    have H1 := Lib.hid h1
    have HO := Lib.hid hown
    clear hnews h1 hown hcells
    go_enter Tryz.func31, Tryz.ntmps31
    go_wp2_with (at_builtin; refine wpList_append_own _ rfl _ _ 64 rfl W.heap.size 68 i0 (.agg #[.int .u64 0, .int .u64 0]) 2 16 Tryz.underlying64 hi hz0 hz1 hz2 rfl (by decide) _ _ _ rfl HO.out ad n cap xs rfl hlen HN.out H1.out (by unfold maxLen; omega) (by omega) (by simp) ?_; intro v' w1 hown' hgrow _)
    go_ret
    rw [Nat.zero_add, List.nil_append] at hown'
    exact ⟨⟨v', rfl, hown'⟩, below_grown ((Below.refl _ _).alloc (Nat.le_refl _) _) hgrow (fun k e => by cases e; exact Nat.le_refl _)⟩

end Go.Proofs.YtdllhiihmpinoaaGreat.U
/-
  Package queue: New, Check, Put, End.
  Conditions: the ranges of Go's types.
-/
namespace Go.Proofs.YtdllhiihmpinoaaGreat.U
set_option maxRecDepth 100000
open Go.RowKit Go.Shelf
attribute [local go_sem] Oper.semAt_some

theorem results_ct {fn : Func} {a b : Tmp} {t : TypeId} (h : fn.results = #[.cell a t, .tmp b]) (tmps : Array Value) (P : Program) (w : World) {p : Addr} {x y : Value} (ha : tmps.getD a undef = .pointer (some p)) (hb : tmps.getD b undef = y)
    (hx : (loadVar t p).run P w = .ok x w) : (results fn tmps).run P w = .ok (.tuple #[x, y]) w := by
  unfold results
  rw [h]
  simp only [Array.mapM_eq_foldlM, List.foldlM_toArray, List.foldlM_cons, List.foldlM_nil, ha, hb, asAddr, run_fmap, Sem.run_bind, Sem.run_pure, Result.andThen_ok, hx]
  rfl
/-- A queue in memory of its own, and the error. -/
def AnsQ (B : Nat) (E over : Int) (l : List (Int × Int)) (e : Ending) (w' : World) : Prop := ∃ v, e = .returned (.tuple #[.agg #[v, .int .u64 over], .int .i64 E]) ∧ w'.ownsRow B 68 2 v l.length (cvs l)
theorem ansQ_none (B : Nat) (E : Int) (w' : World) : AnsQ B E 0 [] (.returned (.tuple #[.agg #[.slice none 0 0, .int .u64 0], .int .i64 E])) w' := ⟨_, rfl, World.ownsRow_nil _ _ _ _⟩

def chkE (over : Int) (l : List (Int × Int)) : Int := if mayB over l = true then 0 else 230
set_option maxHeartbeats 4000000 in
theorem check_c (v : Value) (over : Int) (l : List (Int × Int)) (W : World) (hv : CbOut NoS W v l) (ho : 0 ≤ over) :
    Calls Tryz.prog 94 #[.agg #[v, .int .u64 over]] W fun e w' => e = .returned (.int .i64 (chkE over l)) ∧ Below W.heap.size W w' := by
  obtain ⟨w0, hw0⟩ : ∃ X : World, X = W.alloc (.cells #[v, .int .u64 over] 66) := ⟨_, rfl⟩
  have hb0 : Below W.heap.size W w0 := by rw [hw0]; exact below1 _ _
  have HM := Lib.hid (may_c v over l w0 (hv.below hb0) ho)
  have hq : QBox w0 W.heap.size v over := by rw [hw0]; exact QBox.new _ _ _
  obtain ⟨p, c, rfl, -⟩ := hv
  obtain ⟨q0, q1⟩ := hq.cells
  have HB := Lib.hid hb0
  clear hb0 hq
  go_enter Tryz.func94, Tryz.ntmps94
  go_wp2_with fail
  rw [← hw0]
  clear hw0
  (with_reducible refine HM.out.mono ?_)
  rintro e w1 ⟨rfl, hb1⟩
  have HB1 := Lib.hid (below_then HB.out HB.out.size hb1)
  clear hb1 HM q0 q1
  cases hm : mayB over l with
  | false =>
    have HE := Lib.hid (show chkE over l = 230 by unfold chkE; rw [hm]; rfl)
    go_wp2
    go_ret
    exact ⟨by rw [HE.out]; rfl, HB1.out⟩
  | true =>
    have HE := Lib.hid (show chkE over l = 0 by unfold chkE; rw [hm]; rfl)
    go_wp2
    go_ret
    exact ⟨by rw [HE.out]; rfl, HB1.out⟩

def newE (over : Int) : Int := if over ≤ 9223372036854775806 then 0 else 2
set_option maxHeartbeats 4000000 in
theorem new_c (over : Int) (W : World) :
    Calls Tryz.prog 58 #[.int .u64 over] W fun e w' => AnsQ W.heap.size (newE over) (if newE over = 0 then over else 0) [] e w' ∧ Below W.heap.size W w' := by
  by_cases h : over ≤ 9223372036854775806
  · have e : newE over = 0 := if_pos h
    rw [e, if_pos rfl]
    go_enter Tryz.func58, Tryz.ntmps58
    go_wp2
    refine bodyPost_ret (results_ct rfl _ _ _ rfl rfl (queue_load (QBox.new W (.slice none 0 0) over))) rfl ⟨⟨_, rfl, World.ownsRow_nil _ _ _ _⟩, below1 _ _⟩
  · have e : newE over = 2 := if_neg h
    have h' : 9223372036854775806 < over := by omega
    rw [e, if_neg (by decide)]
    clear h
    go_enter Tryz.func58, Tryz.ntmps58
    go_wp2
    refine bodyPost_ret (results_ct rfl _ _ _ rfl rfl (queue_load (QBox.new W (.slice none 0 0) 0))) rfl ⟨ansQ_none _ _ _, below1 _ _⟩

/-- append of one callback that has just been laid. -/
theorem wpList_app_one {ops : Array Oper} {rest : List Oper} {o : Oper} {a : Act} {Q : Exit → Act → World → Prop} {w : World} (hgd : o.guard = none) (s x : Operand)
    (ho : o.op = .call { callee := .builtin .append, args := #[s, x], argTypes := #[64, 64] })
    (B : Nat) (v : Value) (n : Nat) (l : List (Int × Int)) (hn : l.length = n) (hs : a.eval s = v) (hown : w.ownsRow B 68 2 v n (cvs l))
    (b c : Nat) (p y : Int) (hx : a.eval x = .slice (some ⟨b, 0, none⟩) 1 c) (h0 : w.cell? ⟨b, 0, none⟩ = some (.int .u64 p)) (h1 : w.cell? ⟨b, 1, none⟩ = some (.int .u64 y)) (hl : n ≤ 1000000) (hB : B ≤ w.heap.size)
    (h : ∀ q r w', w'.ownsRow B 68 2 (.slice q (n + 1) r) (n + 1) (cvs (l ++ [(p, y)])) → Keeps (fun k => some k = v.ownBlock) w w' → wpList Tryz.prog ops Q rest (a.put o.dst (.slice q (n + 1) r)) w') :
    wpList Tryz.prog ops Q (o :: rest) a w := by
  obtain ⟨i0, hi, hz0, hz1, hz2⟩ := info_parts info_cb
  refine wpList_append_own w hgd s x 64 ho B 68 i0 (.agg #[.int .u64 0, .int .u64 0]) 2 16 Tryz.underlying64 hi hz0 hz1 hz2 rfl (by decide) v n (cvs l) hs hown ⟨b, 0, none⟩ 1 c [.int .u64 p, .int .u64 y] hx rfl (fun j u hj => ?_) (fun u hu => ?_) (by unfold maxLen; omega) (by omega) hB fun v' w' h2 h3 _ => ?_
  · rw [addr_add_off, Nat.zero_add]
    match j, hj with
    | 0, hj => simp only [List.getElem?_cons_zero, Option.some.injEq] at hj; rw [← hj]; exact h0
    | 1, hj => simp only [List.getElem?_cons_succ, List.getElem?_cons_zero, Option.some.injEq] at hj; rw [← hj]; exact h1
  · simp only [List.mem_cons, List.not_mem_nil, or_false] at hu
    rcases hu with rfl | rfl <;> rfl
  · have e : cvs l ++ [.int .u64 p, .int .u64 y] = cvs (l ++ [(p, y)]) := by rw [cvs_append]; rfl
    rw [e] at h2
    obtain ⟨q, r, rfl⟩ := owns_slice h2
    exact h q r w' h2 ⟨h3.os, h3.tape, h3.output, h3.size, fun k hk hn => h3.block k hk (fun e => hn e)⟩

/-- What Put answers. -/
def putE (over : Int) (l : List (Int × Int)) (ahead : Int) : Int :=
  if mayB over l = true then (if ahead < 1 ∨ 2 < ahead then 2 else if allowsB (lastP l) over (over + ahead) = true then (if l.length = 16 then 6 else 0) else 2) else 230
def PutQ (B : Nat) (over : Int) (l : List (Int × Int)) (x ahead : Int) (e : Ending) (w' : World) : Prop :=
  (putE over l ahead = 0 ∧ AnsQ B 0 over (l ++ [(over + ahead, x)]) e w') ∨ (putE over l ahead ≠ 0 ∧ AnsQ B (putE over l ahead) 0 [] e w')
theorem may_parts {over : Int} {l : List (Int × Int)} (h : mayB over l = true) : over ≤ 9223372036854775806 ∧ l.length ≤ 16 ∧ upB over 0 l = true := by
  unfold mayB at h
  simp only [Bool.and_eq_true, decide_eq_true_eq] at h
  exact ⟨h.1.1, h.1.2, h.2⟩

set_option maxHeartbeats 16000000 in
theorem put_c (v : Value) (over : Int) (l : List (Int × Int)) (x ahead : Int) (W : World) (hv : CbOut NoS W v l) (ho : 0 ≤ over) :
    Calls Tryz.prog 145 #[.agg #[v, .int .u64 over], .int .u64 x, .int .i64 ahead] W fun e w' => PutQ W.heap.size over l x ahead e w' ∧ Below W.heap.size W w' := by
  obtain ⟨w0, hw0⟩ : ∃ X : World, X = (W.alloc (.cells #[v, .int .u64 over] 66)).alloc (.cells #[.slice none 0 0, .int .u64 0] 66) := ⟨_, rfl⟩
  have hb0 : Below W.heap.size W w0 := by rw [hw0]; exact below2 _ _ _
  have HF := Lib.hid (show QBox w0 W.heap.size v over ∧ QBox w0 (W.heap.size + 1) (.slice none 0 0) 0 ∧ Below W.heap.size W w0 ∧ w0.heap.size = W.heap.size + 2 from ⟨by rw [hw0]; exact (QBox.new W _ _).below (below1 _ _), by
      rw [hw0]
      have := QBox.new (W.alloc (.cells #[v, .int .u64 over] 66)) (.slice none 0 0) 0
      simpa using this, hb0, by rw [hw0]; simp⟩)
  have HV := Lib.hid (hv.below hb0)
  have HM := Lib.hid (may_c v over l w0 HV.out ho)
  obtain ⟨p, c, rfl, hlc, hcm, -⟩ := hv
  have HW0 := Lib.hid hw0
  obtain ⟨q0, q1⟩ := HF.out.1.cells
  clear hw0 hb0
  go_enter Tryz.func145, Tryz.ntmps145
  go_wp2_with fail
  rw [← HW0.out]
  clear HW0 q0 q1
  (with_reducible refine HM.out.mono ?_)
  rintro e w1 ⟨rfl, hb1⟩
  have H1 := Lib.hid (show QBox w1 W.heap.size (.slice p l.length c) over ∧ QBox w1 (W.heap.size + 1) (.slice none 0 0) 0 ∧ Below W.heap.size W w1 ∧ W.heap.size + 2 ≤ w1.heap.size ∧ CbOut NoS w1 (.slice p l.length c) l from ⟨HF.out.1.below hb1, HF.out.2.1.below hb1, below_then HF.out.2.2.1 HF.out.2.2.1.size hb1, by have := HF.out.2.2.2; have := hb1.size; omega, HV.out.below hb1⟩)
  clear hb1 HF HV HM
  obtain ⟨q0, q1⟩ := H1.out.1.cells
  obtain ⟨r0, r1⟩ := H1.out.2.1.cells
  have m0 := H1.out.2.1.marks 0
  have m1 := H1.out.2.1.marks 1
  have HP := Lib.hid (fun E : Int => (show AnsQ W.heap.size E 0 [] (.returned (.tuple #[.agg #[.slice none 0 0, .int .u64 0], .int .i64 E])) ((w1.setCell ⟨W.heap.size + 1, 0, none⟩ (.slice none 0 0)).setCell ⟨W.heap.size + 1, 1, none⟩ (.int .u64 0)) ∧ QBox ((w1.setCell ⟨W.heap.size + 1, 0, none⟩ (.slice none 0 0)).setCell ⟨W.heap.size + 1, 1, none⟩ (.int .u64 0)) (W.heap.size + 1) (.slice none 0 0) 0 ∧ Below W.heap.size W ((w1.setCell ⟨W.heap.size + 1, 0, none⟩ (.slice none 0 0)).setCell ⟨W.heap.size + 1, 1, none⟩ (.int .u64 0)) from
    ⟨ansQ_none _ _ _, H1.out.2.1.put _ _, H1.out.2.2.1.trans ((QBox.putK w1 _ _ _).below (by have := H1.out.2.2.2.1; omega) (fun k e => by omega))⟩))
  cases hm : mayB over l with
  | false =>
    have HE := Lib.hid (show putE over l ahead = 230 by unfold putE; rw [hm]; rfl)
    go_wp2
    exact bodyPost_ret (results_ct rfl _ _ _ rfl rfl (queue_load (HP.out 230).2.1)) rfl ⟨.inr ⟨by rw [HE.out]; decide, by rw [HE.out]; exact (HP.out 230).1⟩, (HP.out 230).2.2⟩
  | true =>
    obtain ⟨hg1, hg2, -⟩ := may_parts hm
    have HE0 := Lib.hid (show putE over l ahead = (if ahead < 1 ∨ 2 < ahead then 2 else if allowsB (lastP l) over (over + ahead) = true then (if l.length = 16 then 6 else 0) else 2) by unfold putE; rw [hm]; rfl)
    clear hm
    by_cases ha1 : ahead < 1
    · have HE := Lib.hid (HE0.out.trans (if_pos (Or.inl ha1)))
      go_wp2
      exact bodyPost_ret (results_ct rfl _ _ _ rfl rfl (queue_load (HP.out 2).2.1)) rfl ⟨.inr ⟨by rw [HE.out]; decide, by rw [HE.out]; exact (HP.out 2).1⟩, (HP.out 2).2.2⟩
    have ha1' : 1 ≤ ahead := by omega
    by_cases ha2 : 2 < ahead
    · have HE := Lib.hid (HE0.out.trans (if_pos (Or.inr ha2)))
      clear ha1
      go_wp2
      exact bodyPost_ret (results_ct rfl _ _ _ rfl rfl (queue_load (HP.out 2).2.1)) rfl ⟨.inr ⟨by rw [HE.out]; decide, by rw [HE.out]; exact (HP.out 2).1⟩, (HP.out 2).2.2⟩
    have ha2' : ahead ≤ 2 := by omega
    have HE1 := Lib.hid (HE0.out.trans (if_neg (by omega)))
    clear ha1 ha2 HE0
    have hcv : IntKind.u64.wrap ahead = ahead := wrap_u64 _ (by omega) (by omega)
    have had : IntKind.u64.wrap (over + ahead) = over + ahead := wrap_u64 _ (by omega) (by omega)
    obtain ⟨P, hP⟩ : ∃ P, P = over + ahead := ⟨_, rfl⟩
    rw [← hP] at had
    have HPP := Lib.hid hP
    have HE2 := Lib.hid (show putE over l ahead = if allowsB (lastP l) over P = true then (if l.length = 16 then 6 else 0) else 2 by rw [hP]; exact HE1.out)
    clear HE1
    have hP2 : over + ahead = P := hP.symm
    clear hP
    go_upto_region 6 with fail
    go_wp2_with fail
    (with_reducible refine (allows_c NoS _ over l w1 H1.out.2.2.2.2).mono ?_)
    rintro e w2 ⟨rfl, hq2, hl2, hb2⟩
    have HA := Lib.hid (allows1_c (w1.heap.size + 1) w1.heap.size (lastP l) over P _ w2 hl2 hq2 ho hg1)
    unfold alV
    go_wp2_with fail
    (with_reducible refine HA.out.mono ?_)
    rintro e w3 ⟨rfl, rfl⟩
    have H2 := Lib.hid (show QBox w3 W.heap.size (.slice p l.length c) over ∧ QBox w3 (W.heap.size + 1) (.slice none 0 0) 0 ∧ Below W.heap.size W w3 ∧ W.heap.size + 2 ≤ w3.heap.size ∧ CbOut NoS w3 (.slice p l.length c) l from ⟨H1.out.1.below hb2, H1.out.2.1.below hb2, below_then H1.out.2.2.1 H1.out.2.2.1.size hb2, by have := H1.out.2.2.2.1; have := hb2.size; omega, H1.out.2.2.2.2.below hb2⟩)
    clear HA H1 hq2 hl2 hb2 HP q0 q1 r0 r1 m0 m1
    obtain ⟨q0, q1⟩ := H2.out.1.cells
    obtain ⟨r0, r1⟩ := H2.out.2.1.cells
    have m0 := H2.out.2.1.marks 0
    have m1 := H2.out.2.1.marks 1
    have HP := Lib.hid (fun E : Int => (show AnsQ W.heap.size E 0 [] (.returned (.tuple #[.agg #[.slice none 0 0, .int .u64 0], .int .i64 E])) ((w3.setCell ⟨W.heap.size + 1, 0, none⟩ (.slice none 0 0)).setCell ⟨W.heap.size + 1, 1, none⟩ (.int .u64 0)) ∧ QBox ((w3.setCell ⟨W.heap.size + 1, 0, none⟩ (.slice none 0 0)).setCell ⟨W.heap.size + 1, 1, none⟩ (.int .u64 0)) (W.heap.size + 1) (.slice none 0 0) 0 ∧ Below W.heap.size W ((w3.setCell ⟨W.heap.size + 1, 0, none⟩ (.slice none 0 0)).setCell ⟨W.heap.size + 1, 1, none⟩ (.int .u64 0)) from
      ⟨ansQ_none _ _ _, H2.out.2.1.put _ _, H2.out.2.2.1.trans ((QBox.putK w3 _ _ _).below (by have := H2.out.2.2.2.1; omega) (fun k e => by omega))⟩))
    cases hx : allowsB (lastP l) over P with
    | false =>
      have HE := Lib.hid (show putE over l ahead = 2 by rw [HE2.out, hx]; rfl)
      go_wp2
      exact bodyPost_ret (results_ct rfl _ _ _ rfl rfl (queue_load (HP.out 2).2.1)) rfl ⟨.inr ⟨by rw [HE.out]; decide, by rw [HE.out]; exact (HP.out 2).1⟩, (HP.out 2).2.2⟩
    | true =>
      have HE3 := Lib.hid (show putE over l ahead = if l.length = 16 then 6 else 0 by rw [HE2.out, hx]; rfl)
      clear hx HE2
      by_cases hn : l.length = 16
      · have HE := Lib.hid (HE3.out.trans (if_pos hn))
        have hn' : (l.length : Int) = 16 := by omega
        clear hn
        go_wp2
        exact bodyPost_ret (results_ct rfl _ _ _ rfl rfl (queue_load (HP.out 6).2.1)) rfl ⟨.inr ⟨by rw [HE.out]; decide, by rw [HE.out]; exact (HP.out 6).1⟩, (HP.out 6).2.2⟩
      · have HE := Lib.hid (HE3.out.trans (if_neg hn))
        have hn' : ((l.length : Int) == 16) = false := by rw [beq_eq_false_iff_ne]; omega
        have hn2 : ¬ (l.length : Int) = 16 := by omega
        have HO := Lib.hid (own_c (.slice p l.length c) over l w3 H2.out.2.2.2.2 (by omega))
        clear HP r0 r1 m0 m1 hn
        go_wp2_with fail
        (with_reducible refine HO.out.mono ?_)
        rintro e w4 ⟨⟨v4, rfl, o4⟩, hb4⟩
        obtain ⟨n, hN⟩ : ∃ n, l.length = n := ⟨_, rfl⟩
        rw [hN] at o4
        obtain ⟨p4, c4, rfl⟩ := owns_slice o4
        have H4 := Lib.hid (show QBox w4 W.heap.size (.slice p l.length c) over ∧ QBox w4 (W.heap.size + 1) (.slice none 0 0) 0 ∧ Below W.heap.size W w4 from ⟨H2.out.1.below hb4, H2.out.2.1.below hb4, below_then H2.out.2.2.1 H2.out.2.2.1.size hb4⟩)
        have HZ4 := Lib.hid (show W.heap.size + 2 ≤ w3.heap.size ∧ w3.heap.size ≤ w4.heap.size from ⟨H2.out.2.2.2.1, hb4.size⟩)
        obtain ⟨w5, hw5⟩ : ∃ X : World, X = (w4.setCell ⟨W.heap.size, 0, none⟩ (.slice p4 n c4)).setCell ⟨W.heap.size, 1, none⟩ (.int .u64 over) := ⟨_, rfl⟩
        have hk5 : Keeps (fun k => k = W.heap.size) w4 w5 := by rw [hw5]; exact QBox.putK _ _ _ _
        have H5 := Lib.hid (show QBox w5 W.heap.size (.slice p4 n c4) over ∧ QBox w5 (W.heap.size + 1) (.slice none 0 0) 0 ∧ Below W.heap.size W w5 ∧ w5.ownsRow (W.heap.size + 2) 68 2 (.slice p4 n c4) n (cvs l) ∧ W.heap.size + 2 ≤ w5.heap.size ∧ l.length = n ∧ n ≤ 1000000 from ⟨by rw [hw5]; exact H4.out.1.put _ _, H4.out.2.1.keeps hk5 (by omega), H4.out.2.2.trans (hk5.below H4.out.2.2.size (fun k e => by omega)), (hk5.row o4 (fun g e => by have := (o4.lt g e).1; have := HZ4.out; omega)).mono HZ4.out.1, by have := HZ4.out; have := hk5.size; omega, hN, by omega⟩)
        obtain ⟨d0, d1⟩ := H4.out.1.cells
        have e0 := H4.out.1.marks 0
        have e1 := H4.out.1.marks 1
        have HW5 := Lib.hid hw5
        have HL := Lib.hid hN
        clear hk5 o4 hb4 q0 q1 HO H2 hw5 hN
        go_upto_region 11 with fail
        rw [← HW5.out]
        clear HW5 d0 d1 e0 e1 HZ4 H4
        obtain ⟨d0, d1⟩ := H5.out.1.cells
        have e0 := H5.out.1.marks 0
        go_upto_region 12 with (at_builtin; refine wpList_app_one rfl _ _ rfl (W.heap.size + 2) (.slice p4 n c4) n l H5.out.2.2.2.2.2.1 rfl (owns_below H5.out.2.2.2.1 (below1 _ _)) w5.heap.size 1 P x rfl (by simp) (by simp) H5.out.2.2.2.2.2.2 (by have := H5.out.2.2.2.2.1; rw [World.size_alloc]; omega) ?_; intro q r w6 ho6 hk6; have HR6 := Lib.hid ho6; have HK6 := Lib.hid hk6; have hq6 : QBox w6 W.heap.size (.slice p4 n c4) over := (H5.out.1.below (below1 _ _)).keeps hk6 (fun e => by have := (H5.out.2.2.2.1.lt _ e.symm).1; omega); have f0 := hq6.cells.1; have f1 := hq6.marks 0; have HQ6 := Lib.hid hq6; clear ho6 hk6 hq6)
        obtain ⟨w7, hw7⟩ : ∃ X : World, X = w6.setCell ⟨W.heap.size, 0, none⟩ (.slice q (n + 1) r) := ⟨_, rfl⟩
        rw [← hw7]
        have hk7 : Keeps (fun k => k = W.heap.size) w6 w7 := by rw [hw7]; exact set1K _ _ 0 _
        have hk5 : Keeps (fun k => some k = (Value.slice p4 n c4).ownBlock) w5 w6 := (Keeps.of_below (below1 _ _)).trans HK6.out
        have hrz : ∀ k, some k = (Value.slice p4 n c4).ownBlock → W.heap.size + 2 ≤ k := fun k e => (H5.out.2.2.2.1.lt k e.symm).1
        have hr7 : QBox w7 (W.heap.size + 1) (.slice none 0 0) 0 := (H5.out.2.1.keeps hk5 (fun e => by have := hrz _ e; omega)).keeps hk7 (by omega)
        have hb7 : Below W.heap.size W w7 := (H5.out.2.2.1.trans (hk5.below H5.out.2.2.1.size (fun k e => by have := hrz k e; omega))).trans (hk7.below (by have := hk5.size; have := H5.out.2.2.1.size; omega) (fun k e => by omega))
        have hq7 : QBox w7 W.heap.size (.slice q (n + 1) r) over := by rw [hw7]; exact HQ6.out.put0 _
        have ho7 := hk7.row HR6.out (fun g e => by have := (HR6.out.lt g e).1; omega)
        obtain ⟨q0, q1⟩ := hq7.cells
        obtain ⟨r0, r1⟩ := hr7.cells
        have m0 := hr7.marks 0
        have m1 := hr7.marks 1
        obtain ⟨w8, hw8⟩ : ∃ X : World, X = (w7.setCell ⟨W.heap.size + 1, 0, none⟩ (.slice q (n + 1) r)).setCell ⟨W.heap.size + 1, 1, none⟩ (.int .u64 over) := ⟨_, rfl⟩
        have hk8 : Keeps (fun k => k = W.heap.size + 1) w7 w8 := by rw [hw8]; exact QBox.putK _ _ _ _
        have H8 := Lib.hid (show QBox w8 (W.heap.size + 1) (.slice q (n + 1) r) over ∧ w8.ownsRow (W.heap.size + 2) 68 2 (.slice q (n + 1) r) (n + 1) (cvs (l ++ [(P, x)])) ∧ Below W.heap.size W w8 from ⟨by rw [hw8]; exact hr7.put _ _, hk8.row ho7 (fun g e => by have := (ho7.lt g e).1; omega), hb7.trans (hk8.below hb7.size (fun k e => by omega))⟩)
        have HW8 := Lib.hid hw8
        clear hw7 hk7 hk5 hrz hr7 hb7 hq7 ho7 hw8 hk8 d0 d1 e0 f0 f1 HQ6 HK6 HR6 H5
        go_wp2
        rw [← HW8.out]
        refine bodyPost_ret (results_ct rfl _ _ _ rfl rfl (queue_load H8.out.1)) rfl ⟨.inl ⟨HE.out, ⟨_, rfl, ?_⟩⟩, H8.out.2.2⟩
        rw [HPP.out] at H8
        rw [List.length_append, List.length_singleton, HL.out]
        exact H8.out.2.1.mono (by omega)

/-- What End answers. -/
def endE (over : Int) (l : List (Int × Int)) (x : Int) : Int := if mayB over l = true then (if x < over ∨ 9223372036854775806 < x then 2 else 0) else 230
def EndQ (B : Nat) (over : Int) (l : List (Int × Int)) (x : Int) (e : Ending) (w' : World) : Prop :=
  (endE over l x = 0 ∧ AnsQ B 0 x l e w') ∨ (endE over l x ≠ 0 ∧ AnsQ B (endE over l x) 0 [] e w')
set_option maxHeartbeats 16000000 in
theorem end_c (v : Value) (over : Int) (l : List (Int × Int)) (x : Int) (W : World) (hv : CbOut NoS W v l) (ho : 0 ≤ over) :
    Calls Tryz.prog 78 #[.agg #[v, .int .u64 over], .int .u64 x] W fun e w' => EndQ W.heap.size over l x e w' ∧ Below W.heap.size W w' := by
  obtain ⟨w0, hw0⟩ : ∃ X : World, X = (W.alloc (.cells #[v, .int .u64 over] 66)).alloc (.cells #[.slice none 0 0, .int .u64 0] 66) := ⟨_, rfl⟩
  have hb0 : Below W.heap.size W w0 := by rw [hw0]; exact below2 _ _ _
  have HF := Lib.hid (show QBox w0 W.heap.size v over ∧ QBox w0 (W.heap.size + 1) (.slice none 0 0) 0 ∧ Below W.heap.size W w0 ∧ w0.heap.size = W.heap.size + 2 from ⟨by rw [hw0]; exact (QBox.new W _ _).below (below1 _ _), by
      rw [hw0]
      have := QBox.new (W.alloc (.cells #[v, .int .u64 over] 66)) (.slice none 0 0) 0
      simpa using this, hb0, by rw [hw0]; simp⟩)
  have HV := Lib.hid (hv.below hb0)
  have HM := Lib.hid (may_c v over l w0 HV.out ho)
  obtain ⟨p, c, rfl, hlc, hcm, -⟩ := hv
  have HW0 := Lib.hid hw0
  obtain ⟨q0, q1⟩ := HF.out.1.cells
  clear hw0 hb0
  go_enter Tryz.func78, Tryz.ntmps78
  go_wp2_with fail
  rw [← HW0.out]
  clear HW0 q0 q1
  (with_reducible refine HM.out.mono ?_)
  rintro e w1 ⟨rfl, hb1⟩
  have H1 := Lib.hid (show QBox w1 W.heap.size (.slice p l.length c) over ∧ QBox w1 (W.heap.size + 1) (.slice none 0 0) 0 ∧ Below W.heap.size W w1 ∧ W.heap.size + 2 ≤ w1.heap.size ∧ CbOut NoS w1 (.slice p l.length c) l from ⟨HF.out.1.below hb1, HF.out.2.1.below hb1, below_then HF.out.2.2.1 HF.out.2.2.1.size hb1, by have := HF.out.2.2.2; have := hb1.size; omega, HV.out.below hb1⟩)
  clear hb1 HF HV HM
  obtain ⟨q0, q1⟩ := H1.out.1.cells
  obtain ⟨r0, r1⟩ := H1.out.2.1.cells
  have m0 := H1.out.2.1.marks 0
  have m1 := H1.out.2.1.marks 1
  have HP := Lib.hid (fun E : Int => (show AnsQ W.heap.size E 0 [] (.returned (.tuple #[.agg #[.slice none 0 0, .int .u64 0], .int .i64 E])) ((w1.setCell ⟨W.heap.size + 1, 0, none⟩ (.slice none 0 0)).setCell ⟨W.heap.size + 1, 1, none⟩ (.int .u64 0)) ∧ QBox ((w1.setCell ⟨W.heap.size + 1, 0, none⟩ (.slice none 0 0)).setCell ⟨W.heap.size + 1, 1, none⟩ (.int .u64 0)) (W.heap.size + 1) (.slice none 0 0) 0 ∧ Below W.heap.size W ((w1.setCell ⟨W.heap.size + 1, 0, none⟩ (.slice none 0 0)).setCell ⟨W.heap.size + 1, 1, none⟩ (.int .u64 0)) from
    ⟨ansQ_none _ _ _, H1.out.2.1.put _ _, H1.out.2.2.1.trans ((QBox.putK w1 _ _ _).below (by have := H1.out.2.2.2.1; omega) (fun k e => by omega))⟩))
  cases hm : mayB over l with
  | false =>
    have HE := Lib.hid (show endE over l x = 230 by unfold endE; rw [hm]; rfl)
    go_wp2
    exact bodyPost_ret (results_ct rfl _ _ _ rfl rfl (queue_load (HP.out 230).2.1)) rfl ⟨.inr ⟨by rw [HE.out]; decide, by rw [HE.out]; exact (HP.out 230).1⟩, (HP.out 230).2.2⟩
  | true =>
    obtain ⟨hg1, hg2, -⟩ := may_parts hm
    have HE0 := Lib.hid (show endE over l x = (if x < over ∨ 9223372036854775806 < x then 2 else 0) by unfold endE; rw [hm]; rfl)
    clear hm
    by_cases ha1 : x < over
    · have HE := Lib.hid (HE0.out.trans (if_pos (Or.inl ha1)))
      go_wp2
      exact bodyPost_ret (results_ct rfl _ _ _ rfl rfl (queue_load (HP.out 2).2.1)) rfl ⟨.inr ⟨by rw [HE.out]; decide, by rw [HE.out]; exact (HP.out 2).1⟩, (HP.out 2).2.2⟩
    have ha1' : over ≤ x := by omega
    by_cases ha2 : 9223372036854775806 < x
    · have HE := Lib.hid (HE0.out.trans (if_pos (Or.inr ha2)))
      clear ha1
      go_wp2
      exact bodyPost_ret (results_ct rfl _ _ _ rfl rfl (queue_load (HP.out 2).2.1)) rfl ⟨.inr ⟨by rw [HE.out]; decide, by rw [HE.out]; exact (HP.out 2).1⟩, (HP.out 2).2.2⟩
    have ha2' : x ≤ 9223372036854775806 := by omega
    have HE := Lib.hid (HE0.out.trans (if_neg (by omega)))
    clear ha1 ha2 HE0 HP
    have HO := Lib.hid (own_c (.slice p l.length c) over l w1 H1.out.2.2.2.2 (by omega))
    clear r0 r1 m0 m1
    go_wp2_with fail
    (with_reducible refine HO.out.mono ?_)
    rintro e w4 ⟨⟨v4, rfl, o4⟩, hb4⟩
    obtain ⟨n, hN⟩ : ∃ n, l.length = n := ⟨_, rfl⟩
    rw [hN] at o4
    obtain ⟨p4, c4, rfl⟩ := owns_slice o4
    have HZ4 := Lib.hid (show W.heap.size + 2 ≤ w1.heap.size ∧ w1.heap.size ≤ w4.heap.size from ⟨H1.out.2.2.2.1, hb4.size⟩)
    have H4 := Lib.hid (show QBox w4 W.heap.size (.slice p l.length c) over ∧ QBox w4 (W.heap.size + 1) (.slice none 0 0) 0 ∧ Below W.heap.size W w4 ∧ w4.ownsRow (W.heap.size + 2) 68 2 (.slice p4 n c4) n (cvs l) from ⟨H1.out.1.below hb4, H1.out.2.1.below hb4, below_then H1.out.2.2.1 H1.out.2.2.1.size hb4, o4.mono HZ4.out.1⟩)
    obtain ⟨w5, hw5⟩ : ∃ X : World, X = (w4.setCell ⟨W.heap.size, 0, none⟩ (.slice p4 n c4)).setCell ⟨W.heap.size, 1, none⟩ (.int .u64 over) := ⟨_, rfl⟩
    have hk5 : Keeps (fun k => k = W.heap.size) w4 w5 := by rw [hw5]; exact QBox.putK _ _ _ _
    have hq5 : QBox w5 W.heap.size (.slice p4 n c4) over := by rw [hw5]; exact H4.out.1.put _ _
    obtain ⟨w6, hw6⟩ : ∃ X : World, X = w5.setCell ⟨W.heap.size, 1, none⟩ (.int .u64 x) := ⟨_, rfl⟩
    have hk6 : Keeps (fun k => k = W.heap.size) w4 w6 := hk5.trans (by rw [hw6]; exact set1K _ _ 1 _)
    have H6 := Lib.hid (show QBox w6 W.heap.size (.slice p4 n c4) x ∧ QBox w6 (W.heap.size + 1) (.slice none 0 0) 0 ∧ Below W.heap.size W w6 ∧ w6.ownsRow (W.heap.size + 2) 68 2 (.slice p4 n c4) n (cvs l) from ⟨by rw [hw6]; exact hq5.put1 _, H4.out.2.1.keeps hk6 (by omega), H4.out.2.2.1.trans (hk6.below H4.out.2.2.1.size (fun k e => by omega)), hk6.row H4.out.2.2.2 (fun g e => by have := (H4.out.2.2.2.lt g e).1; omega)⟩)
    have HQ5 := Lib.hid hq5
    obtain ⟨d0, d1⟩ := H4.out.1.cells
    have e0 := H4.out.1.marks 0
    have e1 := H4.out.1.marks 1
    have HW5 := Lib.hid hw5
    have HW6 := Lib.hid hw6
    have HL := Lib.hid hN
    clear hk5 hk6 hq5 o4 hb4 q0 q1 HO H1 hw5 hw6 hN HZ4
    go_upto_region 6 with fail
    rw [← HW5.out]
    clear HW5 d0 d1 e0 e1 H4
    obtain ⟨d0, d1⟩ := HQ5.out.cells
    have e1 := HQ5.out.marks 1
    go_upto_region 7 with fail
    rw [← HW6.out]
    clear HW6 d0 d1 e1 HQ5
    obtain ⟨q0, q1⟩ := H6.out.1.cells
    have hr7 := H6.out.2.1
    obtain ⟨r0, r1⟩ := hr7.cells
    have m0 := hr7.marks 0
    have m1 := hr7.marks 1
    obtain ⟨w8, hw8⟩ : ∃ X : World, X = (w6.setCell ⟨W.heap.size + 1, 0, none⟩ (.slice p4 n c4)).setCell ⟨W.heap.size + 1, 1, none⟩ (.int .u64 x) := ⟨_, rfl⟩
    have hk8 : Keeps (fun k => k = W.heap.size + 1) w6 w8 := by rw [hw8]; exact QBox.putK _ _ _ _
    have H8 := Lib.hid (show QBox w8 (W.heap.size + 1) (.slice p4 n c4) x ∧ w8.ownsRow (W.heap.size + 2) 68 2 (.slice p4 n c4) n (cvs l) ∧ Below W.heap.size W w8 from ⟨by rw [hw8]; exact hr7.put _ _, hk8.row H6.out.2.2.2 (fun g e => by have := (H6.out.2.2.2.lt g e).1; omega), H6.out.2.2.1.trans (hk8.below H6.out.2.2.1.size (fun k e => by omega))⟩)
    have HW8 := Lib.hid hw8
    clear hr7 hw8 hk8 H6
    go_wp2
    rw [← HW8.out]
    refine bodyPost_ret (results_ct rfl _ _ _ rfl rfl (queue_load H8.out.1)) rfl ⟨.inl ⟨HE.out, ⟨_, rfl, ?_⟩⟩, H8.out.2.2⟩
    rw [HL.out]
    exact H8.out.2.1.mono (by omega)

end Go.Proofs.YtdllhiihmpinoaaGreat.U
/-
  Package queue: take, the method by which a callback goes out of a drained queue.
  Conditions: there is one.
-/
namespace Go.Proofs.YtdllhiihmpinoaaGreat.U
set_option maxRecDepth 100000
open Go.RowKit Go.Shelf
attribute [local go_sem] Oper.semAt_some

/-- What box a drained queue lies in. -/
def DrB (W : World) (z : Nat) (v : Value) (over : Int) (u : Value) : Prop := W.heap[z]? = some (.cells #[v, .int .u64 over, u] 193 (0, 0))
theorem DrB.cells {W : World} {z : Nat} {v u : Value} {o : Int} (h : DrB W z v o u) : W.cell? ⟨z, 0, none⟩ = some v ∧ W.cell? ⟨z, 1, none⟩ = some (.int .u64 o) ∧ W.cell? ⟨z, 2, none⟩ = some u := by
  have h' : W.heap[z]? = _ := h
  simp [World.cell?, h']
theorem DrB.marks {W : World} {z : Nat} {v u : Value} {o : Int} (h : DrB W z v o u) (i : Nat) : W.frozen? ⟨z, i, none⟩ = false := by
  have h' : W.heap[z]? = _ := h
  simp [World.frozen?, h']
theorem DrB.lt {W : World} {z : Nat} {v u : Value} {o : Int} (h : DrB W z v o u) : z < W.heap.size := (Array.getElem?_eq_some_iff.1 h).1
theorem DrB.below {W W' : World} {z : Nat} {v u : Value} {o : Int} (h : DrB W z v o u) (hb : Below W.heap.size W W') : DrB W' z v o u := (hb.block z h.lt).trans h
theorem DrB.keeps {S : Nat → Prop} {W W' : World} {z : Nat} {v u : Value} {o : Int} (h : DrB W z v o u) (hk : Keeps S W W') (hz : ¬ S z) : DrB W' z v o u := (hk.block z h.lt hz).trans h
theorem DrB.put2 {W : World} {z : Nat} {v u : Value} {o : Int} (h : DrB W z v o u) (u' : Value) : DrB (W.setCell ⟨z, 2, none⟩ u') z v o u' := by
  have h0 := heap_setCell_same W z 2 _ _ u' h
  unfold DrB
  rw [h0]
  rfl
theorem DrB.put0 {W : World} {z : Nat} {v u : Value} {o : Int} (h : DrB W z v o u) (v' : Value) : DrB (W.setCell ⟨z, 0, none⟩ v') z v' o u := by
  have h0 := heap_setCell_same W z 0 _ _ v' h
  unfold DrB
  rw [h0]
  rfl
/-- A row of callbacks behind its first one. -/
def nextA (p : Option Addr) (n : Nat) : Option Addr := if n = 1 then p else p.map (·.add 2)
theorem run_next (p : Option Addr) (n c : Nat) (h : 1 ≤ n) (hc : n ≤ c) (wx : World) :
    (Instr.slice 64 (.slice p n c) (some (.int .i64 1)) (some (.int .i64 (n : Int))) (some (.int .i64 (n : Int)))).run Tryz.prog wx = .ok (.slice (nextA p n) (n - 1) (n - 1)) wx := by
  rw [run_slice_lhm wx 64 p n c Tryz.underlying64 .i64 .i64 .i64 1 (n : Int) (n : Int) (by omega) (by omega) (by omega) (by omega)]
  have hE : (sizeOf (Tryz.prog.elem 64)).run Tryz.prog wx = .ok 2 wx := by go_simp
  rw [hE]
  simp [sliced, Result.andThen, nextA]
theorem info_w : (Tryz.prog.info? 35).map (fun i => (i.zero, i.size, i.bytes)) = some (some (.int .u64 0), 1, 8) := by kernel_rfl

/-- Behind take. -/
def TakeQ (z B : Nat) (p : Option Addr) (n : Nat) (over : Int) (m : Nat) (ws : List Int) (x : Int) (u : Value) (e : Ending) (W w' : World) : Prop :=
  e = .returned (.tuple #[]) ∧ ∃ q r, DrB w' z (.slice (nextA p n) (n - 1) (n - 1)) over (.slice q (m + 1) r) ∧ w'.ownsRow B 35 1 (.slice q (m + 1) r) (m + 1) ((ws ++ [x]).map (Value.int .u64)) ∧ Keeps (fun k => k = z ∨ some k = u.ownBlock) W w'
theorem take_fin {z B : Nat} {p : Option Addr} {n c : Nat} {over : Int} {wp : Option Addr} {m wc : Nat} {ws : List Int} {x : Int} {W w1 w2 : World} {v' : Value} (hd : DrB W z (.slice p n c) over (.slice wp m wc)) (hz : z < B) (hr : W.ownsRow B 35 1 (.slice wp m wc) m (ws.map (Value.int .u64))) (hw1 : w1 = W.alloc (.cells #[.int .u64 x] 35))
    (ho : w2.ownsRow B 35 1 v' (m + 1) (ws.map (Value.int .u64) ++ [.int .u64 x])) (hg : w1.grownBy w2 (Value.slice wp m wc).ownBlock) :
    ∃ q r, v' = .slice q (m + 1) r ∧ DrB w2 z (.slice p n c) over (.slice wp m wc) ∧ w2.ownsRow B 35 1 (.slice q (m + 1) r) (m + 1) ((ws ++ [x]).map (Value.int .u64)) ∧ Keeps (fun k => some k = (Value.slice wp m wc).ownBlock) W w2 := by
  have e : ws.map (Value.int .u64) ++ [.int .u64 x] = (ws ++ [x]).map (Value.int .u64) := by simp
  rw [e] at ho
  obtain ⟨q, r, rfl⟩ := owns_slice ho
  have hb : Below W.heap.size W w1 := by rw [hw1]; exact below1 _ _
  have hk : Keeps (fun k => some k = (Value.slice wp m wc).ownBlock) w1 w2 := ⟨hg.os, hg.tape, hg.output, hg.size, fun k hk hn => hg.block k hk (fun e => hn e)⟩
  exact ⟨q, r, rfl, (hd.below hb).keeps hk (fun e => by have := (hr.lt z e.symm).1; omega), ho, (Keeps.of_below hb).trans hk⟩

set_option maxHeartbeats 16000000 in
theorem take_c (z B : Nat) (p : Option Addr) (n c : Nat) (over : Int) (wp : Option Addr) (m wc : Nat) (ws : List Int) (x : Int) (W : World) (hd : DrB W z (.slice p n c) over (.slice wp m wc)) (hz : z < B) (hB : B ≤ W.heap.size) (hr : W.ownsRow B 35 1 (.slice wp m wc) m (ws.map (Value.int .u64))) (h1 : 1 ≤ n) (hc : n ≤ c) (_ : c ≤ 9223372036854775807) (hm : m ≤ 1000) :
    Calls Tryz.prog 165 #[.pointer (some ⟨z, 0, none⟩), .int .u64 x] W fun e w' => TakeQ z B p n over m ws x (.slice wp m wc) e W w' := by
  obtain ⟨i0, hi, hz0, hz1, hz2⟩ := info_parts info_w
  obtain ⟨w1, hw1⟩ : ∃ X : World, X = W.alloc (.cells #[.int .u64 x] 35) := ⟨_, rfl⟩
  have HI := Lib.hid (And.intro hi (And.intro hz0 (And.intro hz1 hz2)))
  have HF := Lib.hid (fun (w2 : World) (v' : Value) => take_fin (w1 := w1) (w2 := w2) (v' := v') (x := x) hd hz hr hw1)
  have hd1 : DrB w1 z (.slice p n c) over (.slice wp m wc) := by rw [hw1]; exact hd.below (below1 _ _)
  have hr1 : w1.ownsRow B 35 1 (.slice wp m wc) m (ws.map (Value.int .u64)) := by rw [hw1]; exact owns_below hr (below1 _ _)
  have hB1 : B ≤ w1.heap.size := by rw [hw1, World.size_alloc]; omega
  have hx1 : ∀ j u, ([.int .u64 x] : List Value)[j]? = some u → w1.cell? ((⟨W.heap.size, 0, none⟩ : Addr).add j) = some u := by rw [hw1]; exact cell_one_new _ _ _
  have HR1 := Lib.hid (And.intro hr1 (And.intro hB1 hx1))
  obtain ⟨d0, d1, d2⟩ := hd.cells
  obtain ⟨d0', d1', d2'⟩ := hd1.cells
  have m2 := hd1.marks 2
  have HZB := Lib.hid (And.intro hz hm)
  have hsl := run_next p n c h1 hc
  have HW1 := Lib.hid hw1
  clear hi hz0 hz1 hz2 hd hd1 hr hr1 hB hB1 hx1 hw1 hz
  go_enter Tryz.func165, Tryz.ntmps165
  go_upto_region 1 with (at_builtin; rw [← HW1.out]; refine wpList_append_own _ rfl _ _ 40 rfl B 35 i0 (.int .u64 0) 1 8 Tryz.underlying40 HI.out.1 HI.out.2.1 HI.out.2.2.1 HI.out.2.2.2 rfl (by decide) (.slice wp m wc) m (ws.map (Value.int .u64)) rfl HR1.out.1 ⟨W.heap.size, 0, none⟩ 1 1 [.int .u64 x] rfl rfl HR1.out.2.2 (fun y hy => by rw [List.mem_singleton.1 hy]; rfl) (by have := HZB.out.2; unfold maxLen; omega) (by have := HZB.out.2; omega) HR1.out.2.1 ?_; intro v' w2 hown' hgrow _; obtain ⟨q, r, rfl, hd2, ho2, hk2⟩ := HF.out w2 v' hown' hgrow; have f2 := hd2.marks 2; have f2' := hd2.cells.2.2; have HD2 := Lib.hid (And.intro hd2 (And.intro ho2 hk2)); clear hown' hgrow hd2 ho2 hk2)
  clear d0 d1 d2 d0' d1' d2' m2 HR1 HI HF f2 f2'
  obtain ⟨w3, hw3⟩ : ∃ X : World, X = w2.setCell ⟨z, 2, none⟩ (.slice q (m + 1) r) := ⟨_, rfl⟩
  rw [← hw3]
  have hk3 : Keeps (fun k => k = z) w2 w3 := by rw [hw3]; exact set1K _ _ 2 _
  have H3 := Lib.hid (show DrB w3 z (.slice p n c) over (.slice q (m + 1) r) ∧ w3.ownsRow B 35 1 (.slice q (m + 1) r) (m + 1) ((ws ++ [x]).map (Value.int .u64)) ∧ Keeps (fun k => k = z ∨ some k = (Value.slice wp m wc).ownBlock) W w3 from ⟨by rw [hw3]; exact HD2.out.1.put2 _, hk3.row HD2.out.2.1 (fun g e => by have := (HD2.out.2.1.lt g e).1; have := HZB.out.1; omega), (HD2.out.2.2.sub (fun k _ h => .inr h)).trans (hk3.sub (fun k _ h => .inl h))⟩)
  clear hw3 hk3 HD2
  refine wpTwo_begin (T := fun _ => True) (S := fun w' => DrB w' z (.slice p n c) over (.slice q (m + 1) r)) (late := fun j => [22].contains j) (by kernel_rfl) ?_
  obtain ⟨X, hX⟩ : ∃ Y : World, Y = w3.drew := ⟨_, rfl⟩
  rw [← hX]
  have hbx : Below w3.heap.size w3 X := by rw [hX]; exact (Below.refl _ _).drew
  clear hX
  have hT0 := H3.out.1.below hbx
  have HX := Lib.hid (show X.ownsRow B 35 1 (.slice q (m + 1) r) (m + 1) ((ws ++ [x]).map (Value.int .u64)) ∧ Keeps (fun k => k = z ∨ some k = (Value.slice wp m wc).ownBlock) W X from ⟨owns_below H3.out.2.1 hbx, H3.out.2.2.trans (Keeps.of_below hbx)⟩)
  clear hbx H3
  refine wpTwo_takeT (i := 0) (v := .pointer (some ⟨z, 0, none⟩)) rfl (by kernel_rfl) (by kernel_rfl) (by kernel_rfl) (fun _ _ _ h => h) ⟨by rfl, ?_⟩ trivial ?_
  · rintro w -
    go_simp
  (try simp only [Act.put, List.getElem_toArray, List.getElem_cons_zero, List.setIfInBounds_toArray, List.set_cons_succ, List.set_cons_zero])
  refine wpTwo_takeT (i := 1) (v := .pointer (some ⟨z, 0, none⟩)) rfl (by kernel_rfl) (by kernel_rfl) (by kernel_rfl) (fun _ _ _ h => h) ⟨by rfl, ?_⟩ trivial ?_
  · rintro w -
    go_simp
  (try simp only [Act.put, List.getElem_toArray, List.getElem_cons_succ, List.getElem_cons_zero, List.setIfInBounds_toArray, List.set_cons_succ, List.set_cons_zero])
  refine wpTwo_takeT (i := 2) (v := .pointer (some ⟨z, 0, none⟩)) rfl (by kernel_rfl) (by kernel_rfl) (by kernel_rfl) (fun _ _ _ h => h) ⟨by rfl, ?_⟩ trivial ?_
  · rintro w -
    go_simp
  (try simp only [Act.put, List.getElem_toArray, List.getElem_cons_succ, List.getElem_cons_zero, List.setIfInBounds_toArray, List.set_cons_succ, List.set_cons_zero])
  refine wpTwo_takeT (i := 3) (v := .pointer (some ⟨z, 0, none⟩)) rfl (by kernel_rfl) (by kernel_rfl) (by kernel_rfl) (fun _ _ _ h => h) ⟨by rfl, ?_⟩ trivial ?_
  · rintro w -
    go_simp
  (try simp only [Act.put, List.getElem_toArray, List.getElem_cons_succ, List.getElem_cons_zero, List.setIfInBounds_toArray, List.set_cons_succ, List.set_cons_zero])
  refine wpTwo_takeT (i := 4) (v := .pointer (some ⟨z, 0, none⟩)) rfl (by kernel_rfl) (by kernel_rfl) (by kernel_rfl) (fun _ _ _ h => h) ⟨by rfl, ?_⟩ trivial ?_
  · rintro w -
    go_simp
  (try simp only [Act.put, List.getElem_toArray, List.getElem_cons_succ, List.getElem_cons_zero, List.setIfInBounds_toArray, List.set_cons_succ, List.set_cons_zero])
  refine wpTwo_takeS (i := 5) (v := .slice p n c) (waits_all (by kernel_rfl)) rfl (by kernel_rfl) (by kernel_rfl) (by kernel_rfl) (fun _ _ _ h => h) ⟨by rfl, ?_⟩ ⟨trivial, hT0⟩ ?_
  · rintro w ⟨-, hTw⟩
    obtain ⟨t0', t1', t2'⟩ := hTw.cells
    go_simp
  (try simp only [Act.put, List.getElem_toArray, List.getElem_cons_succ, List.getElem_cons_zero, List.setIfInBounds_toArray, List.set_cons_succ, List.set_cons_zero])
  refine wpTwo_takeT (i := 6) (v := .pointer (some ⟨z, 0, none⟩)) rfl (by kernel_rfl) (by kernel_rfl) (by kernel_rfl) (fun _ _ _ h => h) ⟨by rfl, ?_⟩ trivial ?_
  · rintro w -
    go_simp
  (try simp only [Act.put, List.getElem_toArray, List.getElem_cons_succ, List.getElem_cons_zero, List.setIfInBounds_toArray, List.set_cons_succ, List.set_cons_zero])
  refine wpTwo_takeT (i := 7) (v := .pointer (some ⟨z, 0, none⟩)) rfl (by kernel_rfl) (by kernel_rfl) (by kernel_rfl) (fun _ _ _ h => h) ⟨by rfl, ?_⟩ trivial ?_
  · rintro w -
    go_simp
  (try simp only [Act.put, List.getElem_toArray, List.getElem_cons_succ, List.getElem_cons_zero, List.setIfInBounds_toArray, List.set_cons_succ, List.set_cons_zero])
  refine wpTwo_takeT (i := 8) (v := .pointer (some ⟨z, 0, none⟩)) rfl (by kernel_rfl) (by kernel_rfl) (by kernel_rfl) (fun _ _ _ h => h) ⟨by rfl, ?_⟩ trivial ?_
  · rintro w -
    go_simp
  (try simp only [Act.put, List.getElem_toArray, List.getElem_cons_succ, List.getElem_cons_zero, List.setIfInBounds_toArray, List.set_cons_succ, List.set_cons_zero])
  refine wpTwo_takeT (i := 9) (v := .pointer (some ⟨z, 0, none⟩)) rfl (by kernel_rfl) (by kernel_rfl) (by kernel_rfl) (fun _ _ _ h => h) ⟨by rfl, ?_⟩ trivial ?_
  · rintro w -
    go_simp
  (try simp only [Act.put, List.getElem_toArray, List.getElem_cons_succ, List.getElem_cons_zero, List.setIfInBounds_toArray, List.set_cons_succ, List.set_cons_zero])
  refine wpTwo_takeS (i := 10) (v := .slice p n c) (waits_all (by kernel_rfl)) rfl (by kernel_rfl) (by kernel_rfl) (by kernel_rfl) (fun _ _ _ h => h) ⟨by rfl, ?_⟩ ⟨trivial, hT0⟩ ?_
  · rintro w ⟨-, hTw⟩
    obtain ⟨t0', t1', t2'⟩ := hTw.cells
    go_simp
  (try simp only [Act.put, List.getElem_toArray, List.getElem_cons_succ, List.getElem_cons_zero, List.setIfInBounds_toArray, List.set_cons_succ, List.set_cons_zero])
  refine wpTwo_takeT (i := 11) (v := .int .i64 (n : Int)) rfl (by kernel_rfl) (by kernel_rfl) (by kernel_rfl) (fun _ _ _ h => h) ⟨by rfl, ?_⟩ trivial ?_
  · rintro w -
    go_simp
  (try simp only [Act.put, List.getElem_toArray, List.getElem_cons_succ, List.getElem_cons_zero, List.setIfInBounds_toArray, List.set_cons_succ, List.set_cons_zero])
  refine wpTwo_takeT (i := 12) (v := .pointer (some ⟨z, 0, none⟩)) rfl (by kernel_rfl) (by kernel_rfl) (by kernel_rfl) (fun _ _ _ h => h) ⟨by rfl, ?_⟩ trivial ?_
  · rintro w -
    go_simp
  (try simp only [Act.put, List.getElem_toArray, List.getElem_cons_succ, List.getElem_cons_zero, List.setIfInBounds_toArray, List.set_cons_succ, List.set_cons_zero])
  refine wpTwo_takeT (i := 13) (v := .pointer (some ⟨z, 0, none⟩)) rfl (by kernel_rfl) (by kernel_rfl) (by kernel_rfl) (fun _ _ _ h => h) ⟨by rfl, ?_⟩ trivial ?_
  · rintro w -
    go_simp
  (try simp only [Act.put, List.getElem_toArray, List.getElem_cons_succ, List.getElem_cons_zero, List.setIfInBounds_toArray, List.set_cons_succ, List.set_cons_zero])
  refine wpTwo_takeT (i := 14) (v := .pointer (some ⟨z, 0, none⟩)) rfl (by kernel_rfl) (by kernel_rfl) (by kernel_rfl) (fun _ _ _ h => h) ⟨by rfl, ?_⟩ trivial ?_
  · rintro w -
    go_simp
  (try simp only [Act.put, List.getElem_toArray, List.getElem_cons_succ, List.getElem_cons_zero, List.setIfInBounds_toArray, List.set_cons_succ, List.set_cons_zero])
  refine wpTwo_takeT (i := 15) (v := .pointer (some ⟨z, 0, none⟩)) rfl (by kernel_rfl) (by kernel_rfl) (by kernel_rfl) (fun _ _ _ h => h) ⟨by rfl, ?_⟩ trivial ?_
  · rintro w -
    go_simp
  (try simp only [Act.put, List.getElem_toArray, List.getElem_cons_succ, List.getElem_cons_zero, List.setIfInBounds_toArray, List.set_cons_succ, List.set_cons_zero])
  refine wpTwo_takeS (i := 16) (v := .slice p n c) (waits_all (by kernel_rfl)) rfl (by kernel_rfl) (by kernel_rfl) (by kernel_rfl) (fun _ _ _ h => h) ⟨by rfl, ?_⟩ ⟨trivial, hT0⟩ ?_
  · rintro w ⟨-, hTw⟩
    obtain ⟨t0', t1', t2'⟩ := hTw.cells
    go_simp
  (try simp only [Act.put, List.getElem_toArray, List.getElem_cons_succ, List.getElem_cons_zero, List.setIfInBounds_toArray, List.set_cons_succ, List.set_cons_zero])
  refine wpTwo_takeT (i := 17) (v := .int .i64 (n : Int)) rfl (by kernel_rfl) (by kernel_rfl) (by kernel_rfl) (fun _ _ _ h => h) ⟨by rfl, ?_⟩ trivial ?_
  · rintro w -
    go_simp
  (try simp only [Act.put, List.getElem_toArray, List.getElem_cons_succ, List.getElem_cons_zero, List.setIfInBounds_toArray, List.set_cons_succ, List.set_cons_zero])
  refine wpTwo_takeT (i := 18) (v := .slice (nextA p n) (n - 1) (n - 1)) rfl (by kernel_rfl) (by kernel_rfl) (by kernel_rfl) (fun _ _ _ h => h) ⟨by rfl, ?_⟩ trivial ?_
  · rintro w -
    go_simp
  (try simp only [Act.put, List.getElem_toArray, List.getElem_cons_succ, List.getElem_cons_zero, List.setIfInBounds_toArray, List.set_cons_succ, List.set_cons_zero])
  refine wpTwo_takeT (i := 19) (v := .pointer (some ⟨z, 0, none⟩)) rfl (by kernel_rfl) (by kernel_rfl) (by kernel_rfl) (fun _ _ _ h => h) ⟨by rfl, ?_⟩ trivial ?_
  · rintro w -
    go_simp
  (try simp only [Act.put, List.getElem_toArray, List.getElem_cons_succ, List.getElem_cons_zero, List.setIfInBounds_toArray, List.set_cons_succ, List.set_cons_zero])
  refine wpTwo_takeT (i := 20) (v := .pointer (some ⟨z, 0, none⟩)) rfl (by kernel_rfl) (by kernel_rfl) (by kernel_rfl) (fun _ _ _ h => h) ⟨by rfl, ?_⟩ trivial ?_
  · rintro w -
    go_simp
  (try simp only [Act.put, List.getElem_toArray, List.getElem_cons_succ, List.getElem_cons_zero, List.setIfInBounds_toArray, List.set_cons_succ, List.set_cons_zero])
  refine wpTwo_takeT (i := 21) (v := .pointer (some ⟨z, 0, none⟩)) rfl (by kernel_rfl) (by kernel_rfl) (by kernel_rfl) (fun _ _ _ h => h) ⟨by rfl, ?_⟩ trivial ?_
  · rintro w -
    go_simp
  (try simp only [Act.put, List.getElem_toArray, List.getElem_cons_succ, List.getElem_cons_zero, List.setIfInBounds_toArray, List.set_cons_succ, List.set_cons_zero])
  obtain ⟨t0, t1, t2⟩ := hT0.cells
  have n0 := hT0.marks 0
  obtain ⟨Y, hY⟩ : ∃ Y : World, Y = X.setCell ⟨z, 0, none⟩ (.slice (nextA p n) (n - 1) (n - 1)) := ⟨_, rfl⟩
  have HY := Lib.hid (show DrB Y z (.slice (nextA p n) (n - 1) (n - 1)) over (.slice q (m + 1) r) by rw [hY]; exact hT0.put0 _)
  have HK := Lib.hid (show Keeps (fun k => k = z) X Y by rw [hY]; exact set1K _ _ 0 _)
  have HYY := Lib.hid hY
  clear hY
  refine wpTwo_ready (rs := [22]) (by kernel_rfl) (by simp) ?_
  refine (AllTwo.cons rfl (fun K hK => ?_) AllTwo.nil)
  go_simp
  rw [← HYY.out]
  refine hK.out _ _ ⟨trivial, fun e => by cases e⟩ ?_
  clear hK K hT0 t0 t1 t2 n0 HYY
  (try simp only [Act.put])
  refine wpTwo_end (by kernel_rfl) ?_ _
  have HF := Lib.hid (show TakeQ z B p n over m ws x (.slice wp m wc) (.returned (.tuple #[])) W Y from ⟨rfl, q, r, HY.out, HK.out.row HX.out.1 (fun g e => by have := (HX.out.1.lt g e).1; have := HZB.out.1; omega), HX.out.2.trans (HK.out.sub (fun k _ h => .inl h))⟩)
  clear HY HK HX
  go_wp2
  exact ⟨rfl, .tuple #[], (by simp [results, Tryz.results165, go_sem]), HF.out⟩

end Go.Proofs.YtdllhiihmpinoaaGreat.U
namespace Go.Proofs.YtdllhiihmpinoaaGreat.U
set_option maxRecDepth 100000
open Go.RowKit Go.Shelf
attribute [local go_sem] Oper.semAt_some

/-- The cells outside of some blocks stay as they are. -/
def KeepsCells (S : Nat → Prop) (W W' : World) : Prop := ∀ b o v, ¬ S b → W.cell? ⟨b, o, none⟩ = some v → W'.cell? ⟨b, o, none⟩ = some v
theorem KeepsCells.refl (S : Nat → Prop) (W : World) : KeepsCells S W W := fun _ _ _ _ h => h
theorem KeepsCells.trans {S : Nat → Prop} {X Y Z : World} (h : KeepsCells S X Y) (k : KeepsCells S Y Z) : KeepsCells S X Z := fun b o v hb hx => k b o v hb (h b o v hb hx)
theorem KeepsCells.keeps {S : Nat → Prop} {X Y : World} (h : Keeps S X Y) : KeepsCells S X Y := fun b _ _ hb hx => h.cell hx (by simpa using hb)
theorem KeepsCells.turn (S : Nat → Prop) (W : World) (l : Nat) (o o' : Obj) (hl : W.heap[l]? = some o) (ho : o.isCells = false) (_ : o.isWalk = false) : KeepsCells S W (W.putObj l o') := fun b i v _ h => by
  by_cases e : b = l
  · subst e
    simp only [World.cell?, hl] at h
    cases o <;> simp_all [Obj.isCells]
  · have hp : (W.putObj l o').heap[b]? = W.heap[b]? := World.putObj_heap_other e
    simp only [World.cell?] at h ⊢
    rw [hp]
    exact h
theorem CbOut.cells {S : Nat → Prop} {W W' : World} {v : Value} {l : List (Int × Int)} (h : CbOut S W v l) (hk : KeepsCells S W W') : CbOut S W' v l := by
  obtain ⟨p, cap, rfl, h1, h2, hc⟩ := h
  refine ⟨p, cap, rfl, h1, h2, fun hne => ?_⟩
  obtain ⟨b, off, rfl, hS, hcs⟩ := hc hne
  exact ⟨b, off, rfl, hS, fun i hi => ⟨hk _ _ _ hS (hcs i hi).1, hk _ _ _ hS (hcs i hi).2⟩⟩

/-- The callbacks that are done. -/
def dones (over : Int) : List (Int × Int) → List (Int × Int)
  | [] => []
  | c :: l => if c.1 ≤ over then c :: dones over l else []
theorem dones_len (over : Int) : ∀ l, (dones over l).length ≤ l.length
  | [] => Nat.le_refl _
  | c :: l => by
    have := dones_len over l
    unfold dones
    split <;> simp <;> omega
theorem dones_step (over : Int) (l : List (Int × Int)) (i : Nat) (h : i < l.length) : dones over (l.drop i) = if l[i].1 ≤ over then l[i] :: dones over (l.drop (i + 1)) else [] := by
  rw [List.drop_eq_getElem_cons h]
  rfl
def whats (l : List (Int × Int)) : List Int := l.map (·.2)
theorem whats_len (l : List (Int × Int)) : (whats l).length = l.length := List.length_map ..
/-- What has come is a beginning. -/
theorem dones_take {over : Int} {l : List (Int × Int)} {j : Nat} {pre : List Int} (h : whats (dones over l) = pre ++ whats (dones over (l.drop j))) : pre = whats ((dones over l).take pre.length) := by
  unfold whats at h ⊢
  rw [List.map_take, h, List.take_left]

theorem done_c (v : Value) (over : Int) (W : World) : Calls Tryz.prog 166 #[.agg #[v, .int .u64 over]] W fun e w' => e = .returned (.func (.func 171) #[] #[.pointer (some ⟨W.heap.size, 0, none⟩)]) ∧ w' = W.alloc (.cells #[v, .int .u64 over] 66) := by
  go_enter Tryz.func166, Tryz.ntmps166
  go_wp2
  go_ret
  exact ⟨rfl, rfl⟩

set_option maxHeartbeats 8000000 in
theorem done_stops (n : Nat) (hn : 1 ≤ n) (S : Nat → Prop) (lb : Nat) (p : Option Addr) (m c : Nat) (over : Int) (l : List (Int × Int)) (w : World) (hSl : ¬ S lb) (hm : m = l.length) (hmax : m ≤ 4611686018427387904)
    (hc : QBox w lb (.slice p m c) over) (hl : CbOut S w (.slice p m c) l) :
    SeqDeep Fence.wide n Tryz.prog 171 #[.pointer (some ⟨lb, 0, none⟩)] (fun x : Int => #[.int .u64 x]) (KeepsCells S)
      (fun xs => xs = whats (dones over l)) (fun xs => xs.length ≤ (dones over l).length ∧ xs = whats ((dones over l).take xs.length)) m w := fun lp J Jx W hW hJ hJx hY h0 => by
  refine callsIn_of_wp Tryz.func171 rfl trivial ?_ rfl
  simp only [Tryz.ntmps171, List.size_toArray, List.length_cons, List.length_nil, Nat.reduceAdd, Nat.reduceSub, Array.replicate_succ, Array.replicate_zero, List.push_toArray, List.append_toArray, List.nil_append, List.cons_append]
  have hcW := (hc.below hW).cells
  have hcW1 := hcW.1
  have hcW2 := hcW.2
  have HLW := Lib.hid (hl.below hW)
  have HSL := Lib.hid hSl
  have HM := Lib.hid hm
  have HJ := Lib.hid (And.intro hJ hJx)
  clear hc hl hSl hJ hJx hcW hm
  gi_wp2
  gi_loopw [8] (fun iv wr => ∃ (j : Nat) (pre : List Int), j ≤ m ∧ iv = .int .i64 (j : Int) ∧ (wr.cell? ⟨lb, 0, none⟩ = some (.slice p m c) ∧ wr.cell? ⟨lb, 1, none⟩ = some (.int .u64 over) ∧ Hid (CbOut S wr (.slice p m c) l ∧ W.heap.size ≤ wr.heap.size)) ∧ Hid (J pre wr) ∧ Hid (whats (dones over l) = pre ++ whats (dones over (l.drop j)))) (fun iv _ => m - (intOf iv).toNat)
  case atStart => exact ⟨0, [], Nat.zero_le _, rfl, ⟨hcW1, hcW2, HLW.out, Nat.le_refl _⟩, h0, Lib.hid (by simp)⟩
  case round =>
    clear HLW hcW1 hcW2 h0
    obtain ⟨j, pre, hj, rfl, ⟨hc1, hc2, HL⟩, HJp, HE⟩ := hrel
    by_cases hjl : j < m
    · have hjl' : j < l.length := by have := HM.out; omega
      have hne : l ≠ [] := by intro e; rw [e] at hjl'; simp at hjl'
      obtain ⟨h1, hsz⟩ := HL.out
      obtain ⟨p', cap', e, -, -, hcc⟩ := id h1
      injection e with e1 e2 e3
      subst e1 e3
      obtain ⟨b, off, rfl, hSb, hcs⟩ := hcc hne
      obtain ⟨hx, hy⟩ := hcs j hjl'
      have hst := dones_step over l j hjl'
      obtain ⟨x, hxe⟩ : ∃ x, x = l[j].1 := ⟨_, rfl⟩
      obtain ⟨y, hye⟩ : ∃ y, y = l[j].2 := ⟨_, rfl⟩
      have hxy : l[j] = (x, y) := by rw [hxe, hye]
      rw [← hxe] at hx
      rw [← hye] at hy
      rw [hxy] at hst
      have HLN := Lib.hid (fun (wr' : World) (hk : KeepsCells S wr wr') (hz : wr.heap.size ≤ wr'.heap.size) => (show CbOut S wr' (.slice (some ⟨b, off, none⟩) m c) l ∧ W.heap.size ≤ wr'.heap.size from ⟨h1.cells hk, Nat.le_trans hsz hz⟩))
      have HST := Lib.hid hst
      have hb1 := World.block_lt_of_cell? wr _ hx
      have hbl := World.block_lt_of_cell? wr _ hc1
      have hj0 : (0 : Int) ≤ (j : Int) := by omega
      have hjl2 : (j : Int) < (m : Int) := by omega
      clear hcs hcc hne hxe hye hxy hst h1 hsz e2 hjl'
      by_cases hgt : over < x
      · have HF := Lib.hid (show ∃ xs, xs = whats (dones over l) ∧ J xs (wr.alloc (.cells #[.int .u64 x, .int .u64 y] 68)) from ⟨pre, by rw [HE.out, HST.out, if_neg (by simp only; omega)]; simp [whats], HJ.out.1.alloc _ HJp.out⟩)
        clear HE HJp HST hY
        gi_wp2
        refine ⟨fun f h => (by cases h), ?_⟩
        gi_wp2
        refine bodyPost_ret (results_none rfl _ _ _) rfl ?_
        exact ⟨⟨_, rfl⟩, .inl HF.out⟩
      · have hle : x ≤ over := by omega
        have hE2 : whats (dones over l) = (pre ++ [y]) ++ whats (dones over (l.drop (j + 1))) := by rw [HE.out, HST.out, if_pos (by simp only; omega)]; simp [whats]
        have HE2 := Lib.hid hE2
        have hlen : (pre ++ [y]).length ≤ (dones over l).length := by
          have := congrArg List.length hE2
          rw [whats_len, List.length_append] at this
          omega
        have hlp : pre.length < m := by
          have h3 := dones_len over l
          have := HM.out
          rw [List.length_append, List.length_singleton] at hlen
          omega
        have hsp : (pre ++ [y]).length ≤ (dones over l).length ∧ pre ++ [y] = whats ((dones over l).take (pre ++ [y]).length) := ⟨hlen, dones_take hE2⟩
        obtain ⟨w1, hw1⟩ : ∃ X : World, X = wr.alloc (.cells #[.int .u64 x, .int .u64 y] 68) := ⟨_, rfl⟩
        have hb1' : Below wr.heap.size wr w1 := by rw [hw1]; exact below1 _ _
        have hJ1 := HJ.out.1.alloc (.cells #[.int .u64 x, .int .u64 y] 68) HJp.out
        rw [← hw1] at hJ1
        have hk1 : KeepsCells S wr w1 := fun b o v _ h => below_cell hb1' h
        have hcc1 := below_cell hb1' hc1
        have hcc2 := below_cell hb1' hc2
        have HZ1 := Lib.hid (show wr.heap.size ≤ w1.heap.size ∧ W.heap.size ≤ wr.heap.size from ⟨hb1'.size, HL.out.2⟩)
        have HK1 := Lib.hid hk1
        have HSP := Lib.hid hsp
        obtain ⟨fn, tmps, assign, body, hy2, hR⟩ := hY pre y w1 hJ1 hlp hsp
        rw [hw1] at hy2 hR
        clear HE HJp HST hY hb1' hJ1 hk1 hE2 hlen hlp hsp hgt
        rw [hw1] at HK1 HZ1 hcc1 hcc2
        clear hw1
        gi_wp2
        refine hR.mono ?_
        rintro e W3 (⟨rfl, hJ3, hk3, hf3⟩ | ⟨rfl, hJx3, -⟩)
        · have hc31 := hk3 _ _ _ HSL.out hcc1
          have hc32 := hk3 _ _ _ HSL.out hcc2
          have HL3 := Lib.hid (HLN.out W3 (HK1.out.trans hk3) (Nat.le_trans HZ1.out.1 hf3.size))
          have HJ3 := Lib.hid hJ3
          clear hJ3 hk3 hf3 hR
          gi_wp2
          go_roundw
          case rel => exact ⟨j + 1, _, by omega, rfl, ⟨hc31, hc32, HL3⟩, HJ3, HE2⟩
          case measure => first | omega | (simp [intOf]; omega)
        · have HJX := Lib.hid (show ∃ pre', (pre'.length ≤ (dones over l).length ∧ pre' = whats ((dones over l).take pre'.length)) ∧ Jx pre' W3 from ⟨_, HSP.out, hJx3⟩)
          clear hJx3 hR
          gi_wp2
          refine bodyPost_ret (results_none rfl _ _ _) rfl ?_
          exact ⟨⟨_, rfl⟩, .inr HJX.out⟩
    · obtain rfl : j = m := by omega
      have HF := Lib.hid (show ∃ xs, xs = whats (dones over l) ∧ J xs wr from ⟨pre, by rw [HE.out, HM.out, List.drop_length]; simp [whats, dones], HJp.out⟩)
      clear HE HJp hjl hj
      gi_wp2
      go_end0
      exact ⟨⟨_, rfl⟩, .inl HF.out⟩

end Go.Proofs.YtdllhiihmpinoaaGreat.U
