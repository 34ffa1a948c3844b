/-
  begin, of package spin: a memory of the play's own, and where all are in a row of its own.
  Conditions: the memory may be.
-/
import Derived.Test.YtcledklajcdfiaaQTurn
import Derived.Test.YtcledklajcdfiaaMRun
import Derived.Laws.CopyRow
import Derived.Laws.CopyOwn
namespace Go.Proofs.Ytcledklajcdfiaa
open Go.RowKit Go.Shelf
attribute [local go_sem] Oper.semAt_some

/-- A slice that reads as these. -/
def SpinsAt (w : World) (v : Value) (ss : List SpM) : Prop := ∃ q cap, v = .slice q ss.length cap ∧ (ss ≠ [] → ∃ b off, q = some ⟨b, off, none⟩ ∧ ∀ j u, (flatS ss)[j]? = some u → w.cell? ⟨b, off + j, none⟩ = some u)
theorem SpinsAt.below {w w' : World} {v : Value} {ss : List SpM} (h : SpinsAt w v ss) (hb : Below w.heap.size w w') : SpinsAt w' v ss := by
  obtain ⟨q, cap, rfl, hc⟩ := h
  refine ⟨q, cap, rfl, fun hne => ?_⟩
  obtain ⟨b, off, rfl, hcs⟩ := hc hne
  exact ⟨b, off, rfl, fun j u hj => (hb.cell (World.block_lt_of_cell? w _ (hcs j u hj))).trans (hcs j u hj)⟩

theorem run_copy_rows {P : Program} (w : World) (dT sT ty elem : TypeId) (g dCap sCap n k : Nat) (sp : Option Addr) (cur : Array Value) (t : TypeId) (cs : List Value)
    (hu : P.underlying dT = some (.slice elem)) (hs : (P.info? elem).map (·.size) = some k) (hg : w.heap[g]? = some (.cells cur t (0, 0))) (hn : cs.length = n * k) (hcur : cur.size = n * k)
    (hsrc : 0 < n → ∃ a, sp = some a ∧ ∀ j v, cs[j]? = some v → w.cell? (a.add j) = some v) (h1 : ∀ v ∈ cs, v.oneCell' = true) :
    (Builtin.copy_ #[dT, sT] ty #[.slice (some ⟨g, 0, none⟩) n dCap, .slice sp n sCap]).run P w = .ok (goInt n) (w.setRow g cs.toArray) := by
  cases hq : P.info? elem with
  | none => simp [hq] at hs
  | some i =>
    have hi : i.size = k := by simpa [hq] using hs
    by_cases h0 : n = 0
    · subst h0
      have hc0 : cs = [] := List.eq_nil_of_length_eq_zero (by omega)
      have hcu : cur = #[] := Array.eq_empty_of_size_eq_zero (by omega)
      subst hc0 hcu
      have hl : ∀ (x : Addr), (loadCells x 0).run P w = .ok #[] w := fun x => by simpa using run_loadCells_list (P := P) w x [] (by simp)
      have hset : w.setRow g #[] = w := setRow_self w g #[] t (0, 0) hg
      cases sp <;> simp [Builtin.copy_, run_underlying hu, Builtin.lenOf, Builtin.firstCells, sizeOf, typeInfo, hq, storeCells, hl, hset]
    · obtain ⟨a, rfl, hsr⟩ := hsrc (by omega)
      have hl := run_loadCells_list (P := P) w a cs hsr
      have hst := run_storeCells_at P g 0 t cs 0 cur w hg (by omega) h1
      have hd : cur.toList.drop (n * k) = [] := List.drop_eq_nil_of_le (by simp; omega)
      simp [hn, hd] at hst
      rw [hn] at hl
      simp [Builtin.copy_, run_underlying hu, Builtin.lenOf, Builtin.firstCells, sizeOf, typeInfo, hq, hi, hl, hst]
theorem wpList_copy_rows {P : Program} {w : World} {ops : Array Oper} {rest : List Oper} {o : Oper} {a : Act} {Q : Exit → Act → World → Prop} (hgd : o.guard = none) (d s : Operand) (dT sT : TypeId)
    (ho : o.op = .call { callee := .builtin .copy, args := #[d, s], argTypes := #[dT, sT] }) (elem : TypeId) (hu : P.underlying dT = some (.slice elem)) (k : Nat) (hsz : (P.info? elem).map (·.size) = some k)
    (n dCap sCap g : Nat) (sp : Option Addr) (hd : a.eval d = .slice (some ⟨g, 0, none⟩) n dCap) (hs : a.eval s = .slice sp n sCap) (cur : Array Value) (t : TypeId) (hg : w.heap[g]? = some (.cells cur t (0, 0))) (cs : List Value) (hn : cs.length = n * k) (hcur : cur.size = n * k)
    (hsrc : 0 < n → ∃ a, sp = some a ∧ ∀ j v, cs[j]? = some v → w.cell? (a.add j) = some v) (h1 : ∀ v ∈ cs, v.oneCell' = true)
    (h : wpList P ops Q rest (a.put o.dst (goInt n)) (w.setRow g cs.toArray)) : wpList P ops Q (o :: rest) a w := by
  refine wpList_plain hgd fun K hK => ?_
  have hrun := run_copy_rows (P := P) w dT sT o.type elem g dCap sCap n k sp cur t cs hu hsz hg hn hcur hsrc h1
  unfold Oper.wp
  simp [execOp, ho, resolve, invoke, builtin, hd, hs, hrun, Result.andThen]
  exact hK _ _ h
theorem setRow_alloc (w : World) (cur cs : Array Value) (T : TypeId) (fr : Nat × Nat) : (w.alloc (.cells cur T fr)).setRow w.heap.size cs = w.alloc (.cells cs T fr) := by
  unfold World.setRow World.alloc
  congr 1
  apply Array.ext
  · simp
  · intro i h1 h2
    simp only [Array.getElem_modify, Array.getElem_push]
    by_cases hi : i < w.heap.size
    · have : w.heap.size ≠ i := by omega
      simp [hi, this]
    · have : w.heap.size = i := by simp at h2; omega
      simp [this]

theorem run_nil (v : Value) (ws : List Int) (ls : List Bool) (f : Bool) (W : World) (hv : MemAt W v ws ls f) (hr : rightB ws ls = true) :
    Calls Try.prog 38 #[v, .slice none 0 0] W fun e w' => (∃ gw cw gl cl vg, e = .returned (.tuple #[.agg #[.slice (some ⟨gw, 0, none⟩) ws.length cw, .slice (some ⟨gl, 0, none⟩) ls.length cl, .bool f], vg, .int .i64 0]) ∧
      w'.ownsRow W.heap.size 22 1 (.slice (some ⟨gw, 0, none⟩) ws.length cw) ws.length (ws.map (Value.int .u64)) ∧ w'.ownsRow W.heap.size 4 1 (.slice (some ⟨gl, 0, none⟩) ls.length cl) ls.length (ls.map Value.bool)) ∧ Below W.heap.size W w' :=
  (run_yes v (.slice none 0 0) ws ls f [] W hv hr ⟨none, 0, rfl, fun h => absurd rfl h⟩ (Nat.zero_le _) rfl).mono fun e w' h => by
    obtain ⟨⟨gw, cw, gl, cl, vg, he, h1, h2, _⟩, hb⟩ := h
    exact ⟨⟨gw, cw, gl, cl, vg, he, h1, h2⟩, hb⟩

theorem spin_info : (Try.prog.info? 24).map (fun i => (i.zero, i.size, i.bytes)) = some (some (.agg #[.int .i64 0, .int .i64 0, .int .u64 0]), 3, 24) := by kernel_rfl

set_option maxRecDepth 100000 in
set_option maxHeartbeats 8000000 in
theorem qbegin (v v1 : Value) (ws : List Int) (ls : List Bool) (f : Bool) (ss : List SpM) (W : World) (hv : MemAt W v ws ls f) (hr : rightB ws ls = true) (hS : SpinsAt W v1 ss) (hmax : ss.length ≤ 1099511627776) :
    Calls Try.prog 39 #[v, v1] W fun e w' => ((∀ s ∈ ss, rightS s = true) ∧ (∃ r g, e = .returned (.tuple #[.pointer (some ⟨r, 0, none⟩), .int .i64 0]) ∧ PlayAt w' W.heap.size r g ls ⟨ws, f, ss⟩ ss.length) ∨ (∃ s ∈ ss, rightS s = false) ∧ e = .returned (.tuple #[.pointer none, .int .i64 150])) ∧ Below W.heap.size W w' := by
  have hl1 : 1 ≤ ws.length := (rightB_iff.1 hr).1
  have hl2 : ls.length = ws.length := (rightB_iff.1 hr).2.2.1
  have hm := hv
  have hs := hS
  obtain ⟨vw, vl, rfl, ⟨pw, cw, rfl, hcw⟩, pl, cl, rfl, hcl⟩ := hv
  obtain ⟨q, cap, rfl, hc⟩ := hS
  have HRUN := Lib.hid (fun (Z : World) (hb : Below W.heap.size W Z) => (run_nil _ ws ls f Z (hm.below hb) hr).mono fun e w' h => by
    obtain ⟨⟨gw, cw, gl, cl, vg, he, h1, h2⟩, h3⟩ := h
    exact (⟨gw, cw, gl, cl, vg, he, h1.mono hb.size, h2.mono hb.size, (h1.lt gw rfl).1, (h2.lt gl rfl).1, h3⟩ : ∃ gw cw gl cl vg, e = .returned (.tuple #[.agg #[.slice (some ⟨gw, 0, none⟩) ws.length cw, .slice (some ⟨gl, 0, none⟩) ls.length cl, .bool f], vg, .int .i64 0]) ∧
      w'.ownsRow W.heap.size 22 1 (.slice (some ⟨gw, 0, none⟩) ws.length cw) ws.length (ws.map (Value.int .u64)) ∧ w'.ownsRow W.heap.size 4 1 (.slice (some ⟨gl, 0, none⟩) ls.length cl) ls.length (ls.map Value.bool) ∧ Z.heap.size ≤ gw ∧ Z.heap.size ≤ gl ∧ Below Z.heap.size Z w'))
  have HS := Lib.hid hs
  have HC := Lib.hid hc
  have HL := Lib.hid (And.intro hl1 hl2)
  clear hm hs hcw hcl hc hr hl1 hl2
  obtain ⟨z, hz⟩ : ∃ z, z = W.heap.size := ⟨_, rfl⟩
  obtain ⟨n, hn⟩ : ∃ n, n = ss.length := ⟨_, rfl⟩
  have HN := Lib.hid hn
  rw [← hn] at hmax
  rw [← hn]
  clear hn
  have HZ0 := Lib.hid (MBox.new W (.slice pw ws.length cw) (.slice pl ls.length cl) f)
  go_enter Try.func39, Try.ntmps39
  go_wp2_with fail
  refine (HRUN.out _ (below1 _ _)).mono ?_
  rintro e w1 ⟨gw, cw2, gl, cl2, vg, rfl, how, hol, hgw, hgl, hb1⟩
  rw [← hz]
  have HZ1 := Lib.hid (HZ0.out.below hb1)
  rw [← hz] at HZ1
  obtain ⟨⟨hd0, hd1, hd2⟩, he0, he1, he2⟩ := mbox_cells HZ1.out
  have HB1 := Lib.hid (below_then (below1 W _) (below1 W _).size hb1)
  have hzw : z < w1.heap.size := HZ1.out.lt
  have HOW := Lib.hid how
  have HOL := Lib.hid hol
  have HG := Lib.hid (show z < gw ∧ z < gl by rw [World.size_alloc] at hgw hgl; omega)
  have HZW := Lib.hid hz
  clear how hol hgw hgl hb1 HRUN HZ0 hz
  go_upto_region 4 with (fail)
  obtain ⟨w2, hw2⟩ : ∃ w2 : World, w2 = ((w1.setCell ⟨z, 0, none⟩ (.slice (some ⟨gw, 0, none⟩) ws.length cw2)).setCell ⟨z, 1, none⟩ (.slice (some ⟨gl, 0, none⟩) ls.length cl2)).setCell ⟨z, 2, none⟩ (.bool f) := ⟨_, rfl⟩
  rw [← hw2]
  have hkz : Keeps (· = z) w1 w2 := by
    rw [hw2]
    exact ((Keeps.setCell w1 (S := (· = z)) (p := ⟨z, 0, none⟩) rfl _).trans (Keeps.setCell _ (S := (· = z)) (p := ⟨z, 1, none⟩) rfl _)).trans (Keeps.setCell _ (S := (· = z)) (p := ⟨z, 2, none⟩) rfl _)
  have HZ2 := Lib.hid (show MBox w2 z (.slice (some ⟨gw, 0, none⟩) ws.length cw2) (.slice (some ⟨gl, 0, none⟩) ls.length cl2) f by rw [hw2]; exact HZ1.out.set _ _ _)
  have HOW2 := Lib.hid (hkz.row HOW.out (by intro g hg; have := HG.out; simp [Value.ownBlock] at hg; omega))
  have HOL2 := Lib.hid (hkz.row HOL.out (by intro g hg; have := HG.out; simp [Value.ownBlock] at hg; omega))
  have HB2 := Lib.hid (HB1.out.trans (hkz.below HB1.out.size (fun q hq => by rw [hq]; exact Nat.le_of_eq HZW.out.symm)))
  clear hw2 hkz HZ1 HOW HOL HB1 hd0 hd1 hd2 he0 he1 he2 hzw
  go_wp2
  go_loopw [23] (fun iv wr => ∃ i : Nat, i ≤ n ∧ iv = .int .i64 i ∧ Hid (∀ s ∈ ss.take i, rightS s = true) ∧ Hid (Below w2.heap.size w2 wr)) (fun iv _ => n - (intOf iv).toNat)
  case atStart => exact ⟨0, Nat.zero_le _, rfl, Lib.hid (fun s h => by simp at h), Lib.hid (Below.refl _ _)⟩
  case round =>
    obtain ⟨i, hi, rfl, HA, HBR⟩ := hrel
    by_cases hlt : i < n
    · have hil : i < ss.length := by have := HN.out; omega
      obtain ⟨b, off, rfl, hcs⟩ := HC.out (by intro e; rw [e] at hil; cases hil)
      obtain ⟨f0, f1, f2⟩ := flatS_get ss i hil
      have hbW := below_then HB2.out HB2.out.size HBR.out
      have g0 : wr.cell? ⟨b, off + i * 3, none⟩ = _ := (hbW.cell (World.block_lt_of_cell? W _ (hcs _ _ f0))).trans (hcs _ _ f0)
      have g1 : wr.cell? ⟨b, off + i * 3 + 1, none⟩ = _ := (hbW.cell (World.block_lt_of_cell? W _ (hcs _ _ f1))).trans (hcs _ _ f1)
      have g2 : wr.cell? ⟨b, off + i * 3 + 2, none⟩ = _ := (hbW.cell (World.block_lt_of_cell? W _ (hcs _ _ f2))).trans (hcs _ _ f2)
      have hst : ∀ s ∈ ss.take i, rightS s = true := HA.out
      obtain ⟨s, hs⟩ : ∃ s, s = ss[i] := ⟨_, rfl⟩
      rw [← hs] at g0 g1 g2
      have HMEM := Lib.hid (show s ∈ ss by rw [hs]; exact List.getElem_mem hil)
      have HNXT := Lib.hid (show rightS s = true → ∀ t ∈ ss.take (i + 1), rightS t = true from fun h t ht => by
        rw [List.take_succ_eq_append_getElem hil] at ht
        rcases List.mem_append.1 ht with h1 | h1
        · exact hst t h1
        · rw [List.mem_singleton.1 h1, ← hs]; exact h)
      obtain ⟨sa, sp, st⟩ := s
      simp only at g0 g1 g2
      clear hcs f0 f1 f2 hbW hst hs HA
      rcases Bool.eq_false_or_eq_true (rightS ⟨sa, sp, st⟩) with hrs | hrs
      · have HCK := Lib.hid (fun Z => qcheck_yes ⟨sa, sp, st⟩ hrs Z)
        simp only [spV] at HCK
        have HN2 := Lib.hid (HNXT.out hrs)
        clear hrs
        go_wp2_with fail
        refine (HCK.out _).mono ?_
        rintro e w3 ⟨rfl, hb3⟩
        have HBR3 := Lib.hid (below_then (HBR.out.alloc HBR.out.size (.cells #[.int .i64 sa, .int .i64 sp, .int .u64 st] 24)) (by have := HBR.out.size; simp; omega) hb3)
        clear hb3 g0 g1 g2
        go_wp2
        go_roundw
        case rel => exact ⟨i + 1, by omega, by go_num, HN2, HBR3⟩
        case measure => simp [intOf]; omega
      · have HCK := Lib.hid (fun Z => qcheck_no ⟨sa, sp, st⟩ hrs Z)
        simp only [spV] at HCK
        have HRS := Lib.hid hrs
        clear hrs
        go_wp2_with fail
        refine (HCK.out _).mono ?_
        rintro e w3 ⟨rfl, hb3⟩
        have HBR3 := Lib.hid (below_then (HBR.out.alloc HBR.out.size (.cells #[.int .i64 sa, .int .i64 sp, .int .u64 st] 24)) (by have := HBR.out.size; simp; omega) hb3)
        clear hb3 g0 g1 g2
        go_wp2
        refine bodyPost_ret (v := .tuple #[.pointer none, .int .i64 150]) (by simp [results, Try.results39, go_sem]) rfl ?_
        exact ⟨.inr ⟨⟨_, HMEM.out, HRS.out⟩, rfl⟩, below_then HB2.out HB2.out.size HBR3.out⟩
    · obtain rfl : i = n := by omega
      have HALL := Lib.hid (show ∀ s ∈ ss, rightS s = true by
        have := HA.out
        rwa [List.take_of_length_le (by have := HN.out; omega)] at this)
      have HZR := Lib.hid (HZ2.out.below HBR.out)
      obtain ⟨⟨hd0, hd1, hd2⟩, _⟩ := mbox_cells HZR.out
      have HBW := Lib.hid (below_then HB2.out HB2.out.size HBR.out)
      obtain ⟨i0, hi0, hy0, hy1, hy2⟩ := info_parts spin_info
      obtain ⟨cur, hcur⟩ : ∃ c : Array Value, c = madeCells (Value.agg #[.int .i64 0, .int .i64 0, .int .u64 0]).cells (i * 3) := ⟨_, rfl⟩
      have hmk : ∀ w, (Instr.makeSlice 57 (.int .i64 (i : Int)) (.int .i64 (i : Int))).run Try.prog w = .ok (.slice (some ⟨w.heap.size, 0, none⟩) i i) (w.alloc (.cells cur 24)) := fun w => by
        have := run_make (P := Try.prog) w 57 24 i0 (.agg #[.int .i64 0, .int .i64 0, .int .u64 0]) Try.underlying57 hi0 hy0 .i64 .i64 (i : Int) (i : Int) (by omega) (Int.le_refl _) (by rw [hy2]; omega) (by omega)
        rw [this, hcur, hy1]; rfl
      have HCUR := Lib.hid (show cur.size = i * 3 by rw [hcur, size_madeCells])
      clear hcur hi0 hy0 hy1 hy2
      have HSRC := Lib.hid (show 0 < i → ∃ a, q = some a ∧ ∀ j v, (flatS ss)[j]? = some v → (wr.alloc (.cells cur 24)).cell? (a.add j) = some v from fun h0 => by
        obtain ⟨b, off, rfl, hcs⟩ := HC.out (by intro e; have h1 := HN.out; rw [e] at h1; simp at h1; omega)
        refine ⟨_, rfl, fun j v hj => ?_⟩
        have hadd : (⟨b, off, none⟩ : Addr).add j = ⟨b, off + j, none⟩ := by unfold Addr.add; split <;> simp_all
        rw [hadd]
        have h1 := hcs j v hj
        have hbA := below_then HBW.out HBW.out.size (below1 wr (.cells cur 24))
        exact (hbA.cell (World.block_lt_of_cell? W _ h1)).trans h1)
      have HLN := Lib.hid (show (flatS ss).length = i * 3 by rw [flatS_length, HN.out])
      obtain ⟨w5, hw5⟩ : ∃ w5 : World, w5 = wr.alloc (.cells (flatS ss).toArray 24) := ⟨_, rfl⟩
      have HW5 : Hid (wr.alloc (.cells (flatS ss).toArray 24) = w5) := Lib.hid hw5.symm
      clear hw5 hd0 hd1 hd2
      have hz5 := HZR.out.below (show Below wr.heap.size wr w5 by rw [← HW5.out]; exact below1 wr _)
      obtain ⟨⟨hd0, hd1, hd2⟩, _⟩ := mbox_cells hz5
      have HFB := Lib.hid (show Below W.heap.size W (w5.alloc (.cells #[.slice (some ⟨gw, 0, none⟩) ws.length cw2, .slice (some ⟨gl, 0, none⟩) ls.length cl2, .bool f, .slice (some ⟨wr.heap.size, 0, none⟩) i i] 90)) from by
        rw [← HW5.out]
        exact below_then HBW.out HBW.out.size (below2 wr _ _))
      have HFIN := Lib.hid (show PlayAt (w5.alloc (.cells #[.slice (some ⟨gw, 0, none⟩) ws.length cw2, .slice (some ⟨gl, 0, none⟩) ls.length cl2, .bool f, .slice (some ⟨wr.heap.size, 0, none⟩) i i] 90)) W.heap.size w5.heap.size wr.heap.size ls ⟨ws, f, ss⟩ i from by
        have hb := below_then HBR.out HBR.out.size (below2 wr (.cells (flatS ss).toArray 24) (.cells #[.slice (some ⟨gw, 0, none⟩) ws.length cw2, .slice (some ⟨gl, 0, none⟩) ls.length cl2, .bool f, .slice (some ⟨wr.heap.size, 0, none⟩) i i] 90))
        rw [HW5.out] at hb
        have h5 : (wr.alloc (.cells (flatS ss).toArray 24)).ownsRow W.heap.size 24 3 (.slice (some ⟨wr.heap.size, 0, none⟩) i i) i (flatS ss) := by
          have := World.ownsRow_lit (base := W.heap.size) (e := 24) (size := 3) wr (flatS ss).toArray i HBW.out.size (by unfold maxLen; omega) (by have := HLN.out; simp; omega)
          simpa using this
        rw [HW5.out] at h5
        exact ⟨_, _, World.alloc_heap_new w5 _, (Keeps.of_below (S := fun _ => False) hb).row HOW2.out (fun _ _ h => h), (Keeps.of_below (S := fun _ => False) hb).row HOL2.out (fun _ _ h => h), h5.alloc _, HN.out.symm, by rw [← HW5.out, World.size_alloc]; have := HBW.out.size; omega⟩)
      clear hz5
      go_wp2_with (with_reducible refine wpList_copy_rows (o := ⟨some 38, _, _, _, _, _⟩) rfl (.tmp 36) (.tmp 37) 57 57 rfl 24 Try.underlying57 3 (by kernel_rfl) i i cap wr.heap.size q rfl rfl cur 24 (World.alloc_heap_new wr _) (flatS ss) HLN.out HCUR.out HSRC.out (flatS_one ss) ?_; rw [setRow_alloc]; rw [HW5.out])
      refine bodyPost_ret (v := .tuple #[.pointer (some ⟨w5.heap.size, 0, none⟩), .int .i64 0]) (by simp [results, Try.results39, go_sem]) rfl ?_
      exact ⟨.inl ⟨HALL.out, w5.heap.size, wr.heap.size, rfl, HFIN.out⟩, HFB.out⟩

end Go.Proofs.Ytcledklajcdfiaa
