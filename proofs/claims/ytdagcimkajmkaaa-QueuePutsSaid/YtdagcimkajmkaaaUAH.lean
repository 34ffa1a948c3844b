/-
  QueuePuts, called with any queue, row of words, and two words: it returns true, and changes none of its arguments.
  Conditions: none.
-/
import Derived.Test.YtdagcimkajmkaaaUA4
import Derived.Deep.DeepCutAuto
import Derived.Test.YtdagcimkajmkaaaUA1
/-
  QueuePuts, called with any queue, row of words, and two numbers: it answers true.
  Conditions: the ranges of Go's types.
-/
namespace Go.Proofs.Ytdagcimkajmkaaa
set_option maxRecDepth 100000
open Go.RowKit Go.Shelf
attribute [local go_sem] Oper.semAt_some

def OvB (W : World) (z : Nat) (a b : Int) : Prop := W.heap[z]? = some (.cells #[.int .u64 a, .int .u64 b] 27 (0, 0))
theorem OvB.cells {W : World} {z : Nat} {a b : Int} (h : OvB W z a b) : W.cell? ⟨z, 0, none⟩ = some (.int .u64 a) ∧ W.cell? ⟨z, 1, none⟩ = some (.int .u64 b) := by
  have h' : W.heap[z]? = _ := h
  simp [World.cell?, h']
theorem OvB.lt {W : World} {z : Nat} {a b : Int} (h : OvB W z a b) : z < W.heap.size := (Array.getElem?_eq_some_iff.1 h).1
theorem OvB.below {W W' : World} {z : Nat} {a b : Int} (h : OvB W z a b) (hb : Below W.heap.size W W') : OvB W' z a b := (hb.block z h.lt).trans h
theorem OvB.keeps {S : Nat → Prop} {W W' : World} {z : Nat} {a b : Int} (h : OvB W z a b) (hk : Keeps S W W') (hz : ¬ S z) : OvB W' z a b := (hk.block z h.lt hz).trans h

theorem run_ix0 (a b : Int) (w : World) : (Instr.index 27 (.agg #[.int .u64 a, .int .u64 b]) (.int .i64 0)).run Try.prog w = .ok (.int .u64 a) w := by kernel_rfl
theorem run_ix1 (a b : Int) (w : World) : (Instr.index 27 (.agg #[.int .u64 a, .int .u64 b]) (.int .i64 1)).run Try.prog w = .ok (.int .u64 b) w := by kernel_rfl

set_option maxHeartbeats 32000000 in
theorem queuePuts_c (v : Value) (over : Int) (l : List (Int × Int)) (vw : Value) (ws : List Int) (a b : Int) (W : World) (hv : CbOut NoS W v l) (hz : NilZ v) (ho : 0 ≤ over) (hg : ∀ c ∈ l, 0 ≤ c.1) (hw : NumsAt W .u64 vw ws) (hwl : ws.length ≤ 9223372036854775807) (hwr : ∀ w ∈ ws, 0 ≤ w ∧ w < 18446744073709551616) :
    Calls Try.prog 3 #[.agg #[v, .int .u64 over], vw, .agg #[.int .u64 a, .int .u64 b]] W fun e w' => e = .returned (.bool true) ∧ Below W.heap.size W w' := by
  obtain ⟨px, cx, rfl, -⟩ := id hv
  obtain ⟨pw, cw, rfl, -⟩ := id hw
  obtain ⟨nx, hnx⟩ : ∃ n, n = l.length := ⟨_, rfl⟩
  obtain ⟨m, hm⟩ : ∃ m, m = ws.length := ⟨_, rfl⟩
  rw [← hnx] at hv hz ⊢
  rw [← hm] at hw hwl ⊢
  have HL := Lib.hid (And.intro hv hz)
  have HG := Lib.hid hg
  have HWD := Lib.hid (show NumsAt W .u64 (.slice pw m cw) ws ∧ m = ws.length ∧ (∀ w ∈ ws, 0 ≤ w ∧ w < 18446744073709551616) from ⟨hw, hm, hwr⟩)
  obtain ⟨w0, hw0⟩ : ∃ X : World, X = (W.alloc (.cells #[.slice px nx cx, .int .u64 over] 25)).alloc (.cells #[.int .u64 a, .int .u64 b] 27) := ⟨_, rfl⟩
  have HF := Lib.hid (show QBox w0 W.heap.size (.slice px nx cx) over ∧ Below W.heap.size W w0 from ⟨by rw [hw0]; exact (QBox.new W _ _).below (below1 _ _), by rw [hw0]; exact below2 _ _ _⟩)
  have HOV0 := Lib.hid (show OvB w0 (W.heap.size + 1) a b by
    rw [hw0]
    have := World.alloc_heap_new (W.alloc (.cells #[.slice px nx cx, .int .u64 over] 25)) (.cells #[.int .u64 a, .int .u64 b] 27)
    rw [World.size_alloc] at this
    exact this)
  have HW0 := Lib.hid hw0
  clear hv hz hg hw hm hwr hw0 hnx
  go_enter Try.func3, Try.ntmps3
  go_wp2_with fail
  rw [← HW0.out]
  clear HW0
  (with_reducible refine (wakes_c w0).mono ?_)
  rintro e w1 ⟨rfl, hb1⟩
  have hx1 := HF.out.1.below hb1
  have hbw1 := below_then HF.out.2 HF.out.2.size hb1
  have HOW := Lib.hid (lown_c (.slice px nx cx) over l w1 ((HL.out.1.below hbw1)) HL.out.2)
  have HX1 := Lib.hid (And.intro hx1 hbw1)
  have HS1 := Lib.hid hb1
  obtain ⟨q0, q1⟩ := hx1.cells
  clear hx1 hbw1 hb1 HF
  go_wp2_with fail
  (with_reducible refine HOW.out.mono ?_)
  rintro e w2 ⟨⟨v2, rfl, o2⟩, hb2⟩
  obtain ⟨ls, hls⟩ : ∃ ls, ls = l.take 20 := ⟨_, rfl⟩
  rw [← hls] at o2
  obtain ⟨n, hn⟩ : ∃ n, n = ls.length := ⟨_, rfl⟩
  rw [← hn] at o2
  obtain ⟨p, c, rfl⟩ := owns_slice o2
  have hnz := nilZ_owns o2
  obtain ⟨z, hz⟩ : ∃ z, z = w2.heap.size := ⟨_, rfl⟩
  obtain ⟨w3, hw3⟩ : ∃ X : World, X = w2.alloc (.cells #[.slice p n c, .int .u64 over] 25) := ⟨_, rfl⟩
  have hb3 : Below w2.heap.size w2 w3 := by rw [hw3]; exact below1 _ _
  have hb13 := below_then hb2 hb2.size hb3
  obtain ⟨Z, hZ⟩ : ∃ Z, Z = z + 1 := ⟨_, rfl⟩
  have hrow : CbOut (fun k => Z ≤ k) w3 (.slice p n c) ls := ((cb_of_owns o2).apart (T := fun k => Z ≤ k) (fun k hk => .inr (by omega))).below hb3
  have HQ := Lib.hid (show QpI W (.slice px nx cx) over z Z p n c ls w3 from ⟨HX1.out.1.below hb13, by rw [hw3, hz]; exact QBox.new _ _ _, hrow, fun h => hnz _ _ _ rfl h, below_then HX1.out.2 HX1.out.2.size hb13, by rw [hw3, hZ, hz]; simp, by have := HX1.out.1.lt; have := hb2.size; omega, by omega, by have := HX1.out.1.lt; have := hb2.size; omega⟩)
  have HB13 := Lib.hid (below_then HS1.out HS1.out.size hb13)
  have HSZ := Lib.hid (show w0.heap.size ≤ z ∧ z < Z by have := HS1.out.size; have := hb2.size; omega)
  have HLS := Lib.hid (show ls = l.take 20 ∧ n = ls.length ∧ (∀ c ∈ ls, 0 ≤ c.1) ∧ n ≤ 20 from ⟨hls, hn, fun c hc => HG.out c (by rw [hls] at hc; exact List.mem_of_mem_take hc), by rw [hn, hls, List.length_take]; omega⟩)
  have HW3 := Lib.hid (And.intro hw3 hz)
  clear HS1 hls hn o2 hnz hz hw3 hb2 hb3 hb13 hZ hrow HX1 HOW q0 q1
  obtain ⟨q0, q1⟩ := HQ.out.q.cells
  have q0' := q0
  have q1' := q1
  rw [HW3.out.1, HW3.out.2] at q0 q1
  go_upto_region 4 with fail
  rw [← HW3.out.1, ← HW3.out.2]
  clear HW3 q0 q1
  go_wp2_with fail
  have hrc := right_c (.slice p n c) over ls w3 (HQ.out.row.sub (fun _ h => False.elim h)) ho HLS.out.2.2.1
  (with_reducible refine hrc.mono ?_)
  rintro e w4 ⟨rfl, hb4⟩
  obtain ⟨R, hR⟩ : ∃ R, R = mayB over ls := ⟨_, rfl⟩
  rw [← hR]
  have HR := Lib.hid hR
  have HQ4 := Lib.hid (HQ.out.below hb4)
  have HB14 := Lib.hid (below_then HB13.out HB13.out.size hb4)
  clear hb4 hR HQ HB13 q0' q1' hrc
  have HOV4 := Lib.hid (HOV0.out.below HB14.out)
  have HOZ := Lib.hid (show W.heap.size + 1 < Z from by have h1 := HOV0.out.lt; have := HSZ.out; omega)
  clear HOV0 HB14
  go_upto_block 0 with fail
  go_cut [30] (fun _ wc => Hid (QpI W (.slice px nx cx) over z Z p n c ls wc ∧ OvB wc (W.heap.size + 1) a b))
  case first => as_aux_lemma =>
    go_wp2
    go_loopw [30] (fun iv wr => ∃ i : Nat, i ≤ m ∧ iv = .int .i64 (i : Int) ∧ Hid (QpI W (.slice px nx cx) over z Z p n c ls wr ∧ OvB wr (W.heap.size + 1) a b)) (fun iv _ => m - (intOf iv).toNat)
    case atStart => exact ⟨0, Nat.zero_le _, rfl, HQ4.out, HOV4.out⟩
    case round =>
      clear HQ4 HOV4
      obtain ⟨i, hi, rfl, HX⟩ := hrel
      by_cases hlt : i < m
      · have him : i < ws.length := by have := HWD.out.2.1; omega
        have hwr := nums_below HWD.out.1 HX.out.1.b
        obtain ⟨pw', cw', e, hcw⟩ := hwr
        injection e with e1 e2 e3
        subst e1 e3
        obtain ⟨bw, ow, rfl, hcs⟩ := hcw (by rintro e; rw [e] at him; simp at him)
        have hx := hcs i him
        have hxr := HWD.out.2.2 ws[i] (List.getElem_mem _)
        obtain ⟨x, hxe⟩ : ∃ x, x = ws[i] := ⟨_, rfl⟩
        rw [← hxe] at hx hxr
        clear hcs hcw hxe e2
        by_cases h6 : i = 6
        · subst h6
          go_wp2
          go_meet
          exact HX
        · have h6' : ((i : Int) == 6) = false := by rw [beq_eq_false_iff_ne]; omega
          have h6n : ¬ (i : Int) = 6 := by omega
          obtain ⟨q0, q1⟩ := HX.out.1.q.cells
          have hpc := put_c (.slice p n c) over ls x (x % 4) wr (HX.out.1.row.sub (fun _ h => False.elim h)) ho
          go_wp2_with fail
          (with_reducible refine hpc.mono ?_)
          rintro e wa ⟨hq, hba⟩
          obtain ⟨E, hE⟩ : ∃ E, E = putE over ls (x % 4) := ⟨_, rfl⟩
          obtain ⟨O, hO⟩ : ∃ O, O = pO E over := ⟨_, rfl⟩
          obtain ⟨Lr, hLr⟩ : ∃ Lr, Lr = pL E (ls ++ [(over + x % 4, x)]) := ⟨_, rfl⟩
          have hq1 := putQ_any hq
          rw [← hE, ← hO, ← hLr] at hq1
          obtain ⟨pa, ca, rfl, oa⟩ := ansQ_row hq1
          obtain ⟨k, hk⟩ : ∃ k, k = Lr.length := ⟨_, rfl⟩
          rw [← hk] at oa ⊢
          obtain ⟨za, hza⟩ : ∃ z, z = wa.heap.size := ⟨_, rfl⟩
          obtain ⟨wb, hwb⟩ : ∃ X : World, X = (wa.alloc (.cells #[.slice pa k ca, .int .u64 O] 25)).alloc (.cells #[.slice none 0 0, .int .u64 0] 25) := ⟨_, rfl⟩
          have hbb : Below wa.heap.size wa wb := by rw [hwb]; exact below2 _ _ _
          have hbab := below_then hba hba.size hbb
          have HB := Lib.hid (show QpI W (.slice px nx cx) over z Z p n c ls wb ∧ OvB wb (W.heap.size + 1) a b ∧ QBox wb za (.slice pa k ca) O ∧ OutS Z za (.slice pa k ca) Lr wb ∧ QBox wb (za + 1) (.slice none 0 0) 0 ∧ Z ≤ za ∧ wb.heap.size = za + 2 from
            ⟨HX.out.1.below hbab, HX.out.2.below hbab, by rw [hwb, hza]; exact (QBox.new _ _ _).below (below1 _ _), (OutS.of (out_of_owns oa) HX.out.1.zs hza).below hbb, by
              rw [hwb, hza]
              have := QBox.new (wa.alloc (.cells #[.slice pa k ca, .int .u64 O] 25)) (.slice none 0 0) 0
              rwa [World.size_alloc] at this, by have := HX.out.1.zs; have := hba.size; omega, by rw [hwb, hza]; simp⟩)
          have HE := Lib.hid (And.intro hE (And.intro hO hLr))
          have HWB := Lib.hid (And.intro hwb hza)
          have HKL := Lib.hid hk
          clear hq hq1 oa hba hbb hbab hE hO hLr hwb hza hk hpc q0 q1
          go_upto_if 48 with fail
          rw [← HWB.out.1, ← HWB.out.2]
          clear HWB
          go_cut [15] (fun s15 wc => ∃ (pr : Option Addr) (nr cr : Nat), s15 = .int .i64 E ∧ Hid (QpI W (.slice px nx cx) over z Z p n c ls wc ∧ OvB wc (W.heap.size + 1) a b ∧ QBox wc za (.slice pa k ca) O ∧ OutS Z za (.slice pa k ca) Lr wc ∧ QBox wc (za + 1) (.slice pr nr cr) O ∧ CbOut NoS wc (.slice pr nr cr) Lr))
          case first =>
            cases R with
            | false =>
              have hE : E = 230 := by rw [HE.out.1]; unfold putE; rw [← HR.out]; rfl
              have hO : O = 0 := by rw [HE.out.2.1, hE]; rfl
              have hL : Lr = [] := by rw [HE.out.2.2, hE]; rfl
              have HZ := Lib.hid (show QBox wb (za + 1) (.slice none 0 0) O ∧ CbOut NoS wb (.slice none 0 0) Lr from ⟨by rw [hO]; exact HB.out.2.2.2.2.1, by rw [hL]; exact (outQ_none 0 wb).1.sub (fun _ h => False.elim h)⟩)
              clear hO hL
              go_wp2
              go_meet
              exact ⟨none, 0, 0, by rw [hE], HB.out.1, HB.out.2.1, HB.out.2.2.1, HB.out.2.2.2.1, HZ.out.1, HZ.out.2⟩
            | true =>
              have hm : mayB over ls = true := HR.out.symm
              have hrp := rput_c (.slice p n c) over ls x (x % 4) wb (HB.out.1.row.sub (fun _ h => False.elim h)) (fun p' n' c' e hp => by injection e with e1 _ e3; subst e1 e3; exact HB.out.1.nz hp) ho hm
              obtain ⟨q0, q1⟩ := HB.out.1.q.cells
              go_wp2_with fail
              (with_reducible refine hrp.mono ?_)
              rintro e wd ⟨hq, hbd⟩
              have hq1 := putQ_any hq
              rw [← HE.out.1, ← HE.out.2.1, ← HE.out.2.2] at hq1
              obtain ⟨pr, cr, rfl, orr⟩ := ansQ_row hq1
              have hz2 := HB.out.2.2.2.2.1.below hbd
              obtain ⟨r0, r1⟩ := hz2.cells
              have m0 := hz2.marks 0
              have m1 := hz2.marks 1
              obtain ⟨we, hwe⟩ : ∃ X : World, X = (wd.setCell ⟨za + 1, 0, none⟩ (.slice pr Lr.length cr)).setCell ⟨za + 1, 1, none⟩ (.int .u64 O) := ⟨_, rfl⟩
              have hke : Keeps (fun k => k = za + 1) wd we := by rw [hwe]; exact QBox.putK _ _ _ _
              have HEE := Lib.hid (show QpI W (.slice px nx cx) over z Z p n c ls we ∧ OvB we (W.heap.size + 1) a b ∧ QBox we za (.slice pa k ca) O ∧ OutS Z za (.slice pa k ca) Lr we ∧ QBox we (za + 1) (.slice pr Lr.length cr) O ∧ CbOut NoS we (.slice pr Lr.length cr) Lr from
                ⟨(HB.out.1.below hbd).keeps hke (fun k e => by have := HB.out.2.2.2.2.2.1; omega), (HB.out.2.1.below hbd).keeps hke (by have := HB.out.2.2.2.2.2.1; have := HOZ.out; omega), (HB.out.2.2.1.below hbd).keeps hke (by omega), (HB.out.2.2.2.1.below hbd).keeps hke (fun k' e => by omega), by rw [hwe]; exact hz2.put _ _, ((cb_of_owns (hke.row orr (fun g e => by have := (orr.lt g e).1; have := HB.out.2.2.2.2.2.2; omega)))).sub (fun _ h => False.elim h)⟩)
              have HWE := Lib.hid hwe
              clear hq hq1 orr hz2 hwe hke hbd hm hrp
              go_wp2
              go_meet
              rw [← HWE.out]
              exact ⟨_, _, _, rfl, HEE⟩
          case rest =>
            obtain ⟨pr, nr, cr, rfl, HC⟩ := hcut
            have hEE : (E != E) = false := by simp
            obtain ⟨q0, q1⟩ := HC.out.2.2.1.cells
            obtain ⟨r0, r1⟩ := HC.out.2.2.2.2.1.cells
            have hsc := rsame_c (.slice pa k ca) (.slice pr nr cr) O O Lr Lr wc (HC.out.2.2.2.1.1.sub (fun _ h => False.elim h)) HC.out.2.2.2.2.2
            rw [sameB_self] at hsc
            go_wp2_with fail
            (with_reducible refine hsc.mono ?_)
            rintro e wd ⟨rfl, hbd⟩
            have HD := Lib.hid (show QpI W (.slice px nx cx) over z Z p n c ls wd ∧ OvB wd (W.heap.size + 1) a b ∧ QBox wd za (.slice pa k ca) O ∧ OutS Z za (.slice pa k ca) Lr wd from ⟨HC.out.1.below hbd, HC.out.2.1.below hbd, HC.out.2.2.1.below hbd, HC.out.2.2.2.1.below hbd⟩)
            clear q0 q1 r0 r1 hsc hbd hEE HC HB HE
            obtain ⟨q0, q1⟩ := HD.out.2.2.1.cells
            go_wp2_with fail
            have hsp := spoil_c (.slice pa k ca) O Lr wd (HD.out.2.2.2.1.sub (fun _ h => False.elim h)) HD.out.2.2.2.2
            (with_reducible refine hsp.mono ?_)
            rintro e we ⟨rfl, hke⟩
            have HN := Lib.hid (show QpI W (.slice px nx cx) over z Z p n c ls we ∧ OvB we (W.heap.size + 1) a b from ⟨HD.out.1.keeps hke (rowBlk_out HD.out.2.2.2.out), HD.out.2.1.keeps hke (fun h => by have := rowBlk_out HD.out.2.2.2.out _ h; have := HOZ.out; omega)⟩)
            clear q0 q1 hsp hke HD
            go_wp2
            go_roundw
            case rel => exact ⟨i + 1, by omega, by go_num, HN⟩
            case measure => simp [intOf]; omega
      · go_wp2
        go_meet
        exact HX
  case rest =>
    have HY := hcut
    obtain ⟨v0, v1⟩ := HY.out.2.cells
    go_wp2
    clear v0 v1
    go_loopw [69] (fun iv wr => ∃ i : Nat, i ≤ 2 ∧ iv = .int .i64 (i : Int) ∧ Hid (QpI W (.slice px nx cx) over z Z p n c ls wr ∧ OvB wr (W.heap.size + 1) a b)) (fun iv _ => 2 - (intOf iv).toNat)
    case atStart => exact ⟨0, Nat.zero_le _, rfl, HY⟩
    case round =>
      clear HY hcut
      obtain ⟨i, hi, rfl, HX⟩ := hrel
      by_cases hlt : i < 2
      · obtain ⟨q0, q1⟩ := HX.out.1.q.cells
        rcases (show i = 0 ∨ i = 1 by omega) with rfl | rfl
        · have hix := run_ix0 a b
          go_upto_region 21 with fail
          clear hix
          have hpc := end_c (.slice p n c) over ls a wr (HX.out.1.row.sub (fun _ h => False.elim h)) ho
          go_wp2_with fail
          (with_reducible refine hpc.mono ?_)
          rintro e wa ⟨hq, hba⟩
          obtain ⟨E, hE⟩ : ∃ E, E = endE over ls a := ⟨_, rfl⟩
          obtain ⟨O, hO⟩ : ∃ O, O = pO E a := ⟨_, rfl⟩
          obtain ⟨Lr, hLr⟩ : ∃ Lr, Lr = pL E ls := ⟨_, rfl⟩
          have hq1 := endQ_any hq
          rw [← hE, ← hO, ← hLr] at hq1
          obtain ⟨pa, ca, rfl, oa⟩ := ansQ_row hq1
          obtain ⟨k, hk⟩ : ∃ k, k = Lr.length := ⟨_, rfl⟩
          rw [← hk] at oa ⊢
          obtain ⟨za, hza⟩ : ∃ z, z = wa.heap.size := ⟨_, rfl⟩
          obtain ⟨wb, hwb⟩ : ∃ X : World, X = (wa.alloc (.cells #[.slice pa k ca, .int .u64 O] 25)).alloc (.cells #[.slice none 0 0, .int .u64 0] 25) := ⟨_, rfl⟩
          have hbb : Below wa.heap.size wa wb := by rw [hwb]; exact below2 _ _ _
          have hbab := below_then hba hba.size hbb
          have HB := Lib.hid (show QpI W (.slice px nx cx) over z Z p n c ls wb ∧ OvB wb (W.heap.size + 1) a b ∧ QBox wb za (.slice pa k ca) O ∧ OutS Z za (.slice pa k ca) Lr wb ∧ QBox wb (za + 1) (.slice none 0 0) 0 ∧ Z ≤ za ∧ wb.heap.size = za + 2 from
            ⟨HX.out.1.below hbab, HX.out.2.below hbab, by rw [hwb, hza]; exact (QBox.new _ _ _).below (below1 _ _), (OutS.of (out_of_owns oa) HX.out.1.zs hza).below hbb, by
              rw [hwb, hza]
              have := QBox.new (wa.alloc (.cells #[.slice pa k ca, .int .u64 O] 25)) (.slice none 0 0) 0
              rwa [World.size_alloc] at this, by have := HX.out.1.zs; have := hba.size; omega, by rw [hwb, hza]; simp⟩)
          have HE := Lib.hid (And.intro hE (And.intro hO hLr))
          have HWB := Lib.hid (And.intro hwb hza)
          have HKL := Lib.hid hk
          clear hq hq1 oa hba hbb hbab hE hO hLr hwb hza hk hpc q0 q1
          go_upto_if 79 with fail
          rw [← HWB.out.1, ← HWB.out.2]
          clear HWB
          go_cut [21] (fun s21 wc => ∃ (pr : Option Addr) (nr cr : Nat), s21 = .int .i64 E ∧ Hid (QpI W (.slice px nx cx) over z Z p n c ls wc ∧ OvB wc (W.heap.size + 1) a b ∧ QBox wc za (.slice pa k ca) O ∧ OutS Z za (.slice pa k ca) Lr wc ∧ QBox wc (za + 1) (.slice pr nr cr) O ∧ CbOut NoS wc (.slice pr nr cr) Lr))
          case first =>
            cases R with
            | false =>
              have hE : E = 230 := by rw [HE.out.1]; unfold endE; rw [← HR.out]; rfl
              have hO : O = 0 := by rw [HE.out.2.1, hE]; rfl
              have hL : Lr = [] := by rw [HE.out.2.2, hE]; rfl
              have HZ := Lib.hid (show QBox wb (za + 1) (.slice none 0 0) O ∧ CbOut NoS wb (.slice none 0 0) Lr from ⟨by rw [hO]; exact HB.out.2.2.2.2.1, by rw [hL]; exact (outQ_none 0 wb).1.sub (fun _ h => False.elim h)⟩)
              clear hO hL
              go_wp2
              go_meet
              exact ⟨none, 0, 0, by rw [hE], HB.out.1, HB.out.2.1, HB.out.2.2.1, HB.out.2.2.2.1, HZ.out.1, HZ.out.2⟩
            | true =>
              have HE0 : Hid (E = if a < over ∨ 9223372036854775806 < a then 2 else 0) := Lib.hid (by rw [HE.out.1]; unfold endE; rw [← HR.out]; rfl)
              obtain ⟨q0, q1⟩ := HB.out.1.q.cells
              obtain ⟨x0, x1⟩ := HB.out.1.x.cells
              obtain ⟨r0, r1⟩ := HB.out.2.2.2.2.1.cells
              have m0 := HB.out.2.2.2.2.1.marks 0
              have m1 := HB.out.2.2.2.2.1.marks 1
              by_cases hbad : a < over ∨ 9223372036854775806 < a
              · have hE : E = 2 := HE0.out.trans (if_pos hbad)
                have hO : O = 0 := by rw [HE.out.2.1, hE]; rfl
                have hL : Lr = [] := by rw [HE.out.2.2, hE]; rfl
                have HZ := Lib.hid (show QBox wb (za + 1) (.slice none 0 0) O ∧ CbOut NoS wb (.slice none 0 0) Lr from ⟨by rw [hO]; exact HB.out.2.2.2.2.1, by rw [hL]; exact (outQ_none 0 wb).1.sub (fun _ h => False.elim h)⟩)
                have HE2 := Lib.hid hE
                clear hO hL HE0 hE
                by_cases hlo : a < over
                · clear hbad
                  go_wp2
                  go_meet
                  exact ⟨none, 0, 0, by rw [HE2.out], HB.out.1, HB.out.2.1, HB.out.2.2.1, HB.out.2.2.2.1, HZ.out.1, HZ.out.2⟩
                · have hhi : 9223372036854775806 < a := by omega
                  have hlo' : over ≤ a := by omega
                  clear hbad hlo
                  go_wp2
                  go_meet
                  exact ⟨none, 0, 0, by rw [HE2.out], HB.out.1, HB.out.2.1, HB.out.2.2.1, HB.out.2.2.2.1, HZ.out.1, HZ.out.2⟩
              · have hE : E = 0 := HE0.out.trans (if_neg hbad)
                have hO : O = a := by rw [HE.out.2.1, hE]; rfl
                have hL : Lr = ls := by rw [HE.out.2.2, hE]; rfl
                have h1 : over ≤ a := by omega
                have h2 : a ≤ 9223372036854775806 := by omega
                have hoc := lown_c (.slice px nx cx) over l wb (HL.out.1.below HB.out.1.b) HL.out.2
                rw [← HLS.out.1] at hoc
                have HEO := Lib.hid (And.intro hE (And.intro hO hL))
                clear hbad HE0 hE hO hL
                go_wp2_with fail
                (with_reducible refine hoc.mono ?_)
                rintro e wd ⟨⟨vo, rfl, oo⟩, hbd⟩
                obtain ⟨pr, cr, rfl⟩ := owns_slice oo
                have hz2 := HB.out.2.2.2.2.1.below hbd
                clear q0 q1 x0 x1 r0 r1 m0 m1
                obtain ⟨r0, r1⟩ := hz2.cells
                have m0 := hz2.marks 0
                have m1 := hz2.marks 1
                obtain ⟨we, hwe⟩ : ∃ X : World, X = (wd.setCell ⟨za + 1, 0, none⟩ (.slice pr ls.length cr)).setCell ⟨za + 1, 1, none⟩ (.int .u64 over) := ⟨_, rfl⟩
                have hqe : QBox we (za + 1) (.slice pr ls.length cr) over := by rw [hwe]; exact hz2.put _ _
                have hke : Keeps (fun k => k = za + 1) wd we := by rw [hwe]; exact QBox.putK _ _ _ _
                obtain ⟨wf, hwf⟩ : ∃ X : World, X = we.setCell ⟨za + 1, 1, none⟩ (.int .u64 a) := ⟨_, rfl⟩
                have hkf : Keeps (fun k => k = za + 1) wd wf := hke.trans (by rw [hwf]; exact set1K _ _ 1 _)
                have HEE := Lib.hid (show QpI W (.slice px nx cx) over z Z p n c ls wf ∧ OvB wf (W.heap.size + 1) a b ∧ QBox wf za (.slice pa k ca) O ∧ OutS Z za (.slice pa k ca) Lr wf ∧ QBox wf (za + 1) (.slice pr ls.length cr) O ∧ CbOut NoS wf (.slice pr ls.length cr) Lr from
                  ⟨(HB.out.1.below hbd).keeps hkf (fun k e => by have := HB.out.2.2.2.2.2.1; omega), (HB.out.2.1.below hbd).keeps hkf (by have := HB.out.2.2.2.2.2.1; have := HOZ.out; omega), (HB.out.2.2.1.below hbd).keeps hkf (by omega), (HB.out.2.2.2.1.below hbd).keeps hkf (fun k' e => by omega), by rw [hwf, HEO.out.2.1]; exact hqe.put1 _, by rw [HEO.out.2.2]; exact ((cb_of_owns (hkf.row oo (fun g e => by have := (oo.lt g e).1; have := HB.out.2.2.2.2.2.2; omega)))).sub (fun _ h => False.elim h)⟩)
                have HWE := Lib.hid hwe
                have HWF := Lib.hid hwf
                have HQE := Lib.hid hqe
                clear oo hz2 hwe hke hbd hoc hqe hwf hkf
                go_upto_region 27 with fail
                rw [← HWE.out]
                clear HWE r0 r1 m0 m1
                obtain ⟨r0, r1⟩ := HQE.out.cells
                have m1 := HQE.out.marks 1
                go_wp2
                go_meet
                rw [← HWF.out]
                exact ⟨_, _, _, by rw [HEO.out.1], HEE⟩
          case rest =>
            obtain ⟨pr, nr, cr, rfl, HC⟩ := hcut
            have hEE : (E != E) = false := by simp
            obtain ⟨q0, q1⟩ := HC.out.2.2.1.cells
            obtain ⟨r0, r1⟩ := HC.out.2.2.2.2.1.cells
            have hsc := rsame_c (.slice pa k ca) (.slice pr nr cr) O O Lr Lr wc (HC.out.2.2.2.1.1.sub (fun _ h => False.elim h)) HC.out.2.2.2.2.2
            rw [sameB_self] at hsc
            go_wp2_with fail
            (with_reducible refine hsc.mono ?_)
            rintro e wd ⟨rfl, hbd⟩
            have HD := Lib.hid (show QpI W (.slice px nx cx) over z Z p n c ls wd ∧ OvB wd (W.heap.size + 1) a b ∧ QBox wd za (.slice pa k ca) O ∧ OutS Z za (.slice pa k ca) Lr wd from ⟨HC.out.1.below hbd, HC.out.2.1.below hbd, HC.out.2.2.1.below hbd, HC.out.2.2.2.1.below hbd⟩)
            clear q0 q1 r0 r1 hsc hbd hEE HC HB HE
            obtain ⟨q0, q1⟩ := HD.out.2.2.1.cells
            go_wp2_with fail
            have hsp := spoil_c (.slice pa k ca) O Lr wd (HD.out.2.2.2.1.sub (fun _ h => False.elim h)) HD.out.2.2.2.2
            (with_reducible refine hsp.mono ?_)
            rintro e we ⟨rfl, hke⟩
            have HN := Lib.hid (show QpI W (.slice px nx cx) over z Z p n c ls we ∧ OvB we (W.heap.size + 1) a b from ⟨HD.out.1.keeps hke (rowBlk_out HD.out.2.2.2.out), HD.out.2.1.keeps hke (fun h => by have := rowBlk_out HD.out.2.2.2.out _ h; have := HOZ.out; omega)⟩)
            clear q0 q1 hsp hke HD
            go_wp2
            go_roundw
            case rel => exact ⟨1, by omega, (by first | rfl | go_num), HN⟩
            case measure => first | (simp [intOf]; done) | (simp [intOf]; omega) | omega
        · have hix := run_ix1 a b
          go_upto_region 21 with fail
          clear hix
          have hpc := end_c (.slice p n c) over ls b wr (HX.out.1.row.sub (fun _ h => False.elim h)) ho
          go_wp2_with fail
          (with_reducible refine hpc.mono ?_)
          rintro e wa ⟨hq, hba⟩
          obtain ⟨E, hE⟩ : ∃ E, E = endE over ls b := ⟨_, rfl⟩
          obtain ⟨O, hO⟩ : ∃ O, O = pO E b := ⟨_, rfl⟩
          obtain ⟨Lr, hLr⟩ : ∃ Lr, Lr = pL E ls := ⟨_, rfl⟩
          have hq1 := endQ_any hq
          rw [← hE, ← hO, ← hLr] at hq1
          obtain ⟨pa, ca, rfl, oa⟩ := ansQ_row hq1
          obtain ⟨k, hk⟩ : ∃ k, k = Lr.length := ⟨_, rfl⟩
          rw [← hk] at oa ⊢
          obtain ⟨za, hza⟩ : ∃ z, z = wa.heap.size := ⟨_, rfl⟩
          obtain ⟨wb, hwb⟩ : ∃ X : World, X = (wa.alloc (.cells #[.slice pa k ca, .int .u64 O] 25)).alloc (.cells #[.slice none 0 0, .int .u64 0] 25) := ⟨_, rfl⟩
          have hbb : Below wa.heap.size wa wb := by rw [hwb]; exact below2 _ _ _
          have hbab := below_then hba hba.size hbb
          have HB := Lib.hid (show QpI W (.slice px nx cx) over z Z p n c ls wb ∧ OvB wb (W.heap.size + 1) a b ∧ QBox wb za (.slice pa k ca) O ∧ OutS Z za (.slice pa k ca) Lr wb ∧ QBox wb (za + 1) (.slice none 0 0) 0 ∧ Z ≤ za ∧ wb.heap.size = za + 2 from
            ⟨HX.out.1.below hbab, HX.out.2.below hbab, by rw [hwb, hza]; exact (QBox.new _ _ _).below (below1 _ _), (OutS.of (out_of_owns oa) HX.out.1.zs hza).below hbb, by
              rw [hwb, hza]
              have := QBox.new (wa.alloc (.cells #[.slice pa k ca, .int .u64 O] 25)) (.slice none 0 0) 0
              rwa [World.size_alloc] at this, by have := HX.out.1.zs; have := hba.size; omega, by rw [hwb, hza]; simp⟩)
          have HE := Lib.hid (And.intro hE (And.intro hO hLr))
          have HWB := Lib.hid (And.intro hwb hza)
          have HKL := Lib.hid hk
          clear hq hq1 oa hba hbb hbab hE hO hLr hwb hza hk hpc q0 q1
          go_upto_if 79 with fail
          rw [← HWB.out.1, ← HWB.out.2]
          clear HWB
          go_cut [21] (fun s21 wc => ∃ (pr : Option Addr) (nr cr : Nat), s21 = .int .i64 E ∧ Hid (QpI W (.slice px nx cx) over z Z p n c ls wc ∧ OvB wc (W.heap.size + 1) a b ∧ QBox wc za (.slice pa k ca) O ∧ OutS Z za (.slice pa k ca) Lr wc ∧ QBox wc (za + 1) (.slice pr nr cr) O ∧ CbOut NoS wc (.slice pr nr cr) Lr))
          case first =>
            cases R with
            | false =>
              have hE : E = 230 := by rw [HE.out.1]; unfold endE; rw [← HR.out]; rfl
              have hO : O = 0 := by rw [HE.out.2.1, hE]; rfl
              have hL : Lr = [] := by rw [HE.out.2.2, hE]; rfl
              have HZ := Lib.hid (show QBox wb (za + 1) (.slice none 0 0) O ∧ CbOut NoS wb (.slice none 0 0) Lr from ⟨by rw [hO]; exact HB.out.2.2.2.2.1, by rw [hL]; exact (outQ_none 0 wb).1.sub (fun _ h => False.elim h)⟩)
              clear hO hL
              go_wp2
              go_meet
              exact ⟨none, 0, 0, by rw [hE], HB.out.1, HB.out.2.1, HB.out.2.2.1, HB.out.2.2.2.1, HZ.out.1, HZ.out.2⟩
            | true =>
              have HE0 : Hid (E = if b < over ∨ 9223372036854775806 < b then 2 else 0) := Lib.hid (by rw [HE.out.1]; unfold endE; rw [← HR.out]; rfl)
              obtain ⟨q0, q1⟩ := HB.out.1.q.cells
              obtain ⟨x0, x1⟩ := HB.out.1.x.cells
              obtain ⟨r0, r1⟩ := HB.out.2.2.2.2.1.cells
              have m0 := HB.out.2.2.2.2.1.marks 0
              have m1 := HB.out.2.2.2.2.1.marks 1
              by_cases hbad : b < over ∨ 9223372036854775806 < b
              · have hE : E = 2 := HE0.out.trans (if_pos hbad)
                have hO : O = 0 := by rw [HE.out.2.1, hE]; rfl
                have hL : Lr = [] := by rw [HE.out.2.2, hE]; rfl
                have HZ := Lib.hid (show QBox wb (za + 1) (.slice none 0 0) O ∧ CbOut NoS wb (.slice none 0 0) Lr from ⟨by rw [hO]; exact HB.out.2.2.2.2.1, by rw [hL]; exact (outQ_none 0 wb).1.sub (fun _ h => False.elim h)⟩)
                have HE2 := Lib.hid hE
                clear hO hL HE0 hE
                by_cases hlo : b < over
                · clear hbad
                  go_wp2
                  go_meet
                  exact ⟨none, 0, 0, by rw [HE2.out], HB.out.1, HB.out.2.1, HB.out.2.2.1, HB.out.2.2.2.1, HZ.out.1, HZ.out.2⟩
                · have hhi : 9223372036854775806 < b := by omega
                  have hlo' : over ≤ b := by omega
                  clear hbad hlo
                  go_wp2
                  go_meet
                  exact ⟨none, 0, 0, by rw [HE2.out], HB.out.1, HB.out.2.1, HB.out.2.2.1, HB.out.2.2.2.1, HZ.out.1, HZ.out.2⟩
              · have hE : E = 0 := HE0.out.trans (if_neg hbad)
                have hO : O = b := by rw [HE.out.2.1, hE]; rfl
                have hL : Lr = ls := by rw [HE.out.2.2, hE]; rfl
                have h1 : over ≤ b := by omega
                have h2 : b ≤ 9223372036854775806 := by omega
                have hoc := lown_c (.slice px nx cx) over l wb (HL.out.1.below HB.out.1.b) HL.out.2
                rw [← HLS.out.1] at hoc
                have HEO := Lib.hid (And.intro hE (And.intro hO hL))
                clear hbad HE0 hE hO hL
                go_wp2_with fail
                (with_reducible refine hoc.mono ?_)
                rintro e wd ⟨⟨vo, rfl, oo⟩, hbd⟩
                obtain ⟨pr, cr, rfl⟩ := owns_slice oo
                have hz2 := HB.out.2.2.2.2.1.below hbd
                clear q0 q1 x0 x1 r0 r1 m0 m1
                obtain ⟨r0, r1⟩ := hz2.cells
                have m0 := hz2.marks 0
                have m1 := hz2.marks 1
                obtain ⟨we, hwe⟩ : ∃ X : World, X = (wd.setCell ⟨za + 1, 0, none⟩ (.slice pr ls.length cr)).setCell ⟨za + 1, 1, none⟩ (.int .u64 over) := ⟨_, rfl⟩
                have hqe : QBox we (za + 1) (.slice pr ls.length cr) over := by rw [hwe]; exact hz2.put _ _
                have hke : Keeps (fun k => k = za + 1) wd we := by rw [hwe]; exact QBox.putK _ _ _ _
                obtain ⟨wf, hwf⟩ : ∃ X : World, X = we.setCell ⟨za + 1, 1, none⟩ (.int .u64 b) := ⟨_, rfl⟩
                have hkf : Keeps (fun k => k = za + 1) wd wf := hke.trans (by rw [hwf]; exact set1K _ _ 1 _)
                have HEE := Lib.hid (show QpI W (.slice px nx cx) over z Z p n c ls wf ∧ OvB wf (W.heap.size + 1) a b ∧ QBox wf za (.slice pa k ca) O ∧ OutS Z za (.slice pa k ca) Lr wf ∧ QBox wf (za + 1) (.slice pr ls.length cr) O ∧ CbOut NoS wf (.slice pr ls.length cr) Lr from
                  ⟨(HB.out.1.below hbd).keeps hkf (fun k e => by have := HB.out.2.2.2.2.2.1; omega), (HB.out.2.1.below hbd).keeps hkf (by have := HB.out.2.2.2.2.2.1; have := HOZ.out; omega), (HB.out.2.2.1.below hbd).keeps hkf (by omega), (HB.out.2.2.2.1.below hbd).keeps hkf (fun k' e => by omega), by rw [hwf, HEO.out.2.1]; exact hqe.put1 _, by rw [HEO.out.2.2]; exact ((cb_of_owns (hkf.row oo (fun g e => by have := (oo.lt g e).1; have := HB.out.2.2.2.2.2.2; omega)))).sub (fun _ h => False.elim h)⟩)
                have HWE := Lib.hid hwe
                have HWF := Lib.hid hwf
                have HQE := Lib.hid hqe
                clear oo hz2 hwe hke hbd hoc hqe hwf hkf
                go_upto_region 27 with fail
                rw [← HWE.out]
                clear HWE r0 r1 m0 m1
                obtain ⟨r0, r1⟩ := HQE.out.cells
                have m1 := HQE.out.marks 1
                go_wp2
                go_meet
                rw [← HWF.out]
                exact ⟨_, _, _, by rw [HEO.out.1], HEE⟩
          case rest =>
            obtain ⟨pr, nr, cr, rfl, HC⟩ := hcut
            have hEE : (E != E) = false := by simp
            obtain ⟨q0, q1⟩ := HC.out.2.2.1.cells
            obtain ⟨r0, r1⟩ := HC.out.2.2.2.2.1.cells
            have hsc := rsame_c (.slice pa k ca) (.slice pr nr cr) O O Lr Lr wc (HC.out.2.2.2.1.1.sub (fun _ h => False.elim h)) HC.out.2.2.2.2.2
            rw [sameB_self] at hsc
            go_wp2_with fail
            (with_reducible refine hsc.mono ?_)
            rintro e wd ⟨rfl, hbd⟩
            have HD := Lib.hid (show QpI W (.slice px nx cx) over z Z p n c ls wd ∧ OvB wd (W.heap.size + 1) a b ∧ QBox wd za (.slice pa k ca) O ∧ OutS Z za (.slice pa k ca) Lr wd from ⟨HC.out.1.below hbd, HC.out.2.1.below hbd, HC.out.2.2.1.below hbd, HC.out.2.2.2.1.below hbd⟩)
            clear q0 q1 r0 r1 hsc hbd hEE HC HB HE
            obtain ⟨q0, q1⟩ := HD.out.2.2.1.cells
            go_wp2_with fail
            have hsp := spoil_c (.slice pa k ca) O Lr wd (HD.out.2.2.2.1.sub (fun _ h => False.elim h)) HD.out.2.2.2.2
            (with_reducible refine hsp.mono ?_)
            rintro e we ⟨rfl, hke⟩
            have HN := Lib.hid (show QpI W (.slice px nx cx) over z Z p n c ls we ∧ OvB we (W.heap.size + 1) a b from ⟨HD.out.1.keeps hke (rowBlk_out HD.out.2.2.2.out), HD.out.2.1.keeps hke (fun h => by have := rowBlk_out HD.out.2.2.2.out _ h; have := HOZ.out; omega)⟩)
            clear q0 q1 hsp hke HD
            go_wp2
            go_roundw
            case rel => exact ⟨2, by omega, (by first | rfl | go_num), HN⟩
            case measure => first | (simp [intOf]; done) | (simp [intOf]; omega) | omega
      · have hi2 : i = 2 := by omega
        subst hi2
        have HQF := Lib.hid HX.out.1
        obtain ⟨wf, hwf⟩ : ∃ w, w = wr := ⟨_, rfl⟩
        subst hwf
        go_upto_region 32 with fail
        refine wpTwo_begin (T := fun w' => QBox w' z (.slice p n c) over ∧ QBox w' W.heap.size (.slice px nx cx) over) (S := fun _ => True) (late := fun _ => false) (by kernel_rfl) ?_
        obtain ⟨X, hX⟩ : ∃ Y : World, Y = wf.drew := ⟨_, rfl⟩
        rw [← hX]
        have hbx : Below wf.heap.size wf X := by rw [hX]; exact (Below.refl _ _).drew
        clear hX
        have HX := Lib.hid (HQF.out.below hbx)
        have hT0 : QBox X z (.slice p n c) over ∧ QBox X W.heap.size (.slice px nx cx) over := ⟨HX.out.q, HX.out.x⟩
        clear hbx HQF
        have HC := Lib.hid (lown_c (.slice px nx cx) over l X (HL.out.1.below HX.out.b) HL.out.2)
        rw [← HLS.out.1] at HC
        refine wpTwo_takeT (i := 0) (v := .agg #[.slice p n c, .int .u64 over]) rfl (by kernel_rfl) (by kernel_rfl) (by kernel_rfl) (fun _ _ _ h => h) ⟨by rfl, ?_⟩ hT0 ?_
        · rintro w ⟨hT1, hT2⟩
          obtain ⟨t0', t1'⟩ := hT1.cells
          obtain ⟨t2', t3'⟩ := hT2.cells
          go_simp
        (try simp only [Act.put, List.getElem_toArray, List.getElem_cons_zero, List.setIfInBounds_toArray, List.set_cons_succ, List.set_cons_zero])
        refine wpTwo_takeT (i := 1) (v := .agg #[.slice px nx cx, .int .u64 over]) rfl (by kernel_rfl) (by kernel_rfl) (by kernel_rfl) (fun _ _ _ h => h) ⟨by rfl, ?_⟩ hT0 ?_
        · rintro w ⟨hT1, hT2⟩
          obtain ⟨t0', t1'⟩ := hT1.cells
          obtain ⟨t2', t3'⟩ := hT2.cells
          go_simp
        (try simp only [Act.put, List.getElem_toArray, List.getElem_cons_succ, List.getElem_cons_zero, List.setIfInBounds_toArray, List.set_cons_succ, List.set_cons_zero])
        refine wpTwo_ready (rs := [2]) (by kernel_rfl) (by simp) ?_
        refine (AllTwo.cons rfl (fun K hK => ?_) AllTwo.nil)
        go_simp
        (with_reducible refine HC.out.mono ?_)
        rintro e X1 ⟨⟨v1, rfl, o1⟩, hb1⟩
        obtain ⟨p1, c1, rfl⟩ := owns_slice o1
        have HX1 := Lib.hid (HX.out.below hb1)
        have hc := rsame_c (.slice p n c) (.slice p1 ls.length c1) over over ls ls X1 (HX1.out.row.sub (fun _ h => False.elim h)) ((cb_of_owns o1).sub (fun _ h => False.elim h))
        rw [sameB_self] at hc
        have hT1 : QBox X1 z (.slice p n c) over ∧ QBox X1 W.heap.size (.slice px nx cx) over := ⟨HX1.out.q, HX1.out.x⟩
        clear o1 hb1 HX HC hT0
        go_wp2_with fail
        refine hK.out _ _ ⟨hT1, fun _ _ => trivial⟩ ?_
        clear hK K
        (try simp only [Act.put, List.getElem_toArray, List.getElem_cons_succ, List.getElem_cons_zero, List.setIfInBounds_toArray, List.set_cons_succ, List.set_cons_zero])
        refine wpTwo_ready (rs := [3]) (by kernel_rfl) (by simp) ?_
        refine (AllTwo.cons rfl (fun K hK => ?_) AllTwo.nil)
        go_simp
        (with_reducible refine hc.mono ?_)
        rintro e X2 ⟨rfl, hb2⟩
        have HX2 := Lib.hid (HX1.out.below hb2)
        have hT2 : QBox X2 z (.slice p n c) over ∧ QBox X2 W.heap.size (.slice px nx cx) over := ⟨HX2.out.q, HX2.out.x⟩
        clear hc hb2 HX1 hT1
        go_wp2_with fail
        refine hK.out _ _ ⟨hT2, fun _ _ => trivial⟩ ?_
        clear hK K
        (try simp only [Act.put, List.getElem_toArray, List.getElem_cons_succ, List.getElem_cons_zero, List.setIfInBounds_toArray, List.set_cons_succ, List.set_cons_zero])
        refine wpTwo_takeT (i := 4) (v := .bool true) rfl (by kernel_rfl) (by kernel_rfl) (by kernel_rfl) (fun _ _ _ h => h) ⟨by rfl, ?_⟩ hT2 ?_
        · rintro w -
          go_simp
        (try simp only [Act.put, List.getElem_toArray, List.getElem_cons_succ, List.getElem_cons_zero, List.setIfInBounds_toArray, List.set_cons_succ, List.set_cons_zero])
        refine wpTwo_end (by kernel_rfl) ?_ _
        go_wp2
        go_ret
        exact ⟨rfl, HX2.out.b⟩

end Go.Proofs.Ytdagcimkajmkaaa
namespace Go.Proofs.Ytdagcimkajmkaaa
open Go.RowKit Go.Shelf
open Go.ChangeShapes Go.WideShapes Go.ChangeAt Go.Deep
open Go.ChangeMaps (open_string shut_string)

set_option maxRecDepth 100000 in
theorem queuePuts_lifted (os : Os) (started : os.Started) (H : Type) (enc : TypeId × Value → H) :
    ReturnsInHanded {} Try.checked os 3 .any (Rows.queuePutsSpec.pre6 enc Try.prog Try.f3 Rows.queuePutsRow.domain false) (Rows.queuePutsSpec.post enc Try.prog Try.f3 false true false false) := by
  refine returnsInHanded_of_change (C := Try.checked) own started (by kernel_rfl) Try.func3
    (ChangeSpec.witness6 (enc := enc) (C := Try.checked) false ⟨#[], #[.agg #[.slice none 0 0, .int .u64 0], .slice none 0 0, .agg #[.int .u64 0, .int .u64 0]], []⟩ 8 (by kernel_rfl) (by kernel_rfl) (by kernel_rfl) (by kernel_rfl)) ?_
  intro W base args ds gs before hval0 hW hcnd _
  have hval : ∀ (j : Nat) t v, Try.f3.params[j]? = some t → args[j]? = some v → Value.okWide Try.prog W .any base t v := hval0
  have hW' := hW
  obtain ⟨p, q, hA0, hV, rfl, hfz, hnd⟩ := hW
  have hA : DataW.TrodAll enc Try.prog W 0 (fun _ => true) true Try.f3.params.toList args.toList ds p := hA0
  rw [Try.params3] at hA hval
  have hA2 := hA
  obtain ⟨v0, vs0, d0, ds0, pp0, qq0, hargs, rfl, rfl, h0, r0⟩ := trodAll_cons hA
  obtain ⟨v1, vs1, d1, ds1, pp1, qq1, rfl, rfl, rfl, h1, r1⟩ := trodAll_cons r0
  obtain ⟨v2, vs2, d2, ds2, pp2, qq2, rfl, rfl, rfl, h2, r2⟩ := trodAll_cons r1
  obtain ⟨rfl, rfl, rfl⟩ := trodAll_nil r2
  obtain rfl : args = #[v0, v1, v2] := by cases args; simp_all
  obtain ⟨rfl, rfl⟩ := trodVars_none hV
  obtain ⟨u0, k0, x0, rfl, a0, z0, g0, i0, s0⟩ := queue_open (hval 0 25 v0 rfl rfl) h0
  obtain ⟨x1, a1, g1, l1⟩ := nums_open Try.underlying26 Try.underlying23 (by kernel_rfl) (hval 1 26 v1 rfl rfl) h1
  obtain ⟨e2, f2, rfl⟩ := arr2w_open (hval 2 27 v2 rfl rfl) h2
  clear hA0 hval0
  simp only [List.append_nil] at hW'
  refine (queuePuts_c u0 k0 x0 v1 x1 e2 f2 W a0 z0 i0 (fun c hc => (g0 c hc).1) a1 l1 (rg_u64 g1)).mono fun e W' ⟨he, hb⟩ => ?_
  subst he
  exact ⟨_, rfl, _, _, _, [], _, [], hW', trodAll_cons_mk (shut_bool Try.underlying4 _) trodAll_mk0, trodAll_stays laidOut hb (by kernel_rfl) hA2 (fun x hx => by simpa using hW'.lt x (by simpa using hx)), rfl, hb.frame _, fun h => by cases h⟩

theorem queuePuts_holds : Rows.QueuePutsSaid :=
  OpenClaim.holds_of_wide 3 Try.f3 rfl rfl rfl rfl rfl rfl rfl ⟨rfl, rfl, rfl, rfl, rfl⟩ rfl rfl rfl rfl rfl (by kernel_rfl) Try.func3 (by kernel_rfl)
    (of_decide_eq_true (by kernel_rfl)) (by unfold Func.isWrapper; first | (rw [if_pos (by decide +kernel)]; kernel_rfl) | (rw [if_neg (by decide +kernel)]; exact ⟨rfl, rfl⟩))
    (fun os started H enc _ => queuePuts_lifted os started H enc)

end Go.Proofs.Ytdagcimkajmkaaa
