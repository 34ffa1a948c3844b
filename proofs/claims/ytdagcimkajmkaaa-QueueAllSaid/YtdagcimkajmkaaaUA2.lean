/-
  Package queue: done tells what the callbacks are that are done, in order.
  Conditions: who ranges over them leaves the queue's box and row as they are.
-/
import Derived.Test.YtdagcimkajmkaaaUA1
import Derived.Maps.AppendAt
/-
  Package queue: New, Check, Put, End.
  Conditions: the ranges of Go's types.
-/
namespace Go.Proofs.Ytdagcimkajmkaaa
set_option maxRecDepth 100000
open Go.RowKit Go.Shelf
attribute [local go_sem] Oper.semAt_some

theorem results_ct {fn : Func} {a b : Tmp} {t : TypeId} (h : fn.results = #[.cell a t, .tmp b]) (tmps : Array Value) (P : Program) (w : World) {p : Addr} {x y : Value} (ha : tmps.getD a undef = .pointer (some p)) (hb : tmps.getD b undef = y)
    (hx : (loadVar t p).run P w = .ok x w) : (results fn tmps).run P w = .ok (.tuple #[x, y]) w := by
  unfold results
  rw [h]
  simp only [Array.mapM_eq_foldlM, List.foldlM_toArray, List.foldlM_cons, List.foldlM_nil, ha, hb, asAddr, run_fmap, Sem.run_bind, Sem.run_pure, Result.andThen_ok, hx]
  rfl
/-- A queue in memory of its own, and the error. -/
def AnsQ (B : Nat) (E over : Int) (l : List (Int × Int)) (e : Ending) (w' : World) : Prop := ∃ v, e = .returned (.tuple #[.agg #[v, .int .u64 over], .int .i64 E]) ∧ w'.ownsRow B 53 2 v l.length (cvs l)
theorem ansQ_none (B : Nat) (E : Int) (w' : World) : AnsQ B E 0 [] (.returned (.tuple #[.agg #[.slice none 0 0, .int .u64 0], .int .i64 E])) w' := ⟨_, rfl, World.ownsRow_nil _ _ _ _⟩

def chkE (over : Int) (l : List (Int × Int)) : Int := if mayB over l = true then 0 else 230
set_option maxHeartbeats 4000000 in
theorem check_c (v : Value) (over : Int) (l : List (Int × Int)) (W : World) (hv : CbOut NoS W v l) (ho : 0 ≤ over) :
    Calls Try.prog 19 #[.agg #[v, .int .u64 over]] W fun e w' => e = .returned (.int .i64 (chkE over l)) ∧ Below W.heap.size W w' := by
  obtain ⟨w0, hw0⟩ : ∃ X : World, X = W.alloc (.cells #[v, .int .u64 over] 25) := ⟨_, rfl⟩
  have hb0 : Below W.heap.size W w0 := by rw [hw0]; exact below1 _ _
  have HM := Lib.hid (may_c v over l w0 (hv.below hb0) ho)
  have hq : QBox w0 W.heap.size v over := by rw [hw0]; exact QBox.new _ _ _
  obtain ⟨p, c, rfl, -⟩ := hv
  obtain ⟨q0, q1⟩ := hq.cells
  have HB := Lib.hid hb0
  clear hb0 hq
  go_enter Try.func19, Try.ntmps19
  go_wp2_with fail
  rw [← hw0]
  clear hw0
  (with_reducible refine HM.out.mono ?_)
  rintro e w1 ⟨rfl, hb1⟩
  have HB1 := Lib.hid (below_then HB.out HB.out.size hb1)
  clear hb1 HM q0 q1
  cases hm : mayB over l with
  | false =>
    have HE := Lib.hid (show chkE over l = 230 by unfold chkE; rw [hm]; rfl)
    go_wp2
    go_ret
    exact ⟨by rw [HE.out]; rfl, HB1.out⟩
  | true =>
    have HE := Lib.hid (show chkE over l = 0 by unfold chkE; rw [hm]; rfl)
    go_wp2
    go_ret
    exact ⟨by rw [HE.out]; rfl, HB1.out⟩

def newE (over : Int) : Int := if over ≤ 9223372036854775806 then 0 else 2
set_option maxHeartbeats 4000000 in
theorem new_c (over : Int) (W : World) :
    Calls Try.prog 21 #[.int .u64 over] W fun e w' => AnsQ W.heap.size (newE over) (if newE over = 0 then over else 0) [] e w' ∧ Below W.heap.size W w' := by
  by_cases h : over ≤ 9223372036854775806
  · have e : newE over = 0 := if_pos h
    rw [e, if_pos rfl]
    go_enter Try.func21, Try.ntmps21
    go_wp2
    refine bodyPost_ret (results_ct rfl _ _ _ rfl rfl (queue_load (QBox.new W (.slice none 0 0) over))) rfl ⟨⟨_, rfl, World.ownsRow_nil _ _ _ _⟩, below1 _ _⟩
  · have e : newE over = 2 := if_neg h
    have h' : 9223372036854775806 < over := by omega
    rw [e, if_neg (by decide)]
    clear h
    go_enter Try.func21, Try.ntmps21
    go_wp2
    refine bodyPost_ret (results_ct rfl _ _ _ rfl rfl (queue_load (QBox.new W (.slice none 0 0) 0))) rfl ⟨ansQ_none _ _ _, below1 _ _⟩

/-- append of one callback that has just been laid. -/
theorem wpList_app_one {ops : Array Oper} {rest : List Oper} {o : Oper} {a : Act} {Q : Exit → Act → World → Prop} {w : World} (hgd : o.guard = none) (s x : Operand)
    (ho : o.op = .call { callee := .builtin .append, args := #[s, x], argTypes := #[22, 22] })
    (B : Nat) (v : Value) (n : Nat) (l : List (Int × Int)) (hn : l.length = n) (hs : a.eval s = v) (hown : w.ownsRow B 53 2 v n (cvs l))
    (b c : Nat) (p y : Int) (hx : a.eval x = .slice (some ⟨b, 0, none⟩) 1 c) (h0 : w.cell? ⟨b, 0, none⟩ = some (.int .u64 p)) (h1 : w.cell? ⟨b, 1, none⟩ = some (.int .u64 y)) (hl : n ≤ 1000000) (hB : B ≤ w.heap.size)
    (h : ∀ q r w', w'.ownsRow B 53 2 (.slice q (n + 1) r) (n + 1) (cvs (l ++ [(p, y)])) → Keeps (fun k => some k = v.ownBlock) w w' → wpList Try.prog ops Q rest (a.put o.dst (.slice q (n + 1) r)) w') :
    wpList Try.prog ops Q (o :: rest) a w := by
  obtain ⟨i0, hi, hz0, hz1, hz2⟩ := info_parts info_cb
  refine wpList_append_own w hgd s x 22 ho B 53 i0 (.agg #[.int .u64 0, .int .u64 0]) 2 16 Try.underlying22 hi hz0 hz1 hz2 rfl (by decide) v n (cvs l) hs hown ⟨b, 0, none⟩ 1 c [.int .u64 p, .int .u64 y] hx rfl (fun j u hj => ?_) (fun u hu => ?_) (by unfold maxLen; omega) (by omega) hB fun v' w' h2 h3 _ => ?_
  · rw [addr_add_off, Nat.zero_add]
    match j, hj with
    | 0, hj => simp only [List.getElem?_cons_zero, Option.some.injEq] at hj; rw [← hj]; exact h0
    | 1, hj => simp only [List.getElem?_cons_succ, List.getElem?_cons_zero, Option.some.injEq] at hj; rw [← hj]; exact h1
  · simp only [List.mem_cons, List.not_mem_nil, or_false] at hu
    rcases hu with rfl | rfl <;> rfl
  · have e : cvs l ++ [.int .u64 p, .int .u64 y] = cvs (l ++ [(p, y)]) := by rw [cvs_append]; rfl
    rw [e] at h2
    obtain ⟨q, r, rfl⟩ := owns_slice h2
    exact h q r w' h2 ⟨h3.os, h3.tape, h3.output, h3.size, fun k hk hn => h3.block k hk (fun e => hn e)⟩

/-- What Put answers. -/
def putE (over : Int) (l : List (Int × Int)) (ahead : Int) : Int :=
  if mayB over l = true then (if ahead < 1 ∨ 2 < ahead then 2 else if allowsB (lastP l) over (over + ahead) = true then (if l.length = 16 then 6 else 0) else 2) else 230
def PutQ (B : Nat) (over : Int) (l : List (Int × Int)) (x ahead : Int) (e : Ending) (w' : World) : Prop :=
  (putE over l ahead = 0 ∧ AnsQ B 0 over (l ++ [(over + ahead, x)]) e w') ∨ (putE over l ahead ≠ 0 ∧ AnsQ B (putE over l ahead) 0 [] e w')
theorem may_parts {over : Int} {l : List (Int × Int)} (h : mayB over l = true) : over ≤ 9223372036854775806 ∧ l.length ≤ 16 ∧ upB over 0 l = true := by
  unfold mayB at h
  simp only [Bool.and_eq_true, decide_eq_true_eq] at h
  exact ⟨h.1.1, h.1.2, h.2⟩

set_option maxHeartbeats 16000000 in
theorem put_c (v : Value) (over : Int) (l : List (Int × Int)) (x ahead : Int) (W : World) (hv : CbOut NoS W v l) (ho : 0 ≤ over) :
    Calls Try.prog 10 #[.agg #[v, .int .u64 over], .int .u64 x, .int .i64 ahead] W fun e w' => PutQ W.heap.size over l x ahead e w' ∧ Below W.heap.size W w' := by
  obtain ⟨w0, hw0⟩ : ∃ X : World, X = (W.alloc (.cells #[v, .int .u64 over] 25)).alloc (.cells #[.slice none 0 0, .int .u64 0] 25) := ⟨_, rfl⟩
  have hb0 : Below W.heap.size W w0 := by rw [hw0]; exact below2 _ _ _
  have HF := Lib.hid (show QBox w0 W.heap.size v over ∧ QBox w0 (W.heap.size + 1) (.slice none 0 0) 0 ∧ Below W.heap.size W w0 ∧ w0.heap.size = W.heap.size + 2 from ⟨by rw [hw0]; exact (QBox.new W _ _).below (below1 _ _), by
      rw [hw0]
      have := QBox.new (W.alloc (.cells #[v, .int .u64 over] 25)) (.slice none 0 0) 0
      simpa using this, hb0, by rw [hw0]; simp⟩)
  have HV := Lib.hid (hv.below hb0)
  have HM := Lib.hid (may_c v over l w0 HV.out ho)
  obtain ⟨p, c, rfl, hlc, hcm, -⟩ := hv
  have HW0 := Lib.hid hw0
  obtain ⟨q0, q1⟩ := HF.out.1.cells
  clear hw0 hb0
  go_enter Try.func10, Try.ntmps10
  go_wp2_with fail
  rw [← HW0.out]
  clear HW0 q0 q1
  (with_reducible refine HM.out.mono ?_)
  rintro e w1 ⟨rfl, hb1⟩
  have H1 := Lib.hid (show QBox w1 W.heap.size (.slice p l.length c) over ∧ QBox w1 (W.heap.size + 1) (.slice none 0 0) 0 ∧ Below W.heap.size W w1 ∧ W.heap.size + 2 ≤ w1.heap.size ∧ CbOut NoS w1 (.slice p l.length c) l from ⟨HF.out.1.below hb1, HF.out.2.1.below hb1, below_then HF.out.2.2.1 HF.out.2.2.1.size hb1, by have := HF.out.2.2.2; have := hb1.size; omega, HV.out.below hb1⟩)
  clear hb1 HF HV HM
  obtain ⟨q0, q1⟩ := H1.out.1.cells
  obtain ⟨r0, r1⟩ := H1.out.2.1.cells
  have m0 := H1.out.2.1.marks 0
  have m1 := H1.out.2.1.marks 1
  have HP := Lib.hid (fun E : Int => (show AnsQ W.heap.size E 0 [] (.returned (.tuple #[.agg #[.slice none 0 0, .int .u64 0], .int .i64 E])) ((w1.setCell ⟨W.heap.size + 1, 0, none⟩ (.slice none 0 0)).setCell ⟨W.heap.size + 1, 1, none⟩ (.int .u64 0)) ∧ QBox ((w1.setCell ⟨W.heap.size + 1, 0, none⟩ (.slice none 0 0)).setCell ⟨W.heap.size + 1, 1, none⟩ (.int .u64 0)) (W.heap.size + 1) (.slice none 0 0) 0 ∧ Below W.heap.size W ((w1.setCell ⟨W.heap.size + 1, 0, none⟩ (.slice none 0 0)).setCell ⟨W.heap.size + 1, 1, none⟩ (.int .u64 0)) from
    ⟨ansQ_none _ _ _, H1.out.2.1.put _ _, H1.out.2.2.1.trans ((QBox.putK w1 _ _ _).below (by have := H1.out.2.2.2.1; omega) (fun k e => by omega))⟩))
  cases hm : mayB over l with
  | false =>
    have HE := Lib.hid (show putE over l ahead = 230 by unfold putE; rw [hm]; rfl)
    go_wp2
    exact bodyPost_ret (results_ct rfl _ _ _ rfl rfl (queue_load (HP.out 230).2.1)) rfl ⟨.inr ⟨by rw [HE.out]; decide, by rw [HE.out]; exact (HP.out 230).1⟩, (HP.out 230).2.2⟩
  | true =>
    obtain ⟨hg1, hg2, -⟩ := may_parts hm
    have HE0 := Lib.hid (show putE over l ahead = (if ahead < 1 ∨ 2 < ahead then 2 else if allowsB (lastP l) over (over + ahead) = true then (if l.length = 16 then 6 else 0) else 2) by unfold putE; rw [hm]; rfl)
    clear hm
    by_cases ha1 : ahead < 1
    · have HE := Lib.hid (HE0.out.trans (if_pos (Or.inl ha1)))
      go_wp2
      exact bodyPost_ret (results_ct rfl _ _ _ rfl rfl (queue_load (HP.out 2).2.1)) rfl ⟨.inr ⟨by rw [HE.out]; decide, by rw [HE.out]; exact (HP.out 2).1⟩, (HP.out 2).2.2⟩
    have ha1' : 1 ≤ ahead := by omega
    by_cases ha2 : 2 < ahead
    · have HE := Lib.hid (HE0.out.trans (if_pos (Or.inr ha2)))
      clear ha1
      go_wp2
      exact bodyPost_ret (results_ct rfl _ _ _ rfl rfl (queue_load (HP.out 2).2.1)) rfl ⟨.inr ⟨by rw [HE.out]; decide, by rw [HE.out]; exact (HP.out 2).1⟩, (HP.out 2).2.2⟩
    have ha2' : ahead ≤ 2 := by omega
    have HE1 := Lib.hid (HE0.out.trans (if_neg (by omega)))
    clear ha1 ha2 HE0
    have hcv : IntKind.u64.wrap ahead = ahead := wrap_u64 _ (by omega) (by omega)
    have had : IntKind.u64.wrap (over + ahead) = over + ahead := wrap_u64 _ (by omega) (by omega)
    obtain ⟨P, hP⟩ : ∃ P, P = over + ahead := ⟨_, rfl⟩
    rw [← hP] at had
    have HPP := Lib.hid hP
    have HE2 := Lib.hid (show putE over l ahead = if allowsB (lastP l) over P = true then (if l.length = 16 then 6 else 0) else 2 by rw [hP]; exact HE1.out)
    clear HE1
    have hP2 : over + ahead = P := hP.symm
    clear hP
    go_upto_region 6 with fail
    go_wp2_with fail
    (with_reducible refine (allows_c NoS _ over l w1 H1.out.2.2.2.2).mono ?_)
    rintro e w2 ⟨rfl, hq2, hl2, hb2⟩
    have HA := Lib.hid (allows1_c (w1.heap.size + 1) w1.heap.size (lastP l) over P _ w2 hl2 hq2 ho hg1)
    unfold alV
    go_wp2_with fail
    (with_reducible refine HA.out.mono ?_)
    rintro e w3 ⟨rfl, rfl⟩
    have H2 := Lib.hid (show QBox w3 W.heap.size (.slice p l.length c) over ∧ QBox w3 (W.heap.size + 1) (.slice none 0 0) 0 ∧ Below W.heap.size W w3 ∧ W.heap.size + 2 ≤ w3.heap.size ∧ CbOut NoS w3 (.slice p l.length c) l from ⟨H1.out.1.below hb2, H1.out.2.1.below hb2, below_then H1.out.2.2.1 H1.out.2.2.1.size hb2, by have := H1.out.2.2.2.1; have := hb2.size; omega, H1.out.2.2.2.2.below hb2⟩)
    clear HA H1 hq2 hl2 hb2 HP q0 q1 r0 r1 m0 m1
    obtain ⟨q0, q1⟩ := H2.out.1.cells
    obtain ⟨r0, r1⟩ := H2.out.2.1.cells
    have m0 := H2.out.2.1.marks 0
    have m1 := H2.out.2.1.marks 1
    have HP := Lib.hid (fun E : Int => (show AnsQ W.heap.size E 0 [] (.returned (.tuple #[.agg #[.slice none 0 0, .int .u64 0], .int .i64 E])) ((w3.setCell ⟨W.heap.size + 1, 0, none⟩ (.slice none 0 0)).setCell ⟨W.heap.size + 1, 1, none⟩ (.int .u64 0)) ∧ QBox ((w3.setCell ⟨W.heap.size + 1, 0, none⟩ (.slice none 0 0)).setCell ⟨W.heap.size + 1, 1, none⟩ (.int .u64 0)) (W.heap.size + 1) (.slice none 0 0) 0 ∧ Below W.heap.size W ((w3.setCell ⟨W.heap.size + 1, 0, none⟩ (.slice none 0 0)).setCell ⟨W.heap.size + 1, 1, none⟩ (.int .u64 0)) from
      ⟨ansQ_none _ _ _, H2.out.2.1.put _ _, H2.out.2.2.1.trans ((QBox.putK w3 _ _ _).below (by have := H2.out.2.2.2.1; omega) (fun k e => by omega))⟩))
    cases hx : allowsB (lastP l) over P with
    | false =>
      have HE := Lib.hid (show putE over l ahead = 2 by rw [HE2.out, hx]; rfl)
      go_wp2
      exact bodyPost_ret (results_ct rfl _ _ _ rfl rfl (queue_load (HP.out 2).2.1)) rfl ⟨.inr ⟨by rw [HE.out]; decide, by rw [HE.out]; exact (HP.out 2).1⟩, (HP.out 2).2.2⟩
    | true =>
      have HE3 := Lib.hid (show putE over l ahead = if l.length = 16 then 6 else 0 by rw [HE2.out, hx]; rfl)
      clear hx HE2
      by_cases hn : l.length = 16
      · have HE := Lib.hid (HE3.out.trans (if_pos hn))
        have hn' : (l.length : Int) = 16 := by omega
        clear hn
        go_wp2
        exact bodyPost_ret (results_ct rfl _ _ _ rfl rfl (queue_load (HP.out 6).2.1)) rfl ⟨.inr ⟨by rw [HE.out]; decide, by rw [HE.out]; exact (HP.out 6).1⟩, (HP.out 6).2.2⟩
      · have HE := Lib.hid (HE3.out.trans (if_neg hn))
        have hn' : ((l.length : Int) == 16) = false := by rw [beq_eq_false_iff_ne]; omega
        have hn2 : ¬ (l.length : Int) = 16 := by omega
        have HO := Lib.hid (own_c (.slice p l.length c) over l w3 H2.out.2.2.2.2 (by omega))
        clear HP r0 r1 m0 m1 hn
        go_wp2_with fail
        (with_reducible refine HO.out.mono ?_)
        rintro e w4 ⟨⟨v4, rfl, o4⟩, hb4⟩
        obtain ⟨n, hN⟩ : ∃ n, l.length = n := ⟨_, rfl⟩
        rw [hN] at o4
        obtain ⟨p4, c4, rfl⟩ := owns_slice o4
        have H4 := Lib.hid (show QBox w4 W.heap.size (.slice p l.length c) over ∧ QBox w4 (W.heap.size + 1) (.slice none 0 0) 0 ∧ Below W.heap.size W w4 from ⟨H2.out.1.below hb4, H2.out.2.1.below hb4, below_then H2.out.2.2.1 H2.out.2.2.1.size hb4⟩)
        have HZ4 := Lib.hid (show W.heap.size + 2 ≤ w3.heap.size ∧ w3.heap.size ≤ w4.heap.size from ⟨H2.out.2.2.2.1, hb4.size⟩)
        obtain ⟨w5, hw5⟩ : ∃ X : World, X = (w4.setCell ⟨W.heap.size, 0, none⟩ (.slice p4 n c4)).setCell ⟨W.heap.size, 1, none⟩ (.int .u64 over) := ⟨_, rfl⟩
        have hk5 : Keeps (fun k => k = W.heap.size) w4 w5 := by rw [hw5]; exact QBox.putK _ _ _ _
        have H5 := Lib.hid (show QBox w5 W.heap.size (.slice p4 n c4) over ∧ QBox w5 (W.heap.size + 1) (.slice none 0 0) 0 ∧ Below W.heap.size W w5 ∧ w5.ownsRow (W.heap.size + 2) 53 2 (.slice p4 n c4) n (cvs l) ∧ W.heap.size + 2 ≤ w5.heap.size ∧ l.length = n ∧ n ≤ 1000000 from ⟨by rw [hw5]; exact H4.out.1.put _ _, H4.out.2.1.keeps hk5 (by omega), H4.out.2.2.trans (hk5.below H4.out.2.2.size (fun k e => by omega)), (hk5.row o4 (fun g e => by have := (o4.lt g e).1; have := HZ4.out; omega)).mono HZ4.out.1, by have := HZ4.out; have := hk5.size; omega, hN, by omega⟩)
        obtain ⟨d0, d1⟩ := H4.out.1.cells
        have e0 := H4.out.1.marks 0
        have e1 := H4.out.1.marks 1
        have HW5 := Lib.hid hw5
        have HL := Lib.hid hN
        clear hk5 o4 hb4 q0 q1 HO H2 hw5 hN
        go_upto_region 11 with fail
        rw [← HW5.out]
        clear HW5 d0 d1 e0 e1 HZ4 H4
        obtain ⟨d0, d1⟩ := H5.out.1.cells
        have e0 := H5.out.1.marks 0
        go_upto_region 12 with (at_builtin; refine wpList_app_one rfl _ _ rfl (W.heap.size + 2) (.slice p4 n c4) n l H5.out.2.2.2.2.2.1 rfl (owns_below H5.out.2.2.2.1 (below1 _ _)) w5.heap.size 1 P x rfl (by simp) (by simp) H5.out.2.2.2.2.2.2 (by have := H5.out.2.2.2.2.1; rw [World.size_alloc]; omega) ?_; intro q r w6 ho6 hk6; have HR6 := Lib.hid ho6; have HK6 := Lib.hid hk6; have hq6 : QBox w6 W.heap.size (.slice p4 n c4) over := (H5.out.1.below (below1 _ _)).keeps hk6 (fun e => by have := (H5.out.2.2.2.1.lt _ e.symm).1; omega); have f0 := hq6.cells.1; have f1 := hq6.marks 0; have HQ6 := Lib.hid hq6; clear ho6 hk6 hq6)
        obtain ⟨w7, hw7⟩ : ∃ X : World, X = w6.setCell ⟨W.heap.size, 0, none⟩ (.slice q (n + 1) r) := ⟨_, rfl⟩
        rw [← hw7]
        have hk7 : Keeps (fun k => k = W.heap.size) w6 w7 := by rw [hw7]; exact set1K _ _ 0 _
        have hk5 : Keeps (fun k => some k = (Value.slice p4 n c4).ownBlock) w5 w6 := (Keeps.of_below (below1 _ _)).trans HK6.out
        have hrz : ∀ k, some k = (Value.slice p4 n c4).ownBlock → W.heap.size + 2 ≤ k := fun k e => (H5.out.2.2.2.1.lt k e.symm).1
        have hr7 : QBox w7 (W.heap.size + 1) (.slice none 0 0) 0 := (H5.out.2.1.keeps hk5 (fun e => by have := hrz _ e; omega)).keeps hk7 (by omega)
        have hb7 : Below W.heap.size W w7 := (H5.out.2.2.1.trans (hk5.below H5.out.2.2.1.size (fun k e => by have := hrz k e; omega))).trans (hk7.below (by have := hk5.size; have := H5.out.2.2.1.size; omega) (fun k e => by omega))
        have hq7 : QBox w7 W.heap.size (.slice q (n + 1) r) over := by rw [hw7]; exact HQ6.out.put0 _
        have ho7 := hk7.row HR6.out (fun g e => by have := (HR6.out.lt g e).1; omega)
        obtain ⟨q0, q1⟩ := hq7.cells
        obtain ⟨r0, r1⟩ := hr7.cells
        have m0 := hr7.marks 0
        have m1 := hr7.marks 1
        obtain ⟨w8, hw8⟩ : ∃ X : World, X = (w7.setCell ⟨W.heap.size + 1, 0, none⟩ (.slice q (n + 1) r)).setCell ⟨W.heap.size + 1, 1, none⟩ (.int .u64 over) := ⟨_, rfl⟩
        have hk8 : Keeps (fun k => k = W.heap.size + 1) w7 w8 := by rw [hw8]; exact QBox.putK _ _ _ _
        have H8 := Lib.hid (show QBox w8 (W.heap.size + 1) (.slice q (n + 1) r) over ∧ w8.ownsRow (W.heap.size + 2) 53 2 (.slice q (n + 1) r) (n + 1) (cvs (l ++ [(P, x)])) ∧ Below W.heap.size W w8 from ⟨by rw [hw8]; exact hr7.put _ _, hk8.row ho7 (fun g e => by have := (ho7.lt g e).1; omega), hb7.trans (hk8.below hb7.size (fun k e => by omega))⟩)
        have HW8 := Lib.hid hw8
        clear hw7 hk7 hk5 hrz hr7 hb7 hq7 ho7 hw8 hk8 d0 d1 e0 f0 f1 HQ6 HK6 HR6 H5
        go_wp2
        rw [← HW8.out]
        refine bodyPost_ret (results_ct rfl _ _ _ rfl rfl (queue_load H8.out.1)) rfl ⟨.inl ⟨HE.out, ⟨_, rfl, ?_⟩⟩, H8.out.2.2⟩
        rw [HPP.out] at H8
        rw [List.length_append, List.length_singleton, HL.out]
        exact H8.out.2.1.mono (by omega)

/-- What End answers. -/
def endE (over : Int) (l : List (Int × Int)) (x : Int) : Int := if mayB over l = true then (if x < over ∨ 9223372036854775806 < x then 2 else 0) else 230
def EndQ (B : Nat) (over : Int) (l : List (Int × Int)) (x : Int) (e : Ending) (w' : World) : Prop :=
  (endE over l x = 0 ∧ AnsQ B 0 x l e w') ∨ (endE over l x ≠ 0 ∧ AnsQ B (endE over l x) 0 [] e w')
set_option maxHeartbeats 16000000 in
theorem end_c (v : Value) (over : Int) (l : List (Int × Int)) (x : Int) (W : World) (hv : CbOut NoS W v l) (ho : 0 ≤ over) :
    Calls Try.prog 14 #[.agg #[v, .int .u64 over], .int .u64 x] W fun e w' => EndQ W.heap.size over l x e w' ∧ Below W.heap.size W w' := by
  obtain ⟨w0, hw0⟩ : ∃ X : World, X = (W.alloc (.cells #[v, .int .u64 over] 25)).alloc (.cells #[.slice none 0 0, .int .u64 0] 25) := ⟨_, rfl⟩
  have hb0 : Below W.heap.size W w0 := by rw [hw0]; exact below2 _ _ _
  have HF := Lib.hid (show QBox w0 W.heap.size v over ∧ QBox w0 (W.heap.size + 1) (.slice none 0 0) 0 ∧ Below W.heap.size W w0 ∧ w0.heap.size = W.heap.size + 2 from ⟨by rw [hw0]; exact (QBox.new W _ _).below (below1 _ _), by
      rw [hw0]
      have := QBox.new (W.alloc (.cells #[v, .int .u64 over] 25)) (.slice none 0 0) 0
      simpa using this, hb0, by rw [hw0]; simp⟩)
  have HV := Lib.hid (hv.below hb0)
  have HM := Lib.hid (may_c v over l w0 HV.out ho)
  obtain ⟨p, c, rfl, hlc, hcm, -⟩ := hv
  have HW0 := Lib.hid hw0
  obtain ⟨q0, q1⟩ := HF.out.1.cells
  clear hw0 hb0
  go_enter Try.func14, Try.ntmps14
  go_wp2_with fail
  rw [← HW0.out]
  clear HW0 q0 q1
  (with_reducible refine HM.out.mono ?_)
  rintro e w1 ⟨rfl, hb1⟩
  have H1 := Lib.hid (show QBox w1 W.heap.size (.slice p l.length c) over ∧ QBox w1 (W.heap.size + 1) (.slice none 0 0) 0 ∧ Below W.heap.size W w1 ∧ W.heap.size + 2 ≤ w1.heap.size ∧ CbOut NoS w1 (.slice p l.length c) l from ⟨HF.out.1.below hb1, HF.out.2.1.below hb1, below_then HF.out.2.2.1 HF.out.2.2.1.size hb1, by have := HF.out.2.2.2; have := hb1.size; omega, HV.out.below hb1⟩)
  clear hb1 HF HV HM
  obtain ⟨q0, q1⟩ := H1.out.1.cells
  obtain ⟨r0, r1⟩ := H1.out.2.1.cells
  have m0 := H1.out.2.1.marks 0
  have m1 := H1.out.2.1.marks 1
  have HP := Lib.hid (fun E : Int => (show AnsQ W.heap.size E 0 [] (.returned (.tuple #[.agg #[.slice none 0 0, .int .u64 0], .int .i64 E])) ((w1.setCell ⟨W.heap.size + 1, 0, none⟩ (.slice none 0 0)).setCell ⟨W.heap.size + 1, 1, none⟩ (.int .u64 0)) ∧ QBox ((w1.setCell ⟨W.heap.size + 1, 0, none⟩ (.slice none 0 0)).setCell ⟨W.heap.size + 1, 1, none⟩ (.int .u64 0)) (W.heap.size + 1) (.slice none 0 0) 0 ∧ Below W.heap.size W ((w1.setCell ⟨W.heap.size + 1, 0, none⟩ (.slice none 0 0)).setCell ⟨W.heap.size + 1, 1, none⟩ (.int .u64 0)) from
    ⟨ansQ_none _ _ _, H1.out.2.1.put _ _, H1.out.2.2.1.trans ((QBox.putK w1 _ _ _).below (by have := H1.out.2.2.2.1; omega) (fun k e => by omega))⟩))
  cases hm : mayB over l with
  | false =>
    have HE := Lib.hid (show endE over l x = 230 by unfold endE; rw [hm]; rfl)
    go_wp2
    exact bodyPost_ret (results_ct rfl _ _ _ rfl rfl (queue_load (HP.out 230).2.1)) rfl ⟨.inr ⟨by rw [HE.out]; decide, by rw [HE.out]; exact (HP.out 230).1⟩, (HP.out 230).2.2⟩
  | true =>
    obtain ⟨hg1, hg2, -⟩ := may_parts hm
    have HE0 := Lib.hid (show endE over l x = (if x < over ∨ 9223372036854775806 < x then 2 else 0) by unfold endE; rw [hm]; rfl)
    clear hm
    by_cases ha1 : x < over
    · have HE := Lib.hid (HE0.out.trans (if_pos (Or.inl ha1)))
      go_wp2
      exact bodyPost_ret (results_ct rfl _ _ _ rfl rfl (queue_load (HP.out 2).2.1)) rfl ⟨.inr ⟨by rw [HE.out]; decide, by rw [HE.out]; exact (HP.out 2).1⟩, (HP.out 2).2.2⟩
    have ha1' : over ≤ x := by omega
    by_cases ha2 : 9223372036854775806 < x
    · have HE := Lib.hid (HE0.out.trans (if_pos (Or.inr ha2)))
      clear ha1
      go_wp2
      exact bodyPost_ret (results_ct rfl _ _ _ rfl rfl (queue_load (HP.out 2).2.1)) rfl ⟨.inr ⟨by rw [HE.out]; decide, by rw [HE.out]; exact (HP.out 2).1⟩, (HP.out 2).2.2⟩
    have ha2' : x ≤ 9223372036854775806 := by omega
    have HE := Lib.hid (HE0.out.trans (if_neg (by omega)))
    clear ha1 ha2 HE0 HP
    have HO := Lib.hid (own_c (.slice p l.length c) over l w1 H1.out.2.2.2.2 (by omega))
    clear r0 r1 m0 m1
    go_wp2_with fail
    (with_reducible refine HO.out.mono ?_)
    rintro e w4 ⟨⟨v4, rfl, o4⟩, hb4⟩
    obtain ⟨n, hN⟩ : ∃ n, l.length = n := ⟨_, rfl⟩
    rw [hN] at o4
    obtain ⟨p4, c4, rfl⟩ := owns_slice o4
    have HZ4 := Lib.hid (show W.heap.size + 2 ≤ w1.heap.size ∧ w1.heap.size ≤ w4.heap.size from ⟨H1.out.2.2.2.1, hb4.size⟩)
    have H4 := Lib.hid (show QBox w4 W.heap.size (.slice p l.length c) over ∧ QBox w4 (W.heap.size + 1) (.slice none 0 0) 0 ∧ Below W.heap.size W w4 ∧ w4.ownsRow (W.heap.size + 2) 53 2 (.slice p4 n c4) n (cvs l) from ⟨H1.out.1.below hb4, H1.out.2.1.below hb4, below_then H1.out.2.2.1 H1.out.2.2.1.size hb4, o4.mono HZ4.out.1⟩)
    obtain ⟨w5, hw5⟩ : ∃ X : World, X = (w4.setCell ⟨W.heap.size, 0, none⟩ (.slice p4 n c4)).setCell ⟨W.heap.size, 1, none⟩ (.int .u64 over) := ⟨_, rfl⟩
    have hk5 : Keeps (fun k => k = W.heap.size) w4 w5 := by rw [hw5]; exact QBox.putK _ _ _ _
    have hq5 : QBox w5 W.heap.size (.slice p4 n c4) over := by rw [hw5]; exact H4.out.1.put _ _
    obtain ⟨w6, hw6⟩ : ∃ X : World, X = w5.setCell ⟨W.heap.size, 1, none⟩ (.int .u64 x) := ⟨_, rfl⟩
    have hk6 : Keeps (fun k => k = W.heap.size) w4 w6 := hk5.trans (by rw [hw6]; exact set1K _ _ 1 _)
    have H6 := Lib.hid (show QBox w6 W.heap.size (.slice p4 n c4) x ∧ QBox w6 (W.heap.size + 1) (.slice none 0 0) 0 ∧ Below W.heap.size W w6 ∧ w6.ownsRow (W.heap.size + 2) 53 2 (.slice p4 n c4) n (cvs l) from ⟨by rw [hw6]; exact hq5.put1 _, H4.out.2.1.keeps hk6 (by omega), H4.out.2.2.1.trans (hk6.below H4.out.2.2.1.size (fun k e => by omega)), hk6.row H4.out.2.2.2 (fun g e => by have := (H4.out.2.2.2.lt g e).1; omega)⟩)
    have HQ5 := Lib.hid hq5
    obtain ⟨d0, d1⟩ := H4.out.1.cells
    have e0 := H4.out.1.marks 0
    have e1 := H4.out.1.marks 1
    have HW5 := Lib.hid hw5
    have HW6 := Lib.hid hw6
    have HL := Lib.hid hN
    clear hk5 hk6 hq5 o4 hb4 q0 q1 HO H1 hw5 hw6 hN HZ4
    go_upto_region 6 with fail
    rw [← HW5.out]
    clear HW5 d0 d1 e0 e1 H4
    obtain ⟨d0, d1⟩ := HQ5.out.cells
    have e1 := HQ5.out.marks 1
    go_upto_region 7 with fail
    rw [← HW6.out]
    clear HW6 d0 d1 e1 HQ5
    obtain ⟨q0, q1⟩ := H6.out.1.cells
    have hr7 := H6.out.2.1
    obtain ⟨r0, r1⟩ := hr7.cells
    have m0 := hr7.marks 0
    have m1 := hr7.marks 1
    obtain ⟨w8, hw8⟩ : ∃ X : World, X = (w6.setCell ⟨W.heap.size + 1, 0, none⟩ (.slice p4 n c4)).setCell ⟨W.heap.size + 1, 1, none⟩ (.int .u64 x) := ⟨_, rfl⟩
    have hk8 : Keeps (fun k => k = W.heap.size + 1) w6 w8 := by rw [hw8]; exact QBox.putK _ _ _ _
    have H8 := Lib.hid (show QBox w8 (W.heap.size + 1) (.slice p4 n c4) x ∧ w8.ownsRow (W.heap.size + 2) 53 2 (.slice p4 n c4) n (cvs l) ∧ Below W.heap.size W w8 from ⟨by rw [hw8]; exact hr7.put _ _, hk8.row H6.out.2.2.2 (fun g e => by have := (H6.out.2.2.2.lt g e).1; omega), H6.out.2.2.1.trans (hk8.below H6.out.2.2.1.size (fun k e => by omega))⟩)
    have HW8 := Lib.hid hw8
    clear hr7 hw8 hk8 H6
    go_wp2
    rw [← HW8.out]
    refine bodyPost_ret (results_ct rfl _ _ _ rfl rfl (queue_load H8.out.1)) rfl ⟨.inl ⟨HE.out, ⟨_, rfl, ?_⟩⟩, H8.out.2.2⟩
    rw [HL.out]
    exact H8.out.2.1.mono (by omega)

end Go.Proofs.Ytdagcimkajmkaaa
/-
  Package queue: the segments of a queue; slices.Equal at rows of words.
  Conditions: the ranges of Go's types.
-/
namespace Go.Proofs.Ytdagcimkajmkaaa
set_option maxRecDepth 100000
open Go.RowKit Go.Shelf
attribute [local go_sem] Oper.semAt_some

set_option maxHeartbeats 4000000 in
theorem equalW_c (v0 v1 : Value) (xs ys : List Int) (W : World) (hv0 : NumsAt W .u64 v0 xs) (hv1 : NumsAt W .u64 v1 ys) (hl0 : xs.length ≤ 9223372036854775807) (hl1 : ys.length ≤ 9223372036854775807) :
    Calls Try.prog 18 #[v0, v1] W fun e w' => e = .returned (.bool (decide (xs = ys))) ∧ Below W.heap.size W w' := by
  obtain ⟨p0, cap0, rfl, hc0⟩ := hv0
  obtain ⟨p1, cap1, rfl, hc1⟩ := hv1
  go_enter Try.func18, Try.ntmps18
  by_cases hlen : xs.length = ys.length
  · have hne : ((xs.length : Int) != (ys.length : Int)) = false := by rw [bne_eq_false_iff_eq]; omega
    have HL := Lib.hid hlen
    clear hlen
    go_wp2
    clear hne
    go_loopw [13] (fun iv wr => ∃ i : Nat, i ≤ xs.length ∧ iv = .int .i64 i ∧ xs.take i = ys.take i ∧ Below W.heap.size W wr) (fun iv _ => xs.length - (intOf iv).toNat)
    case atStart => exact ⟨0, Nat.zero_le _, rfl, rfl, Below.refl _ _⟩
    case round =>
      obtain ⟨i, hi, rfl, heq, hB⟩ := hrel
      by_cases hlt : i < xs.length
      · obtain ⟨b0, off0, rfl, hcs0⟩ := hc0 (by intro e; rw [e] at hlt; cases hlt)
        have hlt1 : i < ys.length := by have := HL.out; omega
        obtain ⟨b1, off1, rfl, hcs1⟩ := hc1 (by intro e; rw [e] at hlt1; cases hlt1)
        have hx := hcs0 i hlt
        have hy := hcs1 i hlt1
        have ha := List.take_succ_eq_append_getElem hlt
        have hb := List.take_succ_eq_append_getElem hlt1
        obtain ⟨x, hxe⟩ : ∃ x, x = xs[i] := ⟨_, rfl⟩
        obtain ⟨y, hye⟩ : ∃ y, y = ys[i] := ⟨_, rfl⟩
        rw [← hxe] at hx ha
        rw [← hye] at hy hb
        have hx' := (hB.cell (World.block_lt_of_cell? W _ hx)).trans hx
        have hy' := (hB.cell (World.block_lt_of_cell? W _ hy)).trans hy
        have HE := Lib.hid heq
        have HA := Lib.hid ha
        have HB := Lib.hid hb
        have HXY := Lib.hid (And.intro hxe hye)
        clear hx hy hcs0 hcs1 heq ha hb hxe hye
        by_cases hxy : x = y
        · subst hxy
          go_wp2
          go_quiet (fail)
          go_wp2
          all_goals
            go_roundw
            case rel => exact ⟨i + 1, by omega, by go_num, by rw [HA.out, HB.out, HE.out], below_drewN hB _⟩
            case measure => simp [intOf]; omega
        · have hne : (x != y) = true := by rw [bne_iff_ne]; exact hxy
          have hr : decide (xs = ys) = false := by
            rw [decide_eq_false_iff_not]
            intro e
            subst e
            exact hxy (HXY.out.1.trans HXY.out.2.symm)
          have HR := Lib.hid hr
          clear hr hxy
          go_wp2
          go_quiet (fail)
          go_wp2
          all_goals go_ret
          all_goals exact ⟨ret_bool HR.out.symm, below_drewN hB _⟩
      · have heq2 : xs = ys := by rwa [List.take_of_length_le (by omega), List.take_of_length_le (by have := HL.out; omega)] at heq
        have HE := Lib.hid heq2
        clear heq heq2
        go_wp2
        go_ret
        exact ⟨ret_bool (by simp [HE.out]), hB⟩
  · have hne : ((xs.length : Int) != (ys.length : Int)) = true := by rw [bne_iff_ne]; omega
    have hr : decide (xs = ys) = false := by rw [decide_eq_false_iff_not]; intro e; rw [e] at hlen; exact hlen rfl
    have HR := Lib.hid hr
    clear hr hlen
    go_wp2
    go_ret
    exact ⟨ret_bool HR.out.symm, Below.refl _ _⟩


/-- The segment of a period. -/
def segB (over p : Int) : Nat := if over + 1 < p then 2 else if over < p then 1 else 0
set_option maxHeartbeats 4000000 in
theorem segment_c (over p : Int) (W : World) (h0 : 0 ≤ over) (h1 : over ≤ 9223372036854775806) :
    Calls Try.prog 29 #[.int .u64 over, .int .u64 p] W fun e w' => e = .returned (.int .i64 (segB over p : Int)) ∧ w' = W := by
  have hwr : IntKind.u64.wrap (over + 1) = over + 1 := wrap_u64 _ (by omega) (by omega)
  by_cases h2 : over + 1 < p
  · have HE := Lib.hid (show segB over p = 2 from if_pos h2)
    go_enter Try.func29, Try.ntmps29
    go_wp2
    go_ret
    exact ⟨by rw [HE.out]; rfl, rfl⟩
  · by_cases h3 : over < p
    · have HE := Lib.hid (show segB over p = 1 by unfold segB; rw [if_neg h2, if_pos h3])
      have h2' : p ≤ over + 1 := by omega
      clear h2
      go_enter Try.func29, Try.ntmps29
      go_wp2
      go_ret
      exact ⟨by rw [HE.out]; rfl, rfl⟩
    · have HE := Lib.hid (show segB over p = 0 by unfold segB; rw [if_neg h2, if_neg h3])
      have h2' : p ≤ over + 1 := by omega
      have h3' : p ≤ over := by omega
      clear h2 h3
      go_enter Try.func29, Try.ntmps29
      go_wp2
      go_ret
      exact ⟨by rw [HE.out]; rfl, rfl⟩

/-- How many are of this segment. -/
def segN (over : Int) (j : Nat) (l : List (Int × Int)) : Nat := (l.filter fun c => segB over c.1 == j).length
theorem segN_snoc (over : Int) (j : Nat) (l : List (Int × Int)) (c : Int × Int) : segN over j (l ++ [c]) = segN over j l + if segB over c.1 = j then 1 else 0 := by
  unfold segN
  rw [List.filter_append, List.length_append]
  by_cases h : segB over c.1 = j <;> simp [h]
theorem segN_le (over : Int) (j : Nat) (l : List (Int × Int)) : segN over j l ≤ l.length := List.length_filter_le _ _
def SgB (W : World) (z : Nat) (a b c : Int) : Prop := W.heap[z]? = some (.cells #[.int .i64 a, .int .i64 b, .int .i64 c] 48 (0, 0))
theorem SgB.cells {W : World} {z : Nat} {a b c : Int} (h : SgB W z a b c) : W.cell? ⟨z, 0, none⟩ = some (.int .i64 a) ∧ W.cell? ⟨z, 1, none⟩ = some (.int .i64 b) ∧ W.cell? ⟨z, 2, none⟩ = some (.int .i64 c) := by
  have h' : W.heap[z]? = _ := h
  simp [World.cell?, h']
theorem SgB.marks {W : World} {z : Nat} {a b c : Int} (h : SgB W z a b c) (i : Nat) : W.frozen? ⟨z, i, none⟩ = false := by
  have h' : W.heap[z]? = _ := h
  simp [World.frozen?, h']
theorem SgB.lt {W : World} {z : Nat} {a b c : Int} (h : SgB W z a b c) : z < W.heap.size := (Array.getElem?_eq_some_iff.1 h).1
theorem SgB.below {W W' : World} {z : Nat} {a b c : Int} (h : SgB W z a b c) (hb : Below W.heap.size W W') : SgB W' z a b c := (hb.block z h.lt).trans h
theorem SgB.keeps {S : Nat → Prop} {W W' : World} {z : Nat} {a b c : Int} (h : SgB W z a b c) (hk : Keeps S W W') (hz : ¬ S z) : SgB W' z a b c := (hk.block z h.lt hz).trans h
theorem SgB.new (W : World) (a b c : Int) : SgB (W.alloc (.cells #[.int .i64 a, .int .i64 b, .int .i64 c] 48)) W.heap.size a b c := World.alloc_heap_new W _
theorem SgB.put0 {W : World} {z : Nat} {a b c : Int} (h : SgB W z a b c) (x : Int) : SgB (W.setCell ⟨z, 0, none⟩ (.int .i64 x)) z x b c := by
  unfold SgB; rw [heap_setCell_same W z 0 _ _ (.int .i64 x) h]; rfl
theorem SgB.put1 {W : World} {z : Nat} {a b c : Int} (h : SgB W z a b c) (x : Int) : SgB (W.setCell ⟨z, 1, none⟩ (.int .i64 x)) z a x c := by
  unfold SgB; rw [heap_setCell_same W z 1 _ _ (.int .i64 x) h]; rfl
theorem SgB.put2 {W : World} {z : Nat} {a b c : Int} (h : SgB W z a b c) (x : Int) : SgB (W.setCell ⟨z, 2, none⟩ (.int .i64 x)) z a b x := by
  unfold SgB; rw [heap_setCell_same W z 2 _ _ (.int .i64 x) h]; rfl
theorem seg_load {W : World} {z : Nat} {a b c : Int} (h : SgB W z a b c) : (loadVar 48 ⟨z, 0, none⟩).run Try.prog W = .ok (.agg #[.int .i64 a, .int .i64 b, .int .i64 c]) W := by
  obtain ⟨h0, h1, h2⟩ := h.cells
  simp [go_sem, h0, h1, h2]
/-- What Segments answers. -/
def segV (over : Int) (l : List (Int × Int)) : Value := if mayB over l = true then .agg #[.int .i64 (segN over 0 l : Int), .int .i64 (segN over 1 l : Int), .int .i64 (segN over 2 l : Int)] else .agg #[.int .i64 0, .int .i64 0, .int .i64 0]
/-- Between two rounds. -/
structure SgI (W : World) (v : Value) (over : Int) (l : List (Int × Int)) (i : Nat) (w : World) : Prop where
  q : QBox w W.heap.size v over
  r : SgB w (W.heap.size + 1) 0 0 0
  s : SgB w (W.heap.size + 2) (segN over 0 (l.take i) : Int) (segN over 1 (l.take i) : Int) (segN over 2 (l.take i) : Int)
  cb : CbOut (fun q => W.heap.size ≤ q) w v l
  b : Below W.heap.size W w
  z : W.heap.size + 3 ≤ w.heap.size

set_option maxHeartbeats 16000000 in
theorem segments_c (v : Value) (over : Int) (l : List (Int × Int)) (W : World) (hv : CbOut NoS W v l) (ho : 0 ≤ over) :
    Calls Try.prog 20 #[.agg #[v, .int .u64 over]] W fun e w' => e = .returned (segV over l) ∧ Below W.heap.size W w' := by
  obtain ⟨w0, hw0⟩ : ∃ X : World, X = ((W.alloc (.cells #[v, .int .u64 over] 25)).alloc (.cells #[.int .i64 0, .int .i64 0, .int .i64 0] 48)).alloc (.cells #[.int .i64 0, .int .i64 0, .int .i64 0] 48) := ⟨_, rfl⟩
  have hb0 : Below W.heap.size W w0 := by rw [hw0]; exact below3 _ _ _ _
  have HI0 := Lib.hid (show SgI W v over l 0 w0 from ⟨by rw [hw0]; exact ((QBox.new W _ _).below (below1 _ _)).below (below1 _ _), by
      rw [hw0]
      have := (SgB.new (W.alloc (.cells #[v, .int .u64 over] 25)) 0 0 0).below (below1 _ (.cells #[.int .i64 0, .int .i64 0, .int .i64 0] 48))
      rwa [World.size_alloc] at this, by
      rw [hw0]
      have := SgB.new ((W.alloc (.cells #[v, .int .u64 over] 25)).alloc (.cells #[.int .i64 0, .int .i64 0, .int .i64 0] 48)) 0 0 0
      rw [World.size_alloc, World.size_alloc] at this
      exact this, (hv.apart (T := fun q => W.heap.size ≤ q) (fun q h => .inr h)).below hb0, hb0, by rw [hw0]; simp⟩)
  have HM := Lib.hid (may_c v over l w0 (HI0.out.cb.sub (fun q h => h.elim)) ho)
  obtain ⟨p, c, rfl, hlc, hcm, -⟩ := hv
  obtain ⟨V, hV⟩ : ∃ V, V = segV over l := ⟨_, rfl⟩
  rw [← hV]
  have HV := Lib.hid hV
  have HW0 := Lib.hid hw0
  obtain ⟨q0, q1⟩ := HI0.out.q.cells
  rw [hw0] at q0 q1
  clear hw0 hb0 hV
  go_enter Try.func20, Try.ntmps20
  go_wp2_with fail
  rw [← HW0.out]
  clear HW0 q0 q1
  (with_reducible refine HM.out.mono ?_)
  rintro e w1 ⟨rfl, hb1⟩
  have HI1 := Lib.hid (show SgI W (.slice p l.length c) over l 0 w1 from ⟨HI0.out.q.below hb1, HI0.out.r.below hb1, HI0.out.s.below hb1, HI0.out.cb.below hb1, below_then HI0.out.b HI0.out.b.size hb1, by have := HI0.out.z; have := hb1.size; omega⟩)
  clear hb1 HI0 HM
  cases hm : mayB over l with
  | false =>
    have HE := Lib.hid (show V = .agg #[.int .i64 0, .int .i64 0, .int .i64 0] by rw [HV.out]; unfold segV; rw [hm]; rfl)
    obtain ⟨s0, s1, s2⟩ := HI1.out.s.cells
    obtain ⟨r0, r1, r2⟩ := HI1.out.r.cells
    have m0 := HI1.out.r.marks 0
    have m1 := HI1.out.r.marks 1
    have m2 := HI1.out.r.marks 2
    have HQ := Lib.hid (show SgB (((w1.setCell ⟨W.heap.size + 1, 0, none⟩ (.int .i64 0)).setCell ⟨W.heap.size + 1, 1, none⟩ (.int .i64 0)).setCell ⟨W.heap.size + 1, 2, none⟩ (.int .i64 0)) (W.heap.size + 1) 0 0 0 ∧ Below W.heap.size W (((w1.setCell ⟨W.heap.size + 1, 0, none⟩ (.int .i64 0)).setCell ⟨W.heap.size + 1, 1, none⟩ (.int .i64 0)).setCell ⟨W.heap.size + 1, 2, none⟩ (.int .i64 0)) from
      ⟨((HI1.out.r.put0 0).put1 0).put2 0, HI1.out.b.trans ((((set1K w1 (W.heap.size + 1) 0 _).trans (set1K _ (W.heap.size + 1) 1 _)).trans (set1K _ (W.heap.size + 1) 2 _)).below HI1.out.b.size (fun k e => by omega))⟩)
    go_wp2
    exact bodyPost_ret (results_cell1 rfl _ _ _ rfl (seg_load HQ.out.1)) rfl ⟨by rw [HE.out], HQ.out.2⟩
  | true =>
    obtain ⟨hg1, hg2, hup⟩ := may_parts hm
    have HE := Lib.hid (show V = .agg #[.int .i64 (segN over 0 l : Int), .int .i64 (segN over 1 l : Int), .int .i64 (segN over 2 l : Int)] by rw [HV.out]; unfold segV; rw [hm]; rfl)
    obtain ⟨n, hn⟩ : ∃ n, n = l.length := ⟨_, rfl⟩
    rw [← hn] at HI1 hlc hg2 ⊢
    have HN := Lib.hid hn
    obtain ⟨q0, q1⟩ := HI1.out.q.cells
    clear hm hup hn
    go_wp2
    clear q0 q1
    go_loopw [13] (fun iv wr => ∃ i : Nat, i ≤ n ∧ iv = .int .i64 (i : Int) ∧ Hid (SgI W (.slice p n c) over l i wr)) (fun iv _ => n - (intOf iv).toNat)
    case atStart => exact ⟨0, Nat.zero_le _, rfl, HI1⟩
    case round =>
      clear HI1
      obtain ⟨i, hi, rfl, HX⟩ := hrel
      by_cases hlt : i < n
      · have hil : i < l.length := by have := HN.out; omega
        have hne : l ≠ [] := by rintro rfl; simp at hil
        obtain ⟨p', cap', e, -, -, hc⟩ := HX.out.cb
        injection e with e1 e2 e3
        subst e1 e3
        obtain ⟨b, off, rfl, -, hcs⟩ := hc hne
        obtain ⟨hx, hy⟩ := hcs i hil
        have htk := List.take_succ_eq_append_getElem hil
        obtain ⟨x, hxe⟩ : ∃ x, x = l[i].1 := ⟨_, rfl⟩
        obtain ⟨y, hye⟩ : ∃ y, y = l[i].2 := ⟨_, rfl⟩
        have hxy : l[i] = (x, y) := by rw [hxe, hye]
        rw [hxy] at htk
        rw [← hxe] at hx
        rw [← hye] at hy
        have hbl := World.block_lt_of_cell? wr _ hx
        obtain ⟨w2, hw2⟩ : ∃ X : World, X = wr.alloc (.cells #[.int .u64 x, .int .u64 y] 53) := ⟨_, rfl⟩
        have hb2 : Below wr.heap.size wr w2 := by rw [hw2]; exact below1 _ _
        have HC2 := Lib.hid (show CBox w2 wr.heap.size x y by rw [hw2]; exact CBox.new wr x y)
        have HX2 := Lib.hid (show SgI W (.slice (some ⟨b, off, none⟩) n c) over l i w2 from ⟨HX.out.q.below hb2, HX.out.r.below hb2, HX.out.s.below hb2, HX.out.cb.below hb2, below_then HX.out.b HX.out.b.size hb2, by have := HX.out.z; have := hb2.size; omega⟩)
        have hs0 := segN_snoc over 0 (l.take i) (x, y)
        have hs1 := segN_snoc over 1 (l.take i) (x, y)
        have hs2 := segN_snoc over 2 (l.take i) (x, y)
        rw [← htk] at hs0 hs1 hs2
        have HS := Lib.hid (And.intro hs0 (And.intro hs1 hs2))
        have HLE := Lib.hid (show (l.take i).length ≤ 16 by rw [List.length_take]; omega)
        have HW2 := Lib.hid hw2
        have hi0 : (0 : Int) ≤ (i : Int) := by omega
        have hlt' : (i : Int) < (n : Int) := by omega
        clear hc hcs htk hxe hye hxy hne e2 hw2 hb2 hs0 hs1 hs2
        go_upto_region 7 with fail
        rw [← HW2.out]
        clear HW2 hx hy hbl
        obtain ⟨cz, hcz⟩ : ∃ z, z = wr.heap.size := ⟨_, rfl⟩
        rw [← hcz] at HC2 ⊢
        clear hcz
        obtain ⟨q0, q1⟩ := HX2.out.q.cells
        obtain ⟨k0, k1⟩ := HC2.out.cells
        go_wp2_with fail
        (with_reducible refine (segment_c over x w2 ho hg1).mono ?_)
        rintro e w3 ⟨rfl, rfl⟩
        obtain ⟨g, hg⟩ : ∃ g, g = segB over x := ⟨_, rfl⟩
        rw [← hg]
        have hg3 : g = 0 ∨ g = 1 ∨ g = 2 := by rw [hg]; unfold segB; split; omega; split <;> omega
        have HG := Lib.hid hg
        obtain ⟨s0, s1, s2⟩ := HX2.out.s.cells
        have m0 := HX2.out.s.marks 0
        have m1 := HX2.out.s.marks 1
        have m2 := HX2.out.s.marks 2
        clear hg
        have hwr : ∀ j, IntKind.i64.wrap ((segN over j (l.take i) : Int) + 1) = (segN over j (l.take i) : Int) + 1 := fun j => by
          have h1 := segN_le over j (l.take i)
          have h2 := HLE.out
          rw [IntKind.wrap_i64]
          omega
        rcases hg3 with rfl | rfl | rfl
        · have hn0 : segN over 0 (l.take (i + 1)) = segN over 0 (l.take i) + 1 := by rw [HS.out.1]; rw [← HG.out]; rfl
          have hn1 : segN over 1 (l.take (i + 1)) = segN over 1 (l.take i) + 0 := by rw [HS.out.2.1]; rw [← HG.out]; rfl
          have hn2 : segN over 2 (l.take (i + 1)) = segN over 2 (l.take i) + 0 := by rw [HS.out.2.2]; rw [← HG.out]; rfl
          have hk := set1K w3 (W.heap.size + 2) 0 (.int .i64 ((segN over 0 (l.take i) : Int) + 1))
          have HX4 := Lib.hid (show SgI W (.slice (some ⟨b, off, none⟩) n c) over l (i + 1) (w3.setCell ⟨W.heap.size + 2, 0, none⟩ (.int .i64 ((segN over 0 (l.take i) : Int) + 1))) from ⟨HX2.out.q.keeps hk (by omega), HX2.out.r.keeps hk (by omega), by
            have h := HX2.out.s.put0 ((segN over 0 (l.take i) : Int) + 1)
            rw [hn0, hn1, hn2]
            exact h, HX2.out.cb.keeps (hk.sub (fun k _ e => by omega)), HX2.out.b.trans (hk.below HX2.out.b.size (fun k e => by omega)), by have := HX2.out.z; have := hk.size; omega⟩)
          clear hn0 hn1 hn2 hk
          go_wp2
          go_roundw
          case rel => exact ⟨i + 1, by omega, by go_num, HX4⟩
          case measure => simp [intOf]; omega
        · have hn0 : segN over 0 (l.take (i + 1)) = segN over 0 (l.take i) + 0 := by rw [HS.out.1]; rw [← HG.out]; rfl
          have hn1 : segN over 1 (l.take (i + 1)) = segN over 1 (l.take i) + 1 := by rw [HS.out.2.1]; rw [← HG.out]; rfl
          have hn2 : segN over 2 (l.take (i + 1)) = segN over 2 (l.take i) + 0 := by rw [HS.out.2.2]; rw [← HG.out]; rfl
          have hk := set1K w3 (W.heap.size + 2) 1 (.int .i64 ((segN over 1 (l.take i) : Int) + 1))
          have HX4 := Lib.hid (show SgI W (.slice (some ⟨b, off, none⟩) n c) over l (i + 1) (w3.setCell ⟨W.heap.size + 2, 1, none⟩ (.int .i64 ((segN over 1 (l.take i) : Int) + 1))) from ⟨HX2.out.q.keeps hk (by omega), HX2.out.r.keeps hk (by omega), by
            have h := HX2.out.s.put1 ((segN over 1 (l.take i) : Int) + 1)
            rw [hn0, hn1, hn2]
            exact h, HX2.out.cb.keeps (hk.sub (fun k _ e => by omega)), HX2.out.b.trans (hk.below HX2.out.b.size (fun k e => by omega)), by have := HX2.out.z; have := hk.size; omega⟩)
          clear hn0 hn1 hn2 hk
          go_wp2
          go_roundw
          case rel => exact ⟨i + 1, by omega, by go_num, HX4⟩
          case measure => simp [intOf]; omega
        · have hn0 : segN over 0 (l.take (i + 1)) = segN over 0 (l.take i) + 0 := by rw [HS.out.1]; rw [← HG.out]; rfl
          have hn1 : segN over 1 (l.take (i + 1)) = segN over 1 (l.take i) + 0 := by rw [HS.out.2.1]; rw [← HG.out]; rfl
          have hn2 : segN over 2 (l.take (i + 1)) = segN over 2 (l.take i) + 1 := by rw [HS.out.2.2]; rw [← HG.out]; rfl
          have hk := set1K w3 (W.heap.size + 2) 2 (.int .i64 ((segN over 2 (l.take i) : Int) + 1))
          have HX4 := Lib.hid (show SgI W (.slice (some ⟨b, off, none⟩) n c) over l (i + 1) (w3.setCell ⟨W.heap.size + 2, 2, none⟩ (.int .i64 ((segN over 2 (l.take i) : Int) + 1))) from ⟨HX2.out.q.keeps hk (by omega), HX2.out.r.keeps hk (by omega), by
            have h := HX2.out.s.put2 ((segN over 2 (l.take i) : Int) + 1)
            rw [hn0, hn1, hn2]
            exact h, HX2.out.cb.keeps (hk.sub (fun k _ e => by omega)), HX2.out.b.trans (hk.below HX2.out.b.size (fun k e => by omega)), by have := HX2.out.z; have := hk.size; omega⟩)
          clear hn0 hn1 hn2 hk
          go_wp2
          go_roundw
          case rel => exact ⟨i + 1, by omega, by go_num, HX4⟩
          case measure => simp [intOf]; omega
      · have hin : i = n := by omega
        have htk : l.take i = l := by rw [hin, HN.out, List.take_length]
        have hs := HX.out.s
        rw [htk] at hs
        obtain ⟨s0, s1, s2⟩ := hs.cells
        obtain ⟨r0, r1, r2⟩ := HX.out.r.cells
        have m0 := HX.out.r.marks 0
        have m1 := HX.out.r.marks 1
        have m2 := HX.out.r.marks 2
        obtain ⟨w4, hw4⟩ : ∃ X : World, X = ((wr.setCell ⟨W.heap.size + 1, 0, none⟩ (.int .i64 (segN over 0 l : Int))).setCell ⟨W.heap.size + 1, 1, none⟩ (.int .i64 (segN over 1 l : Int))).setCell ⟨W.heap.size + 1, 2, none⟩ (.int .i64 (segN over 2 l : Int)) := ⟨_, rfl⟩
        have HQ := Lib.hid (show SgB w4 (W.heap.size + 1) (segN over 0 l) (segN over 1 l) (segN over 2 l) ∧ Below W.heap.size W w4 by
          rw [hw4]
          exact ⟨((HX.out.r.put0 _).put1 _).put2 _, HX.out.b.trans ((((set1K wr (W.heap.size + 1) 0 _).trans (set1K _ (W.heap.size + 1) 1 _)).trans (set1K _ (W.heap.size + 1) 2 _)).below HX.out.b.size (fun k e => by omega))⟩)
        have HW4 := Lib.hid hw4
        clear hin htk hs hw4
        go_wp2
        rw [← HW4.out]
        exact bodyPost_ret (results_cell1 rfl _ _ _ rfl (seg_load HQ.out.1)) rfl ⟨by rw [HE.out], HQ.out.2⟩

end Go.Proofs.Ytdagcimkajmkaaa
/-
  Package queue: take, the method by which a callback goes out of a drained queue.
  Conditions: there is one.
-/
namespace Go.Proofs.Ytdagcimkajmkaaa
set_option maxRecDepth 100000
open Go.RowKit Go.Shelf
attribute [local go_sem] Oper.semAt_some

/-- What box a drained queue lies in. -/
def DrB (W : World) (z : Nat) (v : Value) (over : Int) (u : Value) : Prop := W.heap[z]? = some (.cells #[v, .int .u64 over, u] 61 (0, 0))
theorem DrB.cells {W : World} {z : Nat} {v u : Value} {o : Int} (h : DrB W z v o u) : W.cell? ⟨z, 0, none⟩ = some v ∧ W.cell? ⟨z, 1, none⟩ = some (.int .u64 o) ∧ W.cell? ⟨z, 2, none⟩ = some u := by
  have h' : W.heap[z]? = _ := h
  simp [World.cell?, h']
theorem DrB.marks {W : World} {z : Nat} {v u : Value} {o : Int} (h : DrB W z v o u) (i : Nat) : W.frozen? ⟨z, i, none⟩ = false := by
  have h' : W.heap[z]? = _ := h
  simp [World.frozen?, h']
theorem DrB.lt {W : World} {z : Nat} {v u : Value} {o : Int} (h : DrB W z v o u) : z < W.heap.size := (Array.getElem?_eq_some_iff.1 h).1
theorem DrB.below {W W' : World} {z : Nat} {v u : Value} {o : Int} (h : DrB W z v o u) (hb : Below W.heap.size W W') : DrB W' z v o u := (hb.block z h.lt).trans h
theorem DrB.keeps {S : Nat → Prop} {W W' : World} {z : Nat} {v u : Value} {o : Int} (h : DrB W z v o u) (hk : Keeps S W W') (hz : ¬ S z) : DrB W' z v o u := (hk.block z h.lt hz).trans h
theorem DrB.put2 {W : World} {z : Nat} {v u : Value} {o : Int} (h : DrB W z v o u) (u' : Value) : DrB (W.setCell ⟨z, 2, none⟩ u') z v o u' := by
  have h0 := heap_setCell_same W z 2 _ _ u' h
  unfold DrB
  rw [h0]
  rfl
theorem DrB.put0 {W : World} {z : Nat} {v u : Value} {o : Int} (h : DrB W z v o u) (v' : Value) : DrB (W.setCell ⟨z, 0, none⟩ v') z v' o u := by
  have h0 := heap_setCell_same W z 0 _ _ v' h
  unfold DrB
  rw [h0]
  rfl
/-- A row of callbacks behind its first one. -/
def nextA (p : Option Addr) (n : Nat) : Option Addr := if n = 1 then p else p.map (·.add 2)
theorem run_next (p : Option Addr) (n c : Nat) (h : 1 ≤ n) (hc : n ≤ c) (wx : World) :
    (Instr.slice 22 (.slice p n c) (some (.int .i64 1)) (some (.int .i64 (n : Int))) (some (.int .i64 (n : Int)))).run Try.prog wx = .ok (.slice (nextA p n) (n - 1) (n - 1)) wx := by
  rw [run_slice_lhm wx 22 p n c Try.underlying22 .i64 .i64 .i64 1 (n : Int) (n : Int) (by omega) (by omega) (by omega) (by omega)]
  have hE : (sizeOf (Try.prog.elem 22)).run Try.prog wx = .ok 2 wx := by go_simp
  rw [hE]
  simp [sliced, Result.andThen, nextA]
theorem info_w : (Try.prog.info? 23).map (fun i => (i.zero, i.size, i.bytes)) = some (some (.int .u64 0), 1, 8) := by kernel_rfl

/-- Behind take. -/
def TakeQ (z B : Nat) (p : Option Addr) (n : Nat) (over : Int) (m : Nat) (ws : List Int) (x : Int) (u : Value) (e : Ending) (W w' : World) : Prop :=
  e = .returned (.tuple #[]) ∧ ∃ q r, DrB w' z (.slice (nextA p n) (n - 1) (n - 1)) over (.slice q (m + 1) r) ∧ w'.ownsRow B 23 1 (.slice q (m + 1) r) (m + 1) ((ws ++ [x]).map (Value.int .u64)) ∧ Keeps (fun k => k = z ∨ some k = u.ownBlock) W w'
theorem take_fin {z B : Nat} {p : Option Addr} {n c : Nat} {over : Int} {wp : Option Addr} {m wc : Nat} {ws : List Int} {x : Int} {W w1 w2 : World} {v' : Value} (hd : DrB W z (.slice p n c) over (.slice wp m wc)) (hz : z < B) (hr : W.ownsRow B 23 1 (.slice wp m wc) m (ws.map (Value.int .u64))) (hw1 : w1 = W.alloc (.cells #[.int .u64 x] 23))
    (ho : w2.ownsRow B 23 1 v' (m + 1) (ws.map (Value.int .u64) ++ [.int .u64 x])) (hg : w1.grownBy w2 (Value.slice wp m wc).ownBlock) :
    ∃ q r, v' = .slice q (m + 1) r ∧ DrB w2 z (.slice p n c) over (.slice wp m wc) ∧ w2.ownsRow B 23 1 (.slice q (m + 1) r) (m + 1) ((ws ++ [x]).map (Value.int .u64)) ∧ Keeps (fun k => some k = (Value.slice wp m wc).ownBlock) W w2 := by
  have e : ws.map (Value.int .u64) ++ [.int .u64 x] = (ws ++ [x]).map (Value.int .u64) := by simp
  rw [e] at ho
  obtain ⟨q, r, rfl⟩ := owns_slice ho
  have hb : Below W.heap.size W w1 := by rw [hw1]; exact below1 _ _
  have hk : Keeps (fun k => some k = (Value.slice wp m wc).ownBlock) w1 w2 := ⟨hg.os, hg.tape, hg.output, hg.size, fun k hk hn => hg.block k hk (fun e => hn e)⟩
  exact ⟨q, r, rfl, (hd.below hb).keeps hk (fun e => by have := (hr.lt z e.symm).1; omega), ho, (Keeps.of_below hb).trans hk⟩

set_option maxHeartbeats 16000000 in
theorem take_c (z B : Nat) (p : Option Addr) (n c : Nat) (over : Int) (wp : Option Addr) (m wc : Nat) (ws : List Int) (x : Int) (W : World) (hd : DrB W z (.slice p n c) over (.slice wp m wc)) (hz : z < B) (hB : B ≤ W.heap.size) (hr : W.ownsRow B 23 1 (.slice wp m wc) m (ws.map (Value.int .u64))) (h1 : 1 ≤ n) (hc : n ≤ c) (_ : c ≤ 9223372036854775807) (hm : m ≤ 1000) :
    Calls Try.prog 34 #[.pointer (some ⟨z, 0, none⟩), .int .u64 x] W fun e w' => TakeQ z B p n over m ws x (.slice wp m wc) e W w' := by
  obtain ⟨i0, hi, hz0, hz1, hz2⟩ := info_parts info_w
  obtain ⟨w1, hw1⟩ : ∃ X : World, X = W.alloc (.cells #[.int .u64 x] 23) := ⟨_, rfl⟩
  have HI := Lib.hid (And.intro hi (And.intro hz0 (And.intro hz1 hz2)))
  have HF := Lib.hid (fun (w2 : World) (v' : Value) => take_fin (w1 := w1) (w2 := w2) (v' := v') (x := x) hd hz hr hw1)
  have hd1 : DrB w1 z (.slice p n c) over (.slice wp m wc) := by rw [hw1]; exact hd.below (below1 _ _)
  have hr1 : w1.ownsRow B 23 1 (.slice wp m wc) m (ws.map (Value.int .u64)) := by rw [hw1]; exact owns_below hr (below1 _ _)
  have hB1 : B ≤ w1.heap.size := by rw [hw1, World.size_alloc]; omega
  have hx1 : ∀ j u, ([.int .u64 x] : List Value)[j]? = some u → w1.cell? ((⟨W.heap.size, 0, none⟩ : Addr).add j) = some u := by rw [hw1]; exact cell_one_new _ _ _
  have HR1 := Lib.hid (And.intro hr1 (And.intro hB1 hx1))
  obtain ⟨d0, d1, d2⟩ := hd.cells
  obtain ⟨d0', d1', d2'⟩ := hd1.cells
  have m2 := hd1.marks 2
  have HZB := Lib.hid (And.intro hz hm)
  have hsl := run_next p n c h1 hc
  have HW1 := Lib.hid hw1
  clear hi hz0 hz1 hz2 hd hd1 hr hr1 hB hB1 hx1 hw1 hz
  go_enter Try.func34, Try.ntmps34
  go_upto_region 1 with (at_builtin; rw [← HW1.out]; refine wpList_append_own _ rfl _ _ 26 rfl B 23 i0 (.int .u64 0) 1 8 Try.underlying26 HI.out.1 HI.out.2.1 HI.out.2.2.1 HI.out.2.2.2 rfl (by decide) (.slice wp m wc) m (ws.map (Value.int .u64)) rfl HR1.out.1 ⟨W.heap.size, 0, none⟩ 1 1 [.int .u64 x] rfl rfl HR1.out.2.2 (fun y hy => by rw [List.mem_singleton.1 hy]; rfl) (by have := HZB.out.2; unfold maxLen; omega) (by have := HZB.out.2; omega) HR1.out.2.1 ?_; intro v' w2 hown' hgrow _; obtain ⟨q, r, rfl, hd2, ho2, hk2⟩ := HF.out w2 v' hown' hgrow; have f2 := hd2.marks 2; have f2' := hd2.cells.2.2; have HD2 := Lib.hid (And.intro hd2 (And.intro ho2 hk2)); clear hown' hgrow hd2 ho2 hk2)
  clear d0 d1 d2 d0' d1' d2' m2 HR1 HI HF f2 f2'
  obtain ⟨w3, hw3⟩ : ∃ X : World, X = w2.setCell ⟨z, 2, none⟩ (.slice q (m + 1) r) := ⟨_, rfl⟩
  rw [← hw3]
  have hk3 : Keeps (fun k => k = z) w2 w3 := by rw [hw3]; exact set1K _ _ 2 _
  have H3 := Lib.hid (show DrB w3 z (.slice p n c) over (.slice q (m + 1) r) ∧ w3.ownsRow B 23 1 (.slice q (m + 1) r) (m + 1) ((ws ++ [x]).map (Value.int .u64)) ∧ Keeps (fun k => k = z ∨ some k = (Value.slice wp m wc).ownBlock) W w3 from ⟨by rw [hw3]; exact HD2.out.1.put2 _, hk3.row HD2.out.2.1 (fun g e => by have := (HD2.out.2.1.lt g e).1; have := HZB.out.1; omega), (HD2.out.2.2.sub (fun k _ h => .inr h)).trans (hk3.sub (fun k _ h => .inl h))⟩)
  clear hw3 hk3 HD2
  refine wpTwo_begin (T := fun _ => True) (S := fun w' => DrB w' z (.slice p n c) over (.slice q (m + 1) r)) (late := fun j => [22].contains j) (by kernel_rfl) ?_
  obtain ⟨X, hX⟩ : ∃ Y : World, Y = w3.drew := ⟨_, rfl⟩
  rw [← hX]
  have hbx : Below w3.heap.size w3 X := by rw [hX]; exact (Below.refl _ _).drew
  clear hX
  have hT0 := H3.out.1.below hbx
  have HX := Lib.hid (show X.ownsRow B 23 1 (.slice q (m + 1) r) (m + 1) ((ws ++ [x]).map (Value.int .u64)) ∧ Keeps (fun k => k = z ∨ some k = (Value.slice wp m wc).ownBlock) W X from ⟨owns_below H3.out.2.1 hbx, H3.out.2.2.trans (Keeps.of_below hbx)⟩)
  clear hbx H3
  refine wpTwo_takeT (i := 0) (v := .pointer (some ⟨z, 0, none⟩)) rfl (by kernel_rfl) (by kernel_rfl) (by kernel_rfl) (fun _ _ _ h => h) ⟨by rfl, ?_⟩ trivial ?_
  · rintro w -
    go_simp
  (try simp only [Act.put, List.getElem_toArray, List.getElem_cons_zero, List.setIfInBounds_toArray, List.set_cons_succ, List.set_cons_zero])
  refine wpTwo_takeT (i := 1) (v := .pointer (some ⟨z, 0, none⟩)) rfl (by kernel_rfl) (by kernel_rfl) (by kernel_rfl) (fun _ _ _ h => h) ⟨by rfl, ?_⟩ trivial ?_
  · rintro w -
    go_simp
  (try simp only [Act.put, List.getElem_toArray, List.getElem_cons_succ, List.getElem_cons_zero, List.setIfInBounds_toArray, List.set_cons_succ, List.set_cons_zero])
  refine wpTwo_takeT (i := 2) (v := .pointer (some ⟨z, 0, none⟩)) rfl (by kernel_rfl) (by kernel_rfl) (by kernel_rfl) (fun _ _ _ h => h) ⟨by rfl, ?_⟩ trivial ?_
  · rintro w -
    go_simp
  (try simp only [Act.put, List.getElem_toArray, List.getElem_cons_succ, List.getElem_cons_zero, List.setIfInBounds_toArray, List.set_cons_succ, List.set_cons_zero])
  refine wpTwo_takeT (i := 3) (v := .pointer (some ⟨z, 0, none⟩)) rfl (by kernel_rfl) (by kernel_rfl) (by kernel_rfl) (fun _ _ _ h => h) ⟨by rfl, ?_⟩ trivial ?_
  · rintro w -
    go_simp
  (try simp only [Act.put, List.getElem_toArray, List.getElem_cons_succ, List.getElem_cons_zero, List.setIfInBounds_toArray, List.set_cons_succ, List.set_cons_zero])
  refine wpTwo_takeT (i := 4) (v := .pointer (some ⟨z, 0, none⟩)) rfl (by kernel_rfl) (by kernel_rfl) (by kernel_rfl) (fun _ _ _ h => h) ⟨by rfl, ?_⟩ trivial ?_
  · rintro w -
    go_simp
  (try simp only [Act.put, List.getElem_toArray, List.getElem_cons_succ, List.getElem_cons_zero, List.setIfInBounds_toArray, List.set_cons_succ, List.set_cons_zero])
  refine wpTwo_takeS (i := 5) (v := .slice p n c) (waits_all (by kernel_rfl)) rfl (by kernel_rfl) (by kernel_rfl) (by kernel_rfl) (fun _ _ _ h => h) ⟨by rfl, ?_⟩ ⟨trivial, hT0⟩ ?_
  · rintro w ⟨-, hTw⟩
    obtain ⟨t0', t1', t2'⟩ := hTw.cells
    go_simp
  (try simp only [Act.put, List.getElem_toArray, List.getElem_cons_succ, List.getElem_cons_zero, List.setIfInBounds_toArray, List.set_cons_succ, List.set_cons_zero])
  refine wpTwo_takeT (i := 6) (v := .pointer (some ⟨z, 0, none⟩)) rfl (by kernel_rfl) (by kernel_rfl) (by kernel_rfl) (fun _ _ _ h => h) ⟨by rfl, ?_⟩ trivial ?_
  · rintro w -
    go_simp
  (try simp only [Act.put, List.getElem_toArray, List.getElem_cons_succ, List.getElem_cons_zero, List.setIfInBounds_toArray, List.set_cons_succ, List.set_cons_zero])
  refine wpTwo_takeT (i := 7) (v := .pointer (some ⟨z, 0, none⟩)) rfl (by kernel_rfl) (by kernel_rfl) (by kernel_rfl) (fun _ _ _ h => h) ⟨by rfl, ?_⟩ trivial ?_
  · rintro w -
    go_simp
  (try simp only [Act.put, List.getElem_toArray, List.getElem_cons_succ, List.getElem_cons_zero, List.setIfInBounds_toArray, List.set_cons_succ, List.set_cons_zero])
  refine wpTwo_takeT (i := 8) (v := .pointer (some ⟨z, 0, none⟩)) rfl (by kernel_rfl) (by kernel_rfl) (by kernel_rfl) (fun _ _ _ h => h) ⟨by rfl, ?_⟩ trivial ?_
  · rintro w -
    go_simp
  (try simp only [Act.put, List.getElem_toArray, List.getElem_cons_succ, List.getElem_cons_zero, List.setIfInBounds_toArray, List.set_cons_succ, List.set_cons_zero])
  refine wpTwo_takeT (i := 9) (v := .pointer (some ⟨z, 0, none⟩)) rfl (by kernel_rfl) (by kernel_rfl) (by kernel_rfl) (fun _ _ _ h => h) ⟨by rfl, ?_⟩ trivial ?_
  · rintro w -
    go_simp
  (try simp only [Act.put, List.getElem_toArray, List.getElem_cons_succ, List.getElem_cons_zero, List.setIfInBounds_toArray, List.set_cons_succ, List.set_cons_zero])
  refine wpTwo_takeS (i := 10) (v := .slice p n c) (waits_all (by kernel_rfl)) rfl (by kernel_rfl) (by kernel_rfl) (by kernel_rfl) (fun _ _ _ h => h) ⟨by rfl, ?_⟩ ⟨trivial, hT0⟩ ?_
  · rintro w ⟨-, hTw⟩
    obtain ⟨t0', t1', t2'⟩ := hTw.cells
    go_simp
  (try simp only [Act.put, List.getElem_toArray, List.getElem_cons_succ, List.getElem_cons_zero, List.setIfInBounds_toArray, List.set_cons_succ, List.set_cons_zero])
  refine wpTwo_takeT (i := 11) (v := .int .i64 (n : Int)) rfl (by kernel_rfl) (by kernel_rfl) (by kernel_rfl) (fun _ _ _ h => h) ⟨by rfl, ?_⟩ trivial ?_
  · rintro w -
    go_simp
  (try simp only [Act.put, List.getElem_toArray, List.getElem_cons_succ, List.getElem_cons_zero, List.setIfInBounds_toArray, List.set_cons_succ, List.set_cons_zero])
  refine wpTwo_takeT (i := 12) (v := .pointer (some ⟨z, 0, none⟩)) rfl (by kernel_rfl) (by kernel_rfl) (by kernel_rfl) (fun _ _ _ h => h) ⟨by rfl, ?_⟩ trivial ?_
  · rintro w -
    go_simp
  (try simp only [Act.put, List.getElem_toArray, List.getElem_cons_succ, List.getElem_cons_zero, List.setIfInBounds_toArray, List.set_cons_succ, List.set_cons_zero])
  refine wpTwo_takeT (i := 13) (v := .pointer (some ⟨z, 0, none⟩)) rfl (by kernel_rfl) (by kernel_rfl) (by kernel_rfl) (fun _ _ _ h => h) ⟨by rfl, ?_⟩ trivial ?_
  · rintro w -
    go_simp
  (try simp only [Act.put, List.getElem_toArray, List.getElem_cons_succ, List.getElem_cons_zero, List.setIfInBounds_toArray, List.set_cons_succ, List.set_cons_zero])
  refine wpTwo_takeT (i := 14) (v := .pointer (some ⟨z, 0, none⟩)) rfl (by kernel_rfl) (by kernel_rfl) (by kernel_rfl) (fun _ _ _ h => h) ⟨by rfl, ?_⟩ trivial ?_
  · rintro w -
    go_simp
  (try simp only [Act.put, List.getElem_toArray, List.getElem_cons_succ, List.getElem_cons_zero, List.setIfInBounds_toArray, List.set_cons_succ, List.set_cons_zero])
  refine wpTwo_takeT (i := 15) (v := .pointer (some ⟨z, 0, none⟩)) rfl (by kernel_rfl) (by kernel_rfl) (by kernel_rfl) (fun _ _ _ h => h) ⟨by rfl, ?_⟩ trivial ?_
  · rintro w -
    go_simp
  (try simp only [Act.put, List.getElem_toArray, List.getElem_cons_succ, List.getElem_cons_zero, List.setIfInBounds_toArray, List.set_cons_succ, List.set_cons_zero])
  refine wpTwo_takeS (i := 16) (v := .slice p n c) (waits_all (by kernel_rfl)) rfl (by kernel_rfl) (by kernel_rfl) (by kernel_rfl) (fun _ _ _ h => h) ⟨by rfl, ?_⟩ ⟨trivial, hT0⟩ ?_
  · rintro w ⟨-, hTw⟩
    obtain ⟨t0', t1', t2'⟩ := hTw.cells
    go_simp
  (try simp only [Act.put, List.getElem_toArray, List.getElem_cons_succ, List.getElem_cons_zero, List.setIfInBounds_toArray, List.set_cons_succ, List.set_cons_zero])
  refine wpTwo_takeT (i := 17) (v := .int .i64 (n : Int)) rfl (by kernel_rfl) (by kernel_rfl) (by kernel_rfl) (fun _ _ _ h => h) ⟨by rfl, ?_⟩ trivial ?_
  · rintro w -
    go_simp
  (try simp only [Act.put, List.getElem_toArray, List.getElem_cons_succ, List.getElem_cons_zero, List.setIfInBounds_toArray, List.set_cons_succ, List.set_cons_zero])
  refine wpTwo_takeT (i := 18) (v := .slice (nextA p n) (n - 1) (n - 1)) rfl (by kernel_rfl) (by kernel_rfl) (by kernel_rfl) (fun _ _ _ h => h) ⟨by rfl, ?_⟩ trivial ?_
  · rintro w -
    go_simp
  (try simp only [Act.put, List.getElem_toArray, List.getElem_cons_succ, List.getElem_cons_zero, List.setIfInBounds_toArray, List.set_cons_succ, List.set_cons_zero])
  refine wpTwo_takeT (i := 19) (v := .pointer (some ⟨z, 0, none⟩)) rfl (by kernel_rfl) (by kernel_rfl) (by kernel_rfl) (fun _ _ _ h => h) ⟨by rfl, ?_⟩ trivial ?_
  · rintro w -
    go_simp
  (try simp only [Act.put, List.getElem_toArray, List.getElem_cons_succ, List.getElem_cons_zero, List.setIfInBounds_toArray, List.set_cons_succ, List.set_cons_zero])
  refine wpTwo_takeT (i := 20) (v := .pointer (some ⟨z, 0, none⟩)) rfl (by kernel_rfl) (by kernel_rfl) (by kernel_rfl) (fun _ _ _ h => h) ⟨by rfl, ?_⟩ trivial ?_
  · rintro w -
    go_simp
  (try simp only [Act.put, List.getElem_toArray, List.getElem_cons_succ, List.getElem_cons_zero, List.setIfInBounds_toArray, List.set_cons_succ, List.set_cons_zero])
  refine wpTwo_takeT (i := 21) (v := .pointer (some ⟨z, 0, none⟩)) rfl (by kernel_rfl) (by kernel_rfl) (by kernel_rfl) (fun _ _ _ h => h) ⟨by rfl, ?_⟩ trivial ?_
  · rintro w -
    go_simp
  (try simp only [Act.put, List.getElem_toArray, List.getElem_cons_succ, List.getElem_cons_zero, List.setIfInBounds_toArray, List.set_cons_succ, List.set_cons_zero])
  obtain ⟨t0, t1, t2⟩ := hT0.cells
  have n0 := hT0.marks 0
  obtain ⟨Y, hY⟩ : ∃ Y : World, Y = X.setCell ⟨z, 0, none⟩ (.slice (nextA p n) (n - 1) (n - 1)) := ⟨_, rfl⟩
  have HY := Lib.hid (show DrB Y z (.slice (nextA p n) (n - 1) (n - 1)) over (.slice q (m + 1) r) by rw [hY]; exact hT0.put0 _)
  have HK := Lib.hid (show Keeps (fun k => k = z) X Y by rw [hY]; exact set1K _ _ 0 _)
  have HYY := Lib.hid hY
  clear hY
  refine wpTwo_ready (rs := [22]) (by kernel_rfl) (by simp) ?_
  refine (AllTwo.cons rfl (fun K hK => ?_) AllTwo.nil)
  go_simp
  rw [← HYY.out]
  refine hK.out _ _ ⟨trivial, fun e => by cases e⟩ ?_
  clear hK K hT0 t0 t1 t2 n0 HYY
  (try simp only [Act.put])
  refine wpTwo_end (by kernel_rfl) ?_ _
  have HF := Lib.hid (show TakeQ z B p n over m ws x (.slice wp m wc) (.returned (.tuple #[])) W Y from ⟨rfl, q, r, HY.out, HK.out.row HX.out.1 (fun g e => by have := (HX.out.1.lt g e).1; have := HZB.out.1; omega), HX.out.2.trans (HK.out.sub (fun k _ h => .inl h))⟩)
  clear HY HK HX
  go_wp2
  exact ⟨rfl, .tuple #[], (by simp [results, Try.results34, go_sem]), HF.out⟩

end Go.Proofs.Ytdagcimkajmkaaa
namespace Go.Proofs.Ytdagcimkajmkaaa
set_option maxRecDepth 100000
open Go.RowKit Go.Shelf
attribute [local go_sem] Oper.semAt_some

/-- The cells outside of some blocks stay as they are. -/
def KeepsCells (S : Nat → Prop) (W W' : World) : Prop := ∀ b o v, ¬ S b → W.cell? ⟨b, o, none⟩ = some v → W'.cell? ⟨b, o, none⟩ = some v
theorem KeepsCells.refl (S : Nat → Prop) (W : World) : KeepsCells S W W := fun _ _ _ _ h => h
theorem KeepsCells.trans {S : Nat → Prop} {X Y Z : World} (h : KeepsCells S X Y) (k : KeepsCells S Y Z) : KeepsCells S X Z := fun b o v hb hx => k b o v hb (h b o v hb hx)
theorem KeepsCells.keeps {S : Nat → Prop} {X Y : World} (h : Keeps S X Y) : KeepsCells S X Y := fun b _ _ hb hx => h.cell hx (by simpa using hb)
theorem KeepsCells.turn (S : Nat → Prop) (W : World) (l : Nat) (o o' : Obj) (hl : W.heap[l]? = some o) (ho : o.isCells = false) (_ : o.isWalk = false) : KeepsCells S W (W.putObj l o') := fun b i v _ h => by
  by_cases e : b = l
  · subst e
    simp only [World.cell?, hl] at h
    cases o <;> simp_all [Obj.isCells]
  · have hp : (W.putObj l o').heap[b]? = W.heap[b]? := World.putObj_heap_other e
    simp only [World.cell?] at h ⊢
    rw [hp]
    exact h
theorem CbOut.cells {S : Nat → Prop} {W W' : World} {v : Value} {l : List (Int × Int)} (h : CbOut S W v l) (hk : KeepsCells S W W') : CbOut S W' v l := by
  obtain ⟨p, cap, rfl, h1, h2, hc⟩ := h
  refine ⟨p, cap, rfl, h1, h2, fun hne => ?_⟩
  obtain ⟨b, off, rfl, hS, hcs⟩ := hc hne
  exact ⟨b, off, rfl, hS, fun i hi => ⟨hk _ _ _ hS (hcs i hi).1, hk _ _ _ hS (hcs i hi).2⟩⟩

/-- The callbacks that are done. -/
def dones (over : Int) : List (Int × Int) → List (Int × Int)
  | [] => []
  | c :: l => if c.1 ≤ over then c :: dones over l else []
theorem dones_len (over : Int) : ∀ l, (dones over l).length ≤ l.length
  | [] => Nat.le_refl _
  | c :: l => by
    have := dones_len over l
    unfold dones
    split <;> simp <;> omega
theorem dones_step (over : Int) (l : List (Int × Int)) (i : Nat) (h : i < l.length) : dones over (l.drop i) = if l[i].1 ≤ over then l[i] :: dones over (l.drop (i + 1)) else [] := by
  rw [List.drop_eq_getElem_cons h]
  rfl
def whats (l : List (Int × Int)) : List Int := l.map (·.2)
theorem whats_len (l : List (Int × Int)) : (whats l).length = l.length := List.length_map ..
/-- What has come is a beginning. -/
theorem dones_take {over : Int} {l : List (Int × Int)} {j : Nat} {pre : List Int} (h : whats (dones over l) = pre ++ whats (dones over (l.drop j))) : pre = whats ((dones over l).take pre.length) := by
  unfold whats at h ⊢
  rw [List.map_take, h, List.take_left]

theorem done_c (v : Value) (over : Int) (W : World) : Calls Try.prog 35 #[.agg #[v, .int .u64 over]] W fun e w' => e = .returned (.func (.func 36) #[] #[.pointer (some ⟨W.heap.size, 0, none⟩)]) ∧ w' = W.alloc (.cells #[v, .int .u64 over] 25) := by
  go_enter Try.func35, Try.ntmps35
  go_wp2
  go_ret
  exact ⟨rfl, rfl⟩

set_option maxHeartbeats 8000000 in
theorem done_stops (n : Nat) (hn : 1 ≤ n) (S : Nat → Prop) (lb : Nat) (p : Option Addr) (m c : Nat) (over : Int) (l : List (Int × Int)) (w : World) (hSl : ¬ S lb) (hm : m = l.length) (hmax : m ≤ 4611686018427387904)
    (hc : QBox w lb (.slice p m c) over) (hl : CbOut S w (.slice p m c) l) :
    SeqDeep Fence.wide n Try.prog 36 #[.pointer (some ⟨lb, 0, none⟩)] (fun x : Int => #[.int .u64 x]) (KeepsCells S)
      (fun xs => xs = whats (dones over l)) (fun xs => xs.length ≤ (dones over l).length ∧ xs = whats ((dones over l).take xs.length)) m w := fun lp J Jx W hW hJ hJx hY h0 => by
  refine callsIn_of_wp Try.func36 rfl trivial ?_ rfl
  simp only [Try.ntmps36, List.size_toArray, List.length_cons, List.length_nil, Nat.reduceAdd, Nat.reduceSub, Array.replicate_succ, Array.replicate_zero, List.push_toArray, List.append_toArray, List.nil_append, List.cons_append]
  have hcW := (hc.below hW).cells
  have hcW1 := hcW.1
  have hcW2 := hcW.2
  have HLW := Lib.hid (hl.below hW)
  have HSL := Lib.hid hSl
  have HM := Lib.hid hm
  have HJ := Lib.hid (And.intro hJ hJx)
  clear hc hl hSl hJ hJx hcW hm
  gi_wp2
  gi_loopw [8] (fun iv wr => ∃ (j : Nat) (pre : List Int), j ≤ m ∧ iv = .int .i64 (j : Int) ∧ (wr.cell? ⟨lb, 0, none⟩ = some (.slice p m c) ∧ wr.cell? ⟨lb, 1, none⟩ = some (.int .u64 over) ∧ Hid (CbOut S wr (.slice p m c) l ∧ W.heap.size ≤ wr.heap.size)) ∧ Hid (J pre wr) ∧ Hid (whats (dones over l) = pre ++ whats (dones over (l.drop j)))) (fun iv _ => m - (intOf iv).toNat)
  case atStart => exact ⟨0, [], Nat.zero_le _, rfl, ⟨hcW1, hcW2, HLW.out, Nat.le_refl _⟩, h0, Lib.hid (by simp)⟩
  case round =>
    clear HLW hcW1 hcW2 h0
    obtain ⟨j, pre, hj, rfl, ⟨hc1, hc2, HL⟩, HJp, HE⟩ := hrel
    by_cases hjl : j < m
    · have hjl' : j < l.length := by have := HM.out; omega
      have hne : l ≠ [] := by intro e; rw [e] at hjl'; simp at hjl'
      obtain ⟨h1, hsz⟩ := HL.out
      obtain ⟨p', cap', e, -, -, hcc⟩ := id h1
      injection e with e1 e2 e3
      subst e1 e3
      obtain ⟨b, off, rfl, hSb, hcs⟩ := hcc hne
      obtain ⟨hx, hy⟩ := hcs j hjl'
      have hst := dones_step over l j hjl'
      obtain ⟨x, hxe⟩ : ∃ x, x = l[j].1 := ⟨_, rfl⟩
      obtain ⟨y, hye⟩ : ∃ y, y = l[j].2 := ⟨_, rfl⟩
      have hxy : l[j] = (x, y) := by rw [hxe, hye]
      rw [← hxe] at hx
      rw [← hye] at hy
      rw [hxy] at hst
      have HLN := Lib.hid (fun (wr' : World) (hk : KeepsCells S wr wr') (hz : wr.heap.size ≤ wr'.heap.size) => (show CbOut S wr' (.slice (some ⟨b, off, none⟩) m c) l ∧ W.heap.size ≤ wr'.heap.size from ⟨h1.cells hk, Nat.le_trans hsz hz⟩))
      have HST := Lib.hid hst
      have hb1 := World.block_lt_of_cell? wr _ hx
      have hbl := World.block_lt_of_cell? wr _ hc1
      have hj0 : (0 : Int) ≤ (j : Int) := by omega
      have hjl2 : (j : Int) < (m : Int) := by omega
      clear hcs hcc hne hxe hye hxy hst h1 hsz e2 hjl'
      by_cases hgt : over < x
      · have HF := Lib.hid (show ∃ xs, xs = whats (dones over l) ∧ J xs (wr.alloc (.cells #[.int .u64 x, .int .u64 y] 53)) from ⟨pre, by rw [HE.out, HST.out, if_neg (by simp only; omega)]; simp [whats], HJ.out.1.alloc _ HJp.out⟩)
        clear HE HJp HST hY
        gi_wp2
        refine ⟨fun f h => (by cases h), ?_⟩
        gi_wp2
        refine bodyPost_ret (results_none rfl _ _ _) rfl ?_
        exact ⟨⟨_, rfl⟩, .inl HF.out⟩
      · have hle : x ≤ over := by omega
        have hE2 : whats (dones over l) = (pre ++ [y]) ++ whats (dones over (l.drop (j + 1))) := by rw [HE.out, HST.out, if_pos (by simp only; omega)]; simp [whats]
        have HE2 := Lib.hid hE2
        have hlen : (pre ++ [y]).length ≤ (dones over l).length := by
          have := congrArg List.length hE2
          rw [whats_len, List.length_append] at this
          omega
        have hlp : pre.length < m := by
          have h3 := dones_len over l
          have := HM.out
          rw [List.length_append, List.length_singleton] at hlen
          omega
        have hsp : (pre ++ [y]).length ≤ (dones over l).length ∧ pre ++ [y] = whats ((dones over l).take (pre ++ [y]).length) := ⟨hlen, dones_take hE2⟩
        obtain ⟨w1, hw1⟩ : ∃ X : World, X = wr.alloc (.cells #[.int .u64 x, .int .u64 y] 53) := ⟨_, rfl⟩
        have hb1' : Below wr.heap.size wr w1 := by rw [hw1]; exact below1 _ _
        have hJ1 := HJ.out.1.alloc (.cells #[.int .u64 x, .int .u64 y] 53) HJp.out
        rw [← hw1] at hJ1
        have hk1 : KeepsCells S wr w1 := fun b o v _ h => below_cell hb1' h
        have hcc1 := below_cell hb1' hc1
        have hcc2 := below_cell hb1' hc2
        have HZ1 := Lib.hid (show wr.heap.size ≤ w1.heap.size ∧ W.heap.size ≤ wr.heap.size from ⟨hb1'.size, HL.out.2⟩)
        have HK1 := Lib.hid hk1
        have HSP := Lib.hid hsp
        obtain ⟨fn, tmps, assign, body, hy2, hR⟩ := hY pre y w1 hJ1 hlp hsp
        rw [hw1] at hy2 hR
        clear HE HJp HST hY hb1' hJ1 hk1 hE2 hlen hlp hsp hgt
        rw [hw1] at HK1 HZ1 hcc1 hcc2
        clear hw1
        gi_wp2
        refine hR.mono ?_
        rintro e W3 (⟨rfl, hJ3, hk3, hf3⟩ | ⟨rfl, hJx3, -⟩)
        · have hc31 := hk3 _ _ _ HSL.out hcc1
          have hc32 := hk3 _ _ _ HSL.out hcc2
          have HL3 := Lib.hid (HLN.out W3 (HK1.out.trans hk3) (Nat.le_trans HZ1.out.1 hf3.size))
          have HJ3 := Lib.hid hJ3
          clear hJ3 hk3 hf3 hR
          gi_wp2
          go_roundw
          case rel => exact ⟨j + 1, _, by omega, rfl, ⟨hc31, hc32, HL3⟩, HJ3, HE2⟩
          case measure => first | omega | (simp [intOf]; omega)
        · have HJX := Lib.hid (show ∃ pre', (pre'.length ≤ (dones over l).length ∧ pre' = whats ((dones over l).take pre'.length)) ∧ Jx pre' W3 from ⟨_, HSP.out, hJx3⟩)
          clear hJx3 hR
          gi_wp2
          refine bodyPost_ret (results_none rfl _ _ _) rfl ?_
          exact ⟨⟨_, rfl⟩, .inr HJX.out⟩
    · obtain rfl : j = m := by omega
      have HF := Lib.hid (show ∃ xs, xs = whats (dones over l) ∧ J xs wr from ⟨pre, by rw [HE.out, HM.out, List.drop_length]; simp [whats, dones], HJp.out⟩)
      clear HE HJp hjl hj
      gi_wp2
      go_end0
      exact ⟨⟨_, rfl⟩, .inl HF.out⟩

end Go.Proofs.Ytdagcimkajmkaaa
