/-
  QueueAll, called with any queue and row of numbers: it returns true, and changes none of its arguments.
  Conditions: none.
-/
import Derived.Test.YtdagcimkajmkaaaUD1
import Derived.BigQuiet
import Derived.Deep.QuietTactic
import Derived.Deep.DeepCutAuto
import Derived.Test.YtdagcimkajmkaaaUA1
import Derived.Test.YtdagcimkajmkaaaUA4
/-
  QueueAll, called with any queue and row of numbers: it answers true.
  Conditions: the ranges of Go's types.
-/
namespace Go.Proofs.Ytdagcimkajmkaaa
set_option maxRecDepth 100000
open Go.RowKit Go.Shelf
attribute [local go_sem] Oper.semAt_some

theorem dones_all (o : Int) : ∀ l : List (Int × Int), (∀ c ∈ l, c.1 ≤ o) → dones o l = l
  | [], _ => rfl
  | c :: l, h => by
    have e : dones o (c :: l) = if c.1 ≤ o then c :: dones o l else [] := rfl
    rw [e, if_pos (h c (List.mem_cons_self ..)), dones_all o l (fun d hd => h d (List.mem_cons_of_mem _ hd))]
theorem segN_all (o : Int) : ∀ l : List (Int × Int), (∀ c ∈ l, c.1 ≤ o) → segN o 0 l = l.length
  | [], _ => rfl
  | c :: l, h => by
    have h1 := h c (List.mem_cons_self ..)
    have hs : segB o c.1 = 0 := by unfold segB; rw [if_neg (by omega), if_neg (by omega)]
    rw [segN_cons, if_pos hs, segN_all o l (fun d hd => h d (List.mem_cons_of_mem _ hd)), List.length_cons]; omega
theorem may_dropn {o : Int} {l : List (Int × Int)} (h : mayB o l = true) : ∀ j, mayB o (l.drop j) = true
  | 0 => h
  | j + 1 => by
    have := may_drop (may_dropn h j)
    rwa [List.drop_drop] at this
theorem run_seg_ne (n : Int) (w : World) : (binOp .neq 48 (.agg #[.int .i64 n, .int .i64 0, .int .i64 0]) (.agg #[.int .i64 n, .int .i64 0, .int .i64 0])).run Try.prog w = .ok (.bool false) w := by
  obtain ⟨i0, hi, _⟩ := info_parts (show (Try.prog.info? 3).map (fun i => (i.zero, i.size, i.bytes)) = some (some (.int .i64 0), 1, 8) by kernel_rfl)
  have hc : Try.prog.cellsOf 3 = 1 := by kernel_rfl
  have h := run_equalIn_array (P := Try.prog) (w := w) 9999 #[.int .i64 n, .int .i64 0, .int .i64 0] #[.int .i64 n, .int .i64 0, .int .i64 0] Try.underlying48 hi
  have e0 : ∀ (p q : Int) w, (Op.equalIn 9999 3 (.int .i64 p) (.int .i64 q)).run Try.prog w = .ok (p == q) w := fun p q w => by rw [run_equalIn_int w 9998 3 .i64 .i64 p q Try.underlying3]
  have p0 : ∀ w, (part 3 #[.int .i64 n, .int .i64 0, .int .i64 0] 0).run Try.prog w = .ok (.int .i64 n) w := fun w => by kernel_rfl
  have p1 : ∀ w, (part 3 #[.int .i64 n, .int .i64 0, .int .i64 0] 1).run Try.prog w = .ok (.int .i64 0) w := fun w => by kernel_rfl
  have p2 : ∀ w, (part 3 #[.int .i64 n, .int .i64 0, .int .i64 0] 2).run Try.prog w = .ok (.int .i64 0) w := fun w => by kernel_rfl
  rw [run_neq_struct, h, hc]
  simp [List.range, List.range.loop, Op.eqItems, Sem.run_bind, e0, p0, p1, p2, Result.andThen]
theorem whats_get (l : List (Int × Int)) (i : Nat) (h : i < l.length) (h' : i < (whats l).length) : (whats l)[i] = l[i].2 := List.getElem_map ..
structure AlI (W : World) (v : Value) (over : Int) (z Z : Nat) (p : Option Addr) (k c : Nat) (ls : List (Int × Int)) (z6 : Nat) (pe : Option Addr) (ce : Nat) (O2 : Int) (wp : Option Addr) (wc zd : Nat) (w : World) : Prop where
  q : QpI W v over z Z p k c ls w
  e : QBox w z6 (.slice pe k ce) O2
  cb : CbOut (fun b => zd ≤ b) w (.slice pe k ce) ls
  all : w.ownsRow 0 23 1 (.slice wp k wc) k ((whats ls).map (Value.int .u64))
  lo : ∀ b, (Value.slice wp k wc).ownBlock = some b → b < zd
  zs : z6 < zd ∧ Z ≤ zd ∧ zd ≤ w.heap.size
theorem AlI.below {W : World} {v : Value} {over : Int} {z Z : Nat} {p : Option Addr} {k c : Nat} {ls : List (Int × Int)} {z6 : Nat} {pe : Option Addr} {ce : Nat} {O2 : Int} {wp : Option Addr} {wc zd : Nat} {w w' : World} (h : AlI W v over z Z p k c ls z6 pe ce O2 wp wc zd w) (hb : Below w.heap.size w w') : AlI W v over z Z p k c ls z6 pe ce O2 wp wc zd w' :=
  ⟨h.q.below hb, h.e.below hb, h.cb.below hb, owns_below h.all hb, h.lo, h.zs.1, h.zs.2.1, Nat.le_trans h.zs.2.2 hb.size⟩
theorem AlI.keeps {W : World} {v : Value} {over : Int} {z Z : Nat} {p : Option Addr} {k c : Nat} {ls : List (Int × Int)} {z6 : Nat} {pe : Option Addr} {ce : Nat} {O2 : Int} {wp : Option Addr} {wc zd : Nat} {w w' : World} (h : AlI W v over z Z p k c ls z6 pe ce O2 wp wc zd w) {S : Nat → Prop} (hk : Keeps S w w') (hS : ∀ b, S b → zd ≤ b) : AlI W v over z Z p k c ls z6 pe ce O2 wp wc zd w' :=
  ⟨h.q.keeps hk (fun b e => Nat.le_trans h.zs.2.1 (hS b e)), h.e.keeps hk (fun e => by have := hS _ e; have := h.zs; omega), h.cb.keeps (hk.sub (fun b _ e => hS b e)), hk.row h.all (fun b e e2 => by have := hS b e2; have := h.lo b e; omega), h.lo, h.zs.1, h.zs.2.1, Nat.le_trans h.zs.2.2 hk.size⟩
structure SmI (W : World) (v : Value) (over : Int) (z Z : Nat) (p : Option Addr) (k c : Nat) (ls : List (Int × Int)) (z6 : Nat) (pe : Option Addr) (ce : Nat) (O2 : Int) (wp : Option Addr) (wc zd z15 j : Nat) (pd : Option Addr) (nd cd : Nat) (ps : Option Addr) (cs : Nat) (w : World) : Prop where
  al : AlI W v over z Z p k c ls z6 pe ce O2 wp wc zd w
  d : QBox w z15 (.slice pd nd cd) O2
  dr : CbOut (fun b => b = z15 ∨ some b = (Value.slice ps j cs).ownBlock) w (.slice pd nd cd) (ls.drop j)
  so : w.ownsRow (z15 + 1) 23 1 (.slice ps j cs) j ((whats (ls.take j)).map (Value.int .u64))
  zs : zd ≤ z15
  jk : j ≤ k
  nd : nd = k - j
theorem SmI.below {W : World} {v : Value} {over : Int} {z Z : Nat} {p : Option Addr} {k c : Nat} {ls : List (Int × Int)} {z6 : Nat} {pe : Option Addr} {ce : Nat} {O2 : Int} {wp : Option Addr} {wc zd z15 j : Nat} {pd : Option Addr} {nd cd : Nat} {ps : Option Addr} {cs : Nat} {w w' : World} (h : SmI W v over z Z p k c ls z6 pe ce O2 wp wc zd z15 j pd nd cd ps cs w) (hb : Below w.heap.size w w') : SmI W v over z Z p k c ls z6 pe ce O2 wp wc zd z15 j pd nd cd ps cs w' :=
  ⟨h.al.below hb, h.d.below hb, h.dr.below hb, owns_below h.so hb, h.zs, h.jk, h.nd⟩
theorem SmI.step {W : World} {v : Value} {over : Int} {z Z : Nat} {p : Option Addr} {k c : Nat} {ls : List (Int × Int)} {z6 : Nat} {pe : Option Addr} {ce : Nat} {O2 : Int} {wp : Option Addr} {wc zd z15 j : Nat} {pd : Option Addr} {nd cd : Nat} {ps : Option Addr} {cs : Nat} {w wb w2 w3 : World} (h : SmI W v over z Z p k c ls z6 pe ce O2 wp wc zd z15 j pd nd cd ps cs w)
    (hb : Below w.heap.size w wb) {p2 : Option Addr} {n2 c2 kk : Nat} (hr : CbOut (fun q => q < w.heap.size) wb (.slice p2 n2 c2) (ls.drop (j + kk))) (hk : j + kk ≤ k) (hn : n2 = k - (j + kk)) {q : Option Addr} {r : Nat} (ho : w2.ownsRow (z15 + 1) 23 1 (.slice q (j + kk) r) (j + kk) ((whats (ls.take (j + kk))).map (Value.int .u64)))
    (hk2 : Keeps (fun b => some b = (Value.slice ps j cs).ownBlock) wb w2) (hl : (Value.slice q (j + kk) r).ownBlock = (Value.slice ps j cs).ownBlock ∨ (Value.slice q (j + kk) r).ownBlock = some wb.heap.size) (hw : w3 = (w2.setCell ⟨z15, 0, none⟩ (.slice p2 n2 c2)).setCell ⟨z15, 1, none⟩ (.int .u64 O2)) : SmI W v over z Z p k c ls z6 pe ce O2 wp wc zd z15 (j + kk) p2 n2 c2 q r w3 := by
  have hk3 : Keeps (fun b => b = z15) w2 w3 := by rw [hw]; exact QBox.putK _ _ _ _
  have hz := h.zs
  have hus : ∀ b, some b = (Value.slice ps j cs).ownBlock → z15 + 1 ≤ b ∧ b < w.heap.size := fun b e => h.so.lt b e.symm
  have hdl := h.d.lt
  have hd2 := (h.d.below hb).keeps hk2 (fun e => by have := hus _ e; omega)
  refine ⟨((h.al.below hb).keeps hk2 (fun b e => by have := hus b e; omega)).keeps hk3 (fun b e => by omega), by rw [hw]; exact hd2.put _ _, ?_, hk3.row ho (fun g e e2 => by have := (ho.lt g e).1; omega), hz, hk, hn⟩
  have h1 : CbOut (fun b => b = z15 ∨ some b = (Value.slice ps j cs).ownBlock ∨ some b = (Value.slice q (j + kk) r).ownBlock) wb (.slice p2 n2 c2) (ls.drop (j + kk)) := hr.apart (fun b e => by
    rcases e with e | e | e
    · exact .inl (by omega)
    · exact .inl (hus b e).2
    · rcases hl with hl | hl
      · exact .inl (hus b (e.trans hl)).2
      · have e2 := e.trans hl
        injection e2 with e2
        exact .inr (by omega))
  have h2 := (h1.keeps (hk2.sub (fun b _ e => .inr (.inl e)))).keeps (hk3.sub (fun b _ e => .inl e))
  exact h2.sub (fun b e => e.imp id .inr)
theorem part5 (x : Int) : ∃ M : Nat, M < 5 ∧ wrap64 ((IntKind.u64.wrap x).tmod 5) = (M : Int) := by
  have h0 : 0 ≤ IntKind.u64.wrap x := by simp [IntKind.wrap, IntKind.signed, IntKind.bits]; omega
  have h1 : (IntKind.u64.wrap x).tmod 5 = IntKind.u64.wrap x % 5 := Int.tmod_eq_emod_of_nonneg h0
  refine ⟨(IntKind.u64.wrap x % 5).toNat, by omega, ?_⟩
  rw [h1, Int.toNat_of_nonneg (by omega)]
  have h2 : 0 ≤ IntKind.u64.wrap x % 5 ∧ IntKind.u64.wrap x % 5 < 5 := by omega
  first | (unfold wrap64; omega) | (simp [wrap64]; omega)
theorem run_app_words (B : Nat) (v : Value) (n : Nat) (xs : List Int) (w : World) (h : w.ownsRow B 23 1 v n (xs.map (Value.int .u64))) (C : Nat) (p : Option Addr) (m c : Nat) (ys : List Int) (h2 : w.ownsRow C 23 1 (.slice p m c) m (ys.map (Value.int .u64))) (hl : n + m ≤ 1000000) (hB : B ≤ w.heap.size) :
    ∃ q r w', (Builtin.append_ #[26, 26] 26 #[v, .slice p m c]).run Try.prog w = .ok (.slice q (n + m) r) w' ∧ w'.ownsRow B 23 1 (.slice q (n + m) r) (n + m) ((xs ++ ys).map (Value.int .u64)) ∧ Keeps (fun k => some k = v.ownBlock) w w' ∧ ((Value.slice q (n + m) r).ownBlock = v.ownBlock ∨ (Value.slice q (n + m) r).ownBlock = some w.heap.size) := by
  obtain ⟨i0, hi, hz0, hz1, hz2⟩ := info_parts info_w
  rcases id h2.2 with ⟨e, h0⟩ | ⟨g, cap, cur, e, hC, hg, hcp, hmx, hsz, _⟩
  · injection e with e1 e2 e3
    subst e1 e2 e3
    obtain rfl : ys = [] := by have := h2.1; rw [List.length_map] at this; exact List.eq_nil_of_length_eq_zero (by omega)
    obtain ⟨q, r, rfl⟩ := owns_slice h
    have := run_append_owned_none (P := Try.prog) (w := w) B 26 26 23 i0 1 Try.underlying26 hi _ n (xs.map (Value.int .u64)) h
    exact ⟨q, r, w, this, by rw [List.append_nil]; exact h, Keeps.refl _ _, .inl rfl⟩
  · injection e with e1 e2 e3
    subst e1 e3
    obtain ⟨v', w', hr, h3, h4, _, h5⟩ := run_append_own_at (P := Try.prog) w B 26 26 23 i0 (.int .u64 0) 1 8 Try.underlying26 hi hz0 hz1 hz2 rfl (by decide) v n _ h ⟨g, 0, none⟩ m c (ys.map (Value.int .u64)) (by have := h2.1; omega) (h2.cells rfl) (fun u hu => by obtain ⟨y, _, rfl⟩ := List.mem_map.1 hu; rfl) (by unfold maxLen; omega) (by omega) hB
    rw [← List.map_append] at h3
    obtain ⟨q, r, rfl⟩ := owns_slice h3
    exact ⟨q, r, w', hr, h3, ⟨h4.os, h4.tape, h4.output, h4.size, fun k hk hn => h4.block k hk (fun e => hn e)⟩, h5⟩

theorem wpList_run_app {ops : Array Oper} {rest : List Oper} {o : Oper} {a : Act} {Q : Exit → Act → World → Prop} {w : World} (hgd : o.guard = none) (s x : Operand)
    (ho : o.op = .call { callee := .builtin .append, args := #[s, x], argTypes := #[26, 26] }) (hty : o.type = 26) (v y v' : Value) (w' : World) (hs : a.eval s = v) (hx : a.eval x = y)
    (hr : (Builtin.append_ #[26, 26] 26 #[v, y]).run Try.prog w = .ok v' w') (h : wpList Try.prog ops Q rest (a.put o.dst v') w') : wpList Try.prog ops Q (o :: rest) a w := by
  refine wpList_plain hgd fun K hK => ?_
  unfold Oper.wp execOp
  simp only [ho, hty, resolve, invoke, builtin, Sem.run_bind, Sem.run_pure, Result.andThen_ok, List.map_toArray, List.map_cons, List.map_nil, hs, hx, hr]
  exact hK _ _ h

theorem wpList_want_app {ops : Array Oper} {rest : List Oper} {o : Oper} {a : Act} {Q : Exit → Act → World → Prop} {w : World} (hwt : Region.wanted o (yielded ops a.tmps) = true) (s x : Operand)
    (ho : o.op = .call { callee := .builtin .append, args := #[s, x], argTypes := #[26, 26] }) (hty : o.type = 26) (v y v' : Value) (w' : World) (hs : a.eval s = v) (hx : a.eval x = y)
    (hr : (Builtin.append_ #[26, 26] 26 #[v, y]).run Try.prog w = .ok v' w') (h : wpList Try.prog ops Q rest (a.put o.dst v') w') : wpList Try.prog ops Q (o :: rest) a w := by
  refine BigFrame.wpList_want hwt fun K hK => ?_
  unfold Oper.wp execOp
  simp only [ho, hty, resolve, invoke, builtin, Sem.run_bind, Sem.run_pure, Result.andThen_ok, List.map_toArray, List.map_cons, List.map_nil, hs, hx, hr]
  exact hK _ _ h

set_option maxHeartbeats 64000000 in
theorem queueAll_c (v : Value) (over : Int) (l : List (Int × Int)) (vw : Value) (ws : List Int) (W : World) (hv : CbOut NoS W v l) (hz : NilZ v) (ho : 0 ≤ over) (hg : ∀ c ∈ l, 0 ≤ c.1) (hw : NumsAt W .i64 vw ws) (hwl : ws.length ≤ 9223372036854775807) (hwr : ∀ w ∈ ws, -9223372036854775808 ≤ w ∧ w ≤ 9223372036854775807) :
    Calls Try.prog 6 #[.agg #[v, .int .u64 over], vw] W fun e w' => e = .returned (.bool true) ∧ Below W.heap.size W w' := by
  obtain ⟨px, cx, rfl, -⟩ := id hv
  obtain ⟨pw, cw, rfl, -⟩ := id hw
  obtain ⟨nx, hnx⟩ : ∃ n, n = l.length := ⟨_, rfl⟩
  obtain ⟨m, hm⟩ : ∃ m, m = ws.length := ⟨_, rfl⟩
  rw [← hnx] at hv hz ⊢
  rw [← hm] at hw hwl ⊢
  have HL := Lib.hid (And.intro hv hz)
  have HG := Lib.hid hg
  have HWD := Lib.hid (show NumsAt W .i64 (.slice pw m cw) ws ∧ m = ws.length ∧ (∀ w ∈ ws, -9223372036854775808 ≤ w ∧ w ≤ 9223372036854775807) from ⟨hw, hm, hwr⟩)
  obtain ⟨w0, hw0⟩ : ∃ X : World, X = W.alloc (.cells #[.slice px nx cx, .int .u64 over] 25) := ⟨_, rfl⟩
  have HF := Lib.hid (show QBox w0 W.heap.size (.slice px nx cx) over ∧ Below W.heap.size W w0 from ⟨by rw [hw0]; exact QBox.new W _ _, by rw [hw0]; exact below1 _ _⟩)
  have HW0 := Lib.hid hw0
  clear hv hz hg hw hm hwr hw0 hnx
  go_enter Try.func6, Try.ntmps6
  go_wp2_with fail
  rw [← HW0.out]
  clear HW0
  (with_reducible refine (wakes_c w0).mono ?_)
  rintro e w1 ⟨rfl, hb1⟩
  have hx1 := HF.out.1.below hb1
  have hbw1 := below_then HF.out.2 HF.out.2.size hb1
  have HOW := Lib.hid (lown_c (.slice px nx cx) over l w1 ((HL.out.1.below hbw1)) HL.out.2)
  have HX1 := Lib.hid (And.intro hx1 hbw1)
  have HS1 := Lib.hid hb1
  obtain ⟨q0, q1⟩ := hx1.cells
  clear hx1 hbw1 hb1 HF
  go_wp2_with fail
  (with_reducible refine HOW.out.mono ?_)
  rintro e w2 ⟨⟨v2, rfl, o2⟩, hb2⟩
  obtain ⟨ls, hls⟩ : ∃ ls, ls = l.take 20 := ⟨_, rfl⟩
  rw [← hls] at o2
  obtain ⟨n, hn⟩ : ∃ n, n = ls.length := ⟨_, rfl⟩
  rw [← hn] at o2
  obtain ⟨p, c, rfl⟩ := owns_slice o2
  have hnz := nilZ_owns o2
  obtain ⟨z, hz⟩ : ∃ z, z = w2.heap.size := ⟨_, rfl⟩
  obtain ⟨w3, hw3⟩ : ∃ X : World, X = w2.alloc (.cells #[.slice p n c, .int .u64 over] 25) := ⟨_, rfl⟩
  have hb3 : Below w2.heap.size w2 w3 := by rw [hw3]; exact below1 _ _
  have hb13 := below_then hb2 hb2.size hb3
  obtain ⟨Z, hZ⟩ : ∃ Z, Z = z + 1 := ⟨_, rfl⟩
  have hrow : CbOut (fun k => Z ≤ k) w3 (.slice p n c) ls := ((cb_of_owns o2).apart (T := fun k => Z ≤ k) (fun k hk => .inr (by omega))).below hb3
  have HQ := Lib.hid (show QpI W (.slice px nx cx) over z Z p n c ls w3 from ⟨HX1.out.1.below hb13, by rw [hw3, hz]; exact QBox.new _ _ _, hrow, fun h => hnz _ _ _ rfl h, below_then HX1.out.2 HX1.out.2.size hb13, by rw [hw3, hZ, hz]; simp, by have := HX1.out.1.lt; have := hb2.size; omega, by omega, by have := HX1.out.1.lt; have := hb2.size; omega⟩)
  have HB13 := Lib.hid (below_then HS1.out HS1.out.size hb13)
  have HSZ := Lib.hid (show w0.heap.size ≤ z ∧ z < Z by have := HS1.out.size; have := hb2.size; omega)
  have HLS := Lib.hid (show ls = l.take 20 ∧ n = ls.length ∧ (∀ c ∈ ls, 0 ≤ c.1) ∧ n ≤ 20 from ⟨hls, hn, fun c hc => HG.out c (by rw [hls] at hc; exact List.mem_of_mem_take hc), by rw [hn, hls, List.length_take]; omega⟩)
  have HW3 := Lib.hid (And.intro hw3 hz)
  clear HS1 hls hn o2 hnz hz hw3 hb2 hb3 hb13 hZ hrow HX1 HOW q0 q1
  obtain ⟨q0, q1⟩ := HQ.out.q.cells
  have q0' := q0
  have q1' := q1
  rw [HW3.out.1, HW3.out.2] at q0 q1
  go_upto_region 4 with fail
  rw [← HW3.out.1, ← HW3.out.2]
  clear HW3 q0 q1
  have hcc := check_c (.slice p n c) over ls w3 (HQ.out.row.sub (fun _ h => False.elim h)) ho
  go_wp2_with fail
  (with_reducible refine hcc.mono ?_)
  rintro e w4 ⟨rfl, hb4⟩
  have HQ4 := Lib.hid (HQ.out.below hb4)
  clear hb4 HQ HB13 q0' q1' hcc HSZ
  obtain ⟨q0, q1⟩ := HQ4.out.q.cells
  by_cases hm0 : mayB over ls = true
  · have hE : chkE over ls = 0 := if_pos hm0
    rw [hE]
    clear hE
    by_cases hbig : 4611686018427387904 < over
    · go_wp2
      go_ret
      exact ⟨rfl, HQ4.out.b⟩
    · have hbig' : over ≤ 4611686018427387904 := by omega
      clear hbig
      have HMA := Lib.hid (show mayB over ls = true ∧ mayB (over + 2) ls = true ∧ (∀ d ∈ ls, d.1 ≤ over + 2) ∧ n = ls.length ∧ n ≤ 16 from ⟨hm0, may_end hm0 (by omega) (by omega), (may_split hm0).2.2.2, HLS.out.2.1, by have := (may_split hm0).2.1; have := HLS.out.2.1; omega⟩)
      clear hm0
      have hwo : IntKind.u64.wrap (over + 2) = over + 2 := wrap_u64 _ (by omega) (by omega)
      have hpc := end_c (.slice p n c) over ls (over + 2) w4 (HQ4.out.row.sub (fun _ h => False.elim h)) ho
      go_wp2_with fail
      (with_reducible refine hpc.mono ?_)
      rintro e w5 ⟨hq, hb5⟩
      have hE : endE over ls (over + 2) = 0 := by unfold endE; rw [if_pos HMA.out.1, if_neg (by omega)]
      rcases hq with ⟨_, hq⟩ | ⟨hq, _⟩
      · obtain ⟨pe, ce, rfl, oe⟩ := ansQ_row hq
        obtain ⟨O2, hO2⟩ : ∃ o, o = over + 2 := ⟨_, rfl⟩
        rw [← hO2]
        rw [← hO2] at HMA
        have HO2 := Lib.hid (show O2 = over + 2 ∧ 0 ≤ O2 ∧ O2 ≤ 9223372036854775806 from by omega)
        have hnl : ls.length = n := HMA.out.2.2.2.1.symm
        rw [hnl] at oe ⊢
        obtain ⟨z6, hz6⟩ : ∃ b, b = w5.heap.size := ⟨_, rfl⟩
        obtain ⟨w6, hw6⟩ : ∃ X : World, X = w5.alloc (.cells #[.slice pe n ce, .int .u64 O2] 25) := ⟨_, rfl⟩
        have hb6 : Below w5.heap.size w5 w6 := by rw [hw6]; exact below1 _ _
        have hb56 := below_then hb5 hb5.size hb6
        have H6 := Lib.hid (show QpI W (.slice px nx cx) over z Z p n c ls w6 ∧ QBox w6 z6 (.slice pe n ce) O2 ∧ CbOut NoS w6 (.slice pe n ce) ls ∧ (pe = none → ce = 0) ∧ Z ≤ z6 from
          ⟨HQ4.out.below hb56, by rw [hw6, hz6]; exact QBox.new _ _ _, ((cb_of_owns oe).below hb6).sub (fun _ h => False.elim h), fun h => nilZ_owns oe _ _ _ rfl h, by have := HQ4.out.zs; have := hb5.size; omega⟩)
        have HW6 := Lib.hid (And.intro hw6 hz6)
        clear hq oe hb5 hw6 hz6 hb6 hb56 hpc hE hwo hO2 q0 q1 hnl
        go_upto_region 7 with fail
        rw [← HW6.out.1, ← HW6.out.2]
        clear HW6 HQ4
        obtain ⟨r0, r1⟩ := H6.out.2.1.cells
        have hsc := segments_c (.slice pe n ce) O2 ls w6 H6.out.2.2.1 HO2.out.2.1
        have hsv : segV O2 ls = .agg #[.int .i64 (n : Int), .int .i64 0, .int .i64 0] := by
          have h0 := segN_all O2 ls HMA.out.2.2.1
          have hs := segN_sum O2 ls
          unfold segV
          rw [if_pos HMA.out.2.1, h0, show segN O2 1 ls = 0 by omega, show segN O2 2 ls = 0 by omega, HMA.out.2.2.2.1]; rfl
        rw [hsv] at hsc
        clear hsv
        go_wp2_with fail
        (with_reducible refine hsc.mono ?_)
        rintro e w7 ⟨rfl, hb7⟩
        obtain ⟨z8, hz8⟩ : ∃ b, b = w7.heap.size := ⟨_, rfl⟩
        obtain ⟨w8, hw8⟩ : ∃ X : World, X = w7.alloc (.cells #[.int .i64 (n : Int), .int .i64 0, .int .i64 0] 48) := ⟨_, rfl⟩
        have hb8 : Below w7.heap.size w7 w8 := by rw [hw8]; exact below1 _ _
        have hb68 := below_then hb7 hb7.size hb8
        have H8 := Lib.hid (show QpI W (.slice px nx cx) over z Z p n c ls w8 ∧ QBox w8 z6 (.slice pe n ce) O2 ∧ CbOut NoS w8 (.slice pe n ce) ls ∧ SgB w8 z8 n 0 0 ∧ z6 < z8 from
          ⟨H6.out.1.below hb68, H6.out.2.1.below hb68, H6.out.2.2.1.below hb68, by rw [hw8, hz8]; exact SgB.new _ _ _ _, by have := H6.out.2.1.lt; have := hb7.size; omega⟩)
        have HW8 := Lib.hid (And.intro hw8 hz8)
        clear hsc r0 r1 hb7 hb8 hb68 hw8 hz8
        go_upto_region 8 with fail
        rw [← HW8.out.1, ← HW8.out.2]
        clear HW8
        obtain ⟨r0, r1⟩ := H8.out.2.1.cells
        obtain ⟨q0, q1⟩ := H8.out.1.q.cells
        have hdc := drain1_c (.slice pe n ce) O2 ls (n : Int) w8 H8.out.2.2.1 HO2.out.2.1 (by have := HMA.out; omega)
        go_wp2_with fail
        (with_reducible refine hdc.mono ?_)
        rintro e w9 ⟨hq, hb9⟩
        clear hdc r0 r1 q0 q1
        have hE : drainE O2 ls (n : Int) = 0 := by unfold drainE; rw [if_pos HMA.out.2.1, if_neg (by omega)]
        rcases hq with ⟨_, k, v1, wp, cA, hk, rfl, ho1, hw1⟩ | ⟨hq, _⟩
        · rw [Int.toNat_natCast, dones_all O2 ls HMA.out.2.2.1, List.take_of_length_le (by rw [HMA.out.2.2.2.1]; exact Nat.le_refl _)] at hk hw1
          have hkn : k = n := hk.trans HMA.out.2.2.2.1.symm
          subst hkn
          obtain ⟨p1, c1, rfl, -⟩ := id ho1.1
          have h0 : (List.drop k ls).length = 0 := by rw [List.length_drop]; omega
          rw [h0]
          obtain ⟨z9, hz9⟩ : ∃ b, b = w9.heap.size := ⟨_, rfl⟩
          obtain ⟨wa, hwa⟩ : ∃ X : World, X = w9.alloc (.cells #[.slice p1 0 c1, .int .u64 O2] 25) := ⟨_, rfl⟩
          have hba : Below w9.heap.size w9 wa := by rw [hwa]; exact below1 _ _
          have hb8a := below_then hb9 hb9.size hba
          have HA := Lib.hid (show QpI W (.slice px nx cx) over z Z p k c ls wa ∧ QBox wa z6 (.slice pe k ce) O2 ∧ CbOut NoS wa (.slice pe k ce) ls ∧ SgB wa z8 k 0 0 ∧ QBox wa z9 (.slice p1 0 c1) O2 ∧ wa.ownsRow 0 23 1 (.slice wp k cA) k ((whats ls).map (Value.int .u64)) ∧ z8 < z9 ∧ wa.heap.size = z9 + 1 ∧ (∀ b, (Value.slice wp k cA).ownBlock = some b → b < z9) from
            ⟨H8.out.1.below hb8a, H8.out.2.1.below hb8a, H8.out.2.2.1.below hb8a, H8.out.2.2.2.1.below hb8a, by rw [hwa, hz9]; exact QBox.new _ _ _, (owns_below hw1 hba).mono (Nat.zero_le _), by have := H8.out.2.2.2.1.lt; have := hb9.size; omega, by rw [hwa, hz9]; simp, fun b e => by have := hw1.lt b e; omega⟩)
          have HWA := Lib.hid (And.intro hwa hz9)
          clear hk ho1 hw1 h0 hwa hz9 hba hb8a hb9 H8 H6 hE
          go_upto_region 9 with fail
          rw [← HWA.out.1, ← HWA.out.2]
          clear HWA
          obtain ⟨q0, q1⟩ := HA.out.1.q.cells
          obtain ⟨g0, g1, g2⟩ := HA.out.2.2.2.1.cells
          obtain ⟨r0, r1⟩ := HA.out.2.2.2.2.1.cells
          have hne := run_seg_ne (k : Int)
          have hkk : ((k : Int) != (k : Int)) = false := by simp
          have hgl := seg_load HA.out.2.2.2.1
          have HAL := Lib.hid (show AlI W (.slice px nx cx) over z Z p k c ls z6 pe ce O2 wp cA (z9 + 1) wa from ⟨HA.out.1, HA.out.2.1, HA.out.2.2.1.apart (fun b e => .inr (by have := HA.out.2.2.2.2.2.2.2.1; omega)), HA.out.2.2.2.2.2.1, fun b e => by have := HA.out.2.2.2.2.2.2.2.2 b e; omega, by have := HA.out.2.1.lt; have := HA.out.2.2.2.2.2.2.2.1; omega, by have := HA.out.1.zs; have := HA.out.2.2.2.2.2.2.2.1; omega, by have := HA.out.2.2.2.2.2.2.2.1; omega⟩)
          obtain ⟨zd, hzd⟩ : ∃ b, b = z9 + 1 := ⟨_, rfl⟩
          have hk16 : k ≤ 16 := HMA.out.2.2.2.2
          rw [← hzd] at HAL
          go_upto_block 0 with fail
          clear HA q0 q1 g0 g1 g2 r0 r1 hne hkk hgl hzd
          go_cut [90] (fun _ wc1 => Hid (AlI W (.slice px nx cx) over z Z p k c ls z6 pe ce O2 wp cA zd wc1))
          case first => as_aux_lemma =>
            go_wp2
            go_loopw [90] (fun iv wr => ∃ i : Nat, i ≤ k ∧ iv = .int .i64 (i : Int) ∧ Hid (AlI W (.slice px nx cx) over z Z p k c ls z6 pe ce O2 wp cA zd wr)) (fun iv _ => k - (intOf iv).toNat)
            case atStart => exact ⟨0, Nat.zero_le _, rfl, HAL⟩
            case round =>
              clear HAL
              obtain ⟨i, hi, rfl, HX⟩ := hrel
              by_cases hlt : i < k
              · have hil : i < ls.length := by have := HMA.out.2.2.2.1; omega
                obtain ⟨p', c', e, -, -, hc⟩ := HX.out.q.row
                injection e with e1 e2 e3
                subst e1 e3
                obtain ⟨b, off, rfl, -, hcs⟩ := hc (by rintro rfl; simp at hil)
                obtain ⟨hx, hy⟩ := hcs i hil
                obtain ⟨x, hxe⟩ : ∃ x, x = ls[i].1 := ⟨_, rfl⟩
                obtain ⟨y, hye⟩ : ∃ x, x = ls[i].2 := ⟨_, rfl⟩
                rw [← hxe] at hx
                rw [← hye] at hy
                have hiw : i < (whats ls).length := by rw [whats_len]; exact hil
                obtain ⟨pw', cw', ew, hcw⟩ := nums_of_owns (by rw [whats_len]; exact HMA.out.2.2.2.1.symm) HX.out.all
                injection ew with ew1 ew2 ew3
                subst ew1 ew3
                obtain ⟨bw, ow, rfl, hcw2⟩ := hcw (by intro e; rw [e] at hiw; simp at hiw)
                have hw := hcw2 i hiw
                have hwy : (whats ls)[i] = y := (whats_get ls i hil hiw).trans hye.symm
                have HIK := Lib.hid hlt
                rw [hwy] at hw
                obtain ⟨zt, hzt⟩ : ∃ z, z = wr.heap.size := ⟨_, rfl⟩
                obtain ⟨w2, hw2⟩ : ∃ X : World, X = wr.alloc (.cells #[.int .u64 x, .int .u64 y] 53) := ⟨_, rfl⟩
                have hb2 : Below wr.heap.size wr w2 := by rw [hw2]; exact below1 _ _
                have H2 := Lib.hid (show AlI W (.slice px nx cx) over z Z (some ⟨b, off, none⟩) k c ls z6 pe ce O2 (some ⟨bw, ow, none⟩) cA zd w2 ∧ CBox w2 zt x y ∧ w2.cell? ⟨bw, ow + i, none⟩ = some (.int .u64 y) from ⟨HX.out.below hb2, by rw [hw2, hzt]; exact CBox.new _ _ _, below_cell hb2 hw⟩)
                have HW2 := Lib.hid (And.intro hw2 hzt)
                clear hc hcs hxe hye e2 hcw hcw2 ew2 hwy hw hw2 hzt hb2 hiw
                have hi0 : (0 : Int) ≤ (i : Int) := by omega
                have hik : (i : Int) < (k : Int) := by omega
                go_upto_region 14 with fail
                rw [← HW2.out.1, ← HW2.out.2]
                clear HW2 hx hy
                obtain ⟨c0, c1⟩ := H2.out.2.1.cells
                have hw := H2.out.2.2
                have hyy : (y != y) = false := by simp
                go_quiet (fail)
                have H3 := Lib.hid (H2.out.1.below (below_drewN (Below.refl _ w2) nq))
                clear c0 c1 hw hyy
                go_wp2
                go_roundw
                case rel => exact ⟨i + 1, HIK.out, by go_num, H3⟩
                case measure => have := HIK.out; simp [intOf]; omega
              · go_wp2
                go_meet
                exact HX
          case rest =>
            have HX := hcut
            clear HAL hcut
            obtain ⟨e0, e1⟩ := HX.out.e.cells
            obtain ⟨z15, hz15⟩ : ∃ b, b = wc.heap.size := ⟨_, rfl⟩
            obtain ⟨wd, hwd⟩ : ∃ X : World, X = wc.alloc (.cells #[.slice pe k ce, .int .u64 O2] 25) := ⟨_, rfl⟩
            have hbd : Below wc.heap.size wc wd := by rw [hwd]; exact below1 _ _
            have HS0 := Lib.hid (show SmI W (.slice px nx cx) over z Z p k c ls z6 pe ce O2 wp cA zd z15 0 pe k ce none 0 wd from
              ⟨HX.out.below hbd, by rw [hwd, hz15]; exact QBox.new _ _ _, (HX.out.cb.below hbd).sub (fun b e => by have := HX.out.zs; rcases e with e | e; omega; cases e), World.ownsRow_nil _ _ _ _, by have := HX.out.zs; omega, Nat.zero_le _, rfl⟩)
            have HWD' := Lib.hid (And.intro hwd hz15)
            clear hwd hbd hz15 HX
            go_upto_block 2 with fail
            rw [← HWD'.out.1, ← HWD'.out.2]
            clear HWD' e0 e1
            go_cut [14] (fun s14 wc2 => ∃ (j : Nat) (pd : Option Addr) (nd cd : Nat) (ps : Option Addr) (cs : Nat), s14 = .slice ps j cs ∧ Hid (SmI W (.slice px nx cx) over z Z p k c ls z6 pe ce O2 wp cA zd z15 j pd nd cd ps cs wc2))
            case first => as_aux_lemma =>
              go_wp2
              go_loopw [106, 14] (fun iv s14 wr => ∃ i : Nat, i ≤ m ∧ iv = .int .i64 (i : Int) ∧ ∃ (j : Nat) (pd : Option Addr) (nd cd : Nat) (ps : Option Addr) (cs : Nat), s14 = .slice ps j cs ∧ Hid (SmI W (.slice px nx cx) over z Z p k c ls z6 pe ce O2 wp cA zd z15 j pd nd cd ps cs wr)) (fun iv _ _ => m - (intOf iv).toNat)
              case atStart => exact ⟨0, Nat.zero_le _, rfl, 0, pe, k, ce, none, 0, rfl, HS0⟩
              case round =>
                clear HS0
                obtain ⟨i, hi, rfl, j, pd, nd, cd, ps, cs, rfl, HX⟩ := hrel
                by_cases hlt : i < m
                · have him : i < ws.length := by have := HWD.out.2.1; omega
                  obtain ⟨pw', cw', e, hcw⟩ := nums_below HWD.out.1 HX.out.al.q.b
                  injection e with e1 e2 e3
                  subst e1 e3
                  obtain ⟨bw, ow, rfl, hcs⟩ := hcw (by rintro e; rw [e] at him; simp at him)
                  have hx := hcs i him
                  have hxr := HWD.out.2.2 ws[i] (List.getElem_mem _)
                  obtain ⟨x, hxe⟩ : ∃ x, x = ws[i] := ⟨_, rfl⟩
                  rw [← hxe] at hx hxr
                  clear hcs hcw hxe e2
                  have HIM := Lib.hid hlt
                  by_cases h8 : i = 8
                  · subst h8
                    go_wp2
                    go_meet
                    exact ⟨j, pd, nd, cd, ps, cs, rfl, HX⟩
                  · have h8' : ((i : Int) == 8) = false := by rw [beq_eq_false_iff_ne]; omega
                    have h8n : ¬ (i : Int) = 8 := by omega
                    obtain ⟨d0, d1⟩ := HX.out.d.cells
                    obtain ⟨M, hM5, hMe⟩ := part5 x
                    have hdd := dones_all O2 (ls.drop j) (fun d hd => HMA.out.2.2.1 d (List.mem_of_mem_drop hd))
                    have hdc := drain1_c (.slice pd nd cd) O2 (ls.drop j) (M : Int) wr (HX.out.dr.sub (fun _ h => False.elim h)) HO2.out.2.1 (by omega)
                    have hmj := may_dropn HMA.out.2.1 j
                    have hE : drainE O2 (ls.drop j) (M : Int) = 0 := by unfold drainE; rw [if_pos hmj, if_neg (by omega)]
                    clear hmj
                    go_wp2_with fail
                    (with_reducible refine hdc.mono ?_)
                    rintro e wa ⟨hq, hba⟩
                    clear hdc d0 d1
                    rcases hq with ⟨_, kk, v1, wq, cq, hkk, rfl, ho1, hw1⟩ | ⟨hq, _⟩
                    · rw [Int.toNat_natCast, hdd] at hkk hw1
                      rw [List.drop_drop] at ho1
                      have hkM : kk ≤ M := by rw [hkk, List.length_take]; omega
                      have hkj : j + kk ≤ k := by
                        have h1 : kk ≤ (ls.drop j).length := by rw [hkk, List.length_take]; omega
                        rw [List.length_drop] at h1
                        have := HX.out.jk
                        have := HMA.out.2.2.2.1
                        omega
                      have htk : (ls.drop j).take M = (ls.drop j).take kk := by
                        rw [hkk, List.length_take]
                        rcases Nat.le_total M (ls.drop j).length with h | h
                        · rw [Nat.min_eq_left h]
                        · rw [Nat.min_eq_right h, List.take_of_length_le h, List.take_length]
                      rw [htk] at hw1
                      obtain ⟨p2, c2, rfl, -⟩ := id ho1.1
                      obtain ⟨n2, hn2⟩ : ∃ b, b = (List.drop (j + kk) ls).length := ⟨_, rfl⟩
                      rw [← hn2] at ho1 ⊢
                      obtain ⟨zt, hzt⟩ : ∃ b, b = wa.heap.size := ⟨_, rfl⟩
                      obtain ⟨wb, hwb⟩ : ∃ X : World, X = wa.alloc (.cells #[.slice p2 n2 c2, .int .u64 O2] 25) := ⟨_, rfl⟩
                      have hbb : Below wa.heap.size wa wb := by rw [hwb]; exact below1 _ _
                      have hab := below_then hba hba.size hbb
                      have HB := Lib.hid (show Below wr.heap.size wr wb ∧ QBox wb zt (.slice p2 n2 c2) O2 ∧ CbOut (fun q => q < wr.heap.size) wb (.slice p2 n2 c2) (ls.drop (j + kk)) ∧ wr.heap.size ≤ zt ∧ n2 = k - (j + kk) ∧ j + kk ≤ k from
                        ⟨hab, by rw [hwb, hzt]; exact QBox.new _ _ _, ho1.1.below hbb, by have := hba.size; omega, by rw [hn2, List.length_drop, ← HMA.out.2.2.2.1], hkj⟩)
                      obtain ⟨q, r, w2, hap, ho2, hk2, hl2⟩ := run_app_words (z15 + 1) (.slice ps j cs) j (whats (ls.take j)) wb (owns_below HX.out.so hab) wr.heap.size wq kk cq (whats ((ls.drop j).take kk)) (owns_below hw1 hbb) (by have := HX.out.jk; omega) (by have := HX.out.d.lt; have := hab.size; omega)
                      have hwt : whats (ls.take j) ++ whats ((ls.drop j).take kk) = whats (ls.take (j + kk)) := by unfold whats; rw [← List.map_append, ← List.take_add]
                      rw [hwt] at ho2
                      have hus : ∀ b, some b = (Value.slice ps j cs).ownBlock → z15 + 1 ≤ b ∧ b < wr.heap.size := fun b e => HX.out.so.lt b e.symm
                      have hx2 := HB.out.2.1.keeps hk2 (fun e => by have := hus _ e; have := HB.out.2.2.2.1; omega)
                      have hd2 := (HX.out.d.below hab).keeps hk2 (fun e => by have := hus _ e; omega)
                      obtain ⟨w3, hw3⟩ : ∃ X : World, X = (w2.setCell ⟨z15, 0, none⟩ (.slice p2 n2 c2)).setCell ⟨z15, 1, none⟩ (.int .u64 O2) := ⟨_, rfl⟩
                      have H3 := Lib.hid (HX.out.step HB.out.1 HB.out.2.2.1 HB.out.2.2.2.2.2 HB.out.2.2.2.2.1 ho2 hk2 hl2 hw3)
                      have HWB := Lib.hid (And.intro hwb hzt)
                      have HW3 := Lib.hid hw3
                      have hkMi : (kk : Int) ≤ (M : Int) := by omega
                      obtain ⟨r0, r1⟩ := hx2.cells
                      obtain ⟨d0, d1⟩ := hd2.cells
                      have m0 := hd2.marks 0
                      have m1 := hd2.marks 1
                      clear hkk hw1 ho1 htk hn2 hwb hzt hbb hab hba hdd ho2 hk2 hl2 hwt hus hx2 hd2 hw3 hE hkj
                      go_upto_region 24 with fail
                      rw [← HWB.out.1, ← HWB.out.2]
                      clear HWB
                      go_wp2_with (first | (at_builtin; refine wpList_run_app rfl _ _ rfl rfl (.slice ps j cs) (.slice wq kk cq) (.slice q (j + kk) r) w2 rfl rfl hap ?_; clear hap) | fail)
                      rw [← HW3.out]
                      go_roundw
                      case rel => exact ⟨i + 1, HIM.out, by go_num, j + kk, p2, n2, c2, q, r, rfl, H3⟩
                      case measure => have := HIM.out; simp [intOf]; omega
                    · exact absurd hE hq
                · go_wp2
                  go_meet
                  exact ⟨j, pd, nd, cd, ps, cs, rfl, HX⟩
            case rest =>
              clear HS0
              obtain ⟨j, pd, nd, cd, ps, cs, rfl, HX⟩ := hcut
              obtain ⟨d0, d1⟩ := HX.out.d.cells
              have hdd := dones_all O2 (ls.drop j) (fun d hd => HMA.out.2.2.1 d (List.mem_of_mem_drop hd))
              have hdc := drain1_c (.slice pd nd cd) O2 (ls.drop j) 16 wc (HX.out.dr.sub (fun _ h => False.elim h)) HO2.out.2.1 (by decide)
              have hE : drainE O2 (ls.drop j) 16 = 0 := by unfold drainE; rw [if_pos (may_dropn HMA.out.2.1 j), if_neg (by decide)]
              go_wp2_with fail
              (with_reducible refine hdc.mono ?_)
              rintro e wa ⟨hq, hba⟩
              clear hdc d0 d1
              rcases hq with ⟨_, kk, v1, wq, cq, hkk, rfl, ho1, hw1⟩ | ⟨hq, _⟩
              · have ht16 : List.take (Int.toNat 16) (dones O2 (ls.drop j)) = ls.drop j := by rw [hdd]; exact List.take_of_length_le (by rw [List.length_drop]; have := HMA.out; show ls.length - j ≤ 16; omega)
                rw [ht16] at hkk hw1
                have hkj : j + kk = k := by rw [hkk, List.length_drop]; have := HX.out.jk; have := HMA.out; omega
                obtain ⟨p2, c2, rfl, -⟩ := id ho1.1
                obtain ⟨n2, hn2⟩ : ∃ b, b = (List.drop kk (List.drop j ls)).length := ⟨_, rfl⟩
                rw [← hn2]
                obtain ⟨wb, hwb⟩ : ∃ X : World, X = wa.alloc (.cells #[.slice p2 n2 c2, .int .u64 O2] 25) := ⟨_, rfl⟩
                have hbb : Below wa.heap.size wa wb := by rw [hwb]; exact below1 _ _
                have hab := below_then hba hba.size hbb
                have HB := Lib.hid (show SmI W (.slice px nx cx) over z Z p k c ls z6 pe ce O2 wp cA zd z15 j pd nd cd ps cs wb ∧ wb.ownsRow 0 23 1 (.slice wq kk cq) kk ((whats (ls.drop j)).map (Value.int .u64)) ∧ j + kk = k from ⟨HX.out.below hab, (owns_below hw1 hbb).mono (Nat.zero_le _), hkj⟩)
                have HWB := Lib.hid hwb
                clear hdd hkk hw1 ho1 ht16 hkj hn2 hwb hbb hab hba hE HX
                go_upto_region 30 with fail
                rw [← HWB.out]
                clear HWB
                obtain ⟨q0, q1⟩ := HB.out.1.al.q.q.cells
                have hnc := new_c over wb
                go_wp2_with fail
                (with_reducible refine hnc.mono ?_)
                rintro e wx ⟨hq, hbx⟩
                have HKJ := Lib.hid HB.out.2.2
                have hnE : newE over = 0 := if_pos (by omega)
                rw [hnE, if_pos rfl] at hq
                obtain ⟨p3, c3, rfl, o3⟩ := ansQ_row hq
                rw [List.length_nil] at o3 ⊢
                obtain ⟨z23, hz23⟩ : ∃ b, b = wx.heap.size := ⟨_, rfl⟩
                obtain ⟨wd2, hwd2⟩ : ∃ X : World, X = wx.alloc (.cells #[.slice p3 0 c3, .int .u64 over] 25) := ⟨_, rfl⟩
                have hbd : Below wx.heap.size wx wd2 := by rw [hwd2]; exact below1 _ _
                have hab := below_then hbx hbx.size hbd
                have HD := Lib.hid (show SmI W (.slice px nx cx) over z Z p k c ls z6 pe ce O2 wp cA zd z15 j pd nd cd ps cs wd2 ∧ wd2.ownsRow 0 23 1 (.slice wq kk cq) kk ((whats (ls.drop j)).map (Value.int .u64)) ∧ QBox wd2 z23 (.slice p3 0 c3) over ∧ CbOut NoS wd2 (.slice p3 0 c3) [] ∧ NilZ (.slice p3 0 c3) from
                  ⟨HB.out.1.below hab, owns_below HB.out.2.1 hab, by rw [hwd2, hz23]; exact QBox.new _ _ _, ((cb_of_owns o3).below hbd).sub (fun _ h => False.elim h), nilZ_owns o3⟩)
                have HW2 := Lib.hid (And.intro hwd2 hz23)
                clear hq o3 hbx hbd hab hnE hwd2 hz23 hnc q0 q1
                go_upto_region 31 with fail
                rw [← HW2.out.1, ← HW2.out.2]
                clear HW2
                obtain ⟨q0, q1⟩ := HD.out.1.al.q.q.cells
                obtain ⟨n0, n1⟩ := HD.out.2.2.1.cells
                have hm00 : mayB over [] = true := may_mk (may_split HMA.out.1).1 (by simp) rfl (fun d hd => by simp at hd)
                have hjE : joinE over ls over [] = 0 := by unfold joinE; rw [if_pos ⟨HMA.out.1, hm00⟩, if_pos rfl, if_neg (by have := HMA.out; simp; omega)]
                have hjE2 : joinE over [] over ls = 0 := by unfold joinE; rw [if_pos ⟨hm00, HMA.out.1⟩, if_pos rfl, if_neg (by have := HMA.out; simp; omega)]
                have HJE2 := Lib.hid hjE2
                have hjc := join_c (.slice p k c) (.slice p3 0 c3) over over ls [] wd2 (HD.out.1.al.q.row.sub (fun _ h => False.elim h)) (fun p' n' c' e hp => by injection e with e1 _ e3; subst e1 e3; exact HD.out.1.al.q.nz hp) HD.out.2.2.2.1 ho ho
                clear hm00 hjE2
                go_wp2_with fail
                (with_reducible refine hjc.mono ?_)
                rintro e wx ⟨hq, hbx⟩
                rcases hq with ⟨_, hq⟩ | ⟨hq, _⟩
                · rw [joinL_nil] at hq
                  obtain ⟨p4, c4, rfl, o4⟩ := ansQ_row hq
                  have hnl : ls.length = k := HMA.out.2.2.2.1.symm
                  rw [hnl] at o4 ⊢
                  obtain ⟨z24, hz24⟩ : ∃ b, b = wx.heap.size := ⟨_, rfl⟩
                  obtain ⟨we2, hwe2⟩ : ∃ X : World, X = wx.alloc (.cells #[.slice p4 k c4, .int .u64 over] 25) := ⟨_, rfl⟩
                  have hbd : Below wx.heap.size wx we2 := by rw [hwe2]; exact below1 _ _
                  have hab := below_then hbx hbx.size hbd
                  have HE2 := Lib.hid (show SmI W (.slice px nx cx) over z Z p k c ls z6 pe ce O2 wp cA zd z15 j pd nd cd ps cs we2 ∧ we2.ownsRow 0 23 1 (.slice wq kk cq) kk ((whats (ls.drop j)).map (Value.int .u64)) ∧ QBox we2 z23 (.slice p3 0 c3) over ∧ CbOut NoS we2 (.slice p3 0 c3) [] ∧ NilZ (.slice p3 0 c3) ∧ QBox we2 z24 (.slice p4 k c4) over ∧ CbOut (fun b => b < wd2.heap.size) we2 (.slice p4 k c4) ls ∧ wd2.heap.size ≤ z24 from
                    ⟨HD.out.1.below hab, owns_below HD.out.2.1 hab, HD.out.2.2.1.below hab, HD.out.2.2.2.1.below hab, HD.out.2.2.2.2, by rw [hwe2, hz24]; exact QBox.new _ _ _, by have h := (cb_of_owns (hnl ▸ o4)).below hbd; rwa [hnl] at h, by have := hbx.size; omega⟩)
                  have HW2 := Lib.hid (And.intro hwe2 hz24)
                  have HSZ := Lib.hid (show ∀ b, some b = (Value.slice ps j cs).ownBlock → z15 + 1 ≤ b ∧ b < wd2.heap.size from fun b e => HD.out.1.so.lt b e.symm)
                  clear hq o4 hbx hbd hab hnl hwe2 hz24 hjc q0 q1 n0 n1 hjE HB
                  go_upto_region 32 with fail
                  rw [← HW2.out.1, ← HW2.out.2]
                  clear HW2
                  obtain ⟨q0, q1⟩ := HE2.out.1.al.q.q.cells
                  obtain ⟨n0, n1⟩ := HE2.out.2.2.1.cells
                  have hjc := join_c (.slice p3 0 c3) (.slice p k c) over over [] ls we2 HE2.out.2.2.2.1 HE2.out.2.2.2.2.1 (HE2.out.1.al.q.row.sub (fun _ h => False.elim h)) ho ho
                  go_wp2_with fail
                  (with_reducible refine hjc.mono ?_)
                  rintro e wx ⟨hq, hbx⟩
                  rcases hq with ⟨_, hq⟩ | ⟨hq, _⟩
                  · rw [joinL_none] at hq
                    obtain ⟨p5, c5, rfl, o5⟩ := ansQ_row hq
                    have hnl : ls.length = k := HMA.out.2.2.2.1.symm
                    rw [hnl] at o5 ⊢
                    obtain ⟨z26, hz26⟩ : ∃ b, b = wx.heap.size := ⟨_, rfl⟩
                    obtain ⟨wf2, hwf2⟩ : ∃ X : World, X = wx.alloc (.cells #[.slice p5 k c5, .int .u64 over] 25) := ⟨_, rfl⟩
                    have hbd : Below wx.heap.size wx wf2 := by rw [hwf2]; exact below1 _ _
                    have hab := below_then hbx hbx.size hbd
                    have hsm := HE2.out.1.below hab
                    obtain ⟨q, r, wg, hap, ho2, hk2, hl2⟩ := run_app_words (z15 + 1) (.slice ps j cs) j (whats (ls.take j)) wf2 hsm.so 0 wq kk cq (whats (ls.drop j)) (owns_below HE2.out.2.1 hab) (by have := HKJ.out; have := HMA.out; omega) (by have := hsm.d.lt; omega)
                    have hwt : whats (ls.take j) ++ whats (ls.drop j) = whats ls := by unfold whats; rw [← List.map_append, List.take_append_drop]
                    rw [hwt, HKJ.out] at ho2
                    rw [HKJ.out] at hap hl2
                    have hz24 := HE2.out.2.2.2.2.2.1.lt
                    have HUS := Lib.hid (fun b (e : some b = (Value.slice ps j cs).ownBlock) => (show z15 + 1 ≤ b ∧ b < wd2.heap.size ∧ b < we2.heap.size by have := HSZ.out b e; have := HE2.out.2.2.2.2.2.2.2; omega))
                    have HG2 := Lib.hid (show AlI W (.slice px nx cx) over z Z p k c ls z6 pe ce O2 wp cA zd wg ∧ QBox wg z24 (.slice p4 k c4) over ∧ CbOut NoS wg (.slice p4 k c4) ls ∧ QBox wg z26 (.slice p5 k c5) over ∧ CbOut NoS wg (.slice p5 k c5) ls ∧ NumsAt wg .u64 (.slice q k r) (whats ls) from
                      ⟨hsm.al.keeps hk2 (fun b e => by have := HUS.out b e; have := hsm.zs; omega),
                       (HE2.out.2.2.2.2.2.1.below hab).keeps hk2 (fun e => by have := HUS.out _ e; have := HE2.out.2.2.2.2.2.2.2; omega),
                       ((HE2.out.2.2.2.2.2.2.1.below hab).keeps (hk2.sub (fun b _ e => (HUS.out b e).2.1))).sub (fun _ h => False.elim h),
                       (show QBox wf2 z26 (.slice p5 k c5) over by rw [hwf2, hz26]; exact QBox.new _ _ _).keeps hk2 (fun e => by have := HUS.out _ e; have := hbx.size; omega),
                       ((show CbOut (fun b => b < we2.heap.size) wf2 (.slice p5 k c5) ls by have h := (cb_of_owns (hnl ▸ o5)).below hbd; rwa [hnl] at h).keeps (hk2.sub (fun b _ e => (HUS.out b e).2.2))).sub (fun _ h => False.elim h),
                       nums_of_owns (by rw [whats_len]; exact hnl) ho2⟩)
                    have HW3 := Lib.hid (And.intro hwf2 hz26)
                    clear hq o5 hbx hbd hab hwf2 hz26 hjc q0 q1 n0 n1 hsm ho2 hk2 hl2 hwt hz24 HE2 HD
                    go_upto_region 33 with fail
                    rw [← HW3.out.1, ← HW3.out.2]
                    clear HW3
                    have heq := equalW_c (.slice q k r) (.slice wp k cA) (whats ls) (whats ls) wg HG2.out.2.2.2.2.2 (nums_of_owns (by rw [whats_len]; exact hnl) HG2.out.1.all) (by rw [whats_len, hnl]; omega) (by rw [whats_len, hnl]; omega)
                    rw [decide_eq_true (rfl : whats ls = whats ls)] at heq
                    clear hnl
                    go_wp2_with (first | (at_builtin; refine wpList_want_app (by kernel_rfl) _ _ rfl rfl (.slice ps j cs) (.slice wq kk cq) (.slice q k r) wg rfl rfl hap ?_; clear hap) | fail)
                    (with_reducible refine heq.mono ?_)
                    rintro e wh ⟨rfl, hbh⟩
                    have HH := Lib.hid (show AlI W (.slice px nx cx) over z Z p k c ls z6 pe ce O2 wp cA zd wh ∧ QBox wh z24 (.slice p4 k c4) over ∧ CbOut NoS wh (.slice p4 k c4) ls ∧ QBox wh z26 (.slice p5 k c5) over ∧ CbOut NoS wh (.slice p5 k c5) ls from
                      ⟨HG2.out.1.below hbh, HG2.out.2.1.below hbh, HG2.out.2.2.1.below hbh, HG2.out.2.2.2.1.below hbh, HG2.out.2.2.2.2.1.below hbh⟩)
                    clear heq hbh HG2
                    obtain ⟨a0, a1⟩ := HH.out.2.1.cells
                    obtain ⟨q0, q1⟩ := HH.out.1.q.q.cells
                    have hsc := same_c (.slice p4 k c4) (.slice p k c) over over ls ls wh HH.out.2.2.1 (HH.out.1.q.row.sub (fun _ h => False.elim h))
                    rw [sameB_self] at hsc
                    go_wp2_with fail
                    (with_reducible refine hsc.mono ?_)
                    rintro e wi ⟨rfl, hbi⟩
                    have HI := Lib.hid (show AlI W (.slice px nx cx) over z Z p k c ls z6 pe ce O2 wp cA zd wi ∧ QBox wi z26 (.slice p5 k c5) over ∧ CbOut NoS wi (.slice p5 k c5) ls from
                      ⟨HH.out.1.below hbi, HH.out.2.2.2.1.below hbi, HH.out.2.2.2.2.below hbi⟩)
                    clear hsc hbi HH a0 a1 q0 q1
                    obtain ⟨a0, a1⟩ := HI.out.2.1.cells
                    obtain ⟨q0, q1⟩ := HI.out.1.q.q.cells
                    have hsc := same_c (.slice p5 k c5) (.slice p k c) over over ls ls wi HI.out.2.2 (HI.out.1.q.row.sub (fun _ h => False.elim h))
                    rw [sameB_self] at hsc
                    go_wp2_with fail
                    (with_reducible refine hsc.mono ?_)
                    rintro e wj ⟨rfl, hbj⟩
                    have HJ := Lib.hid (HI.out.1.q.below hbj)
                    clear hsc hbj HI a0 a1 q0 q1
                    go_wp2
                    go_ret
                    exact ⟨rfl, HJ.out.b⟩
                  · exact absurd HJE2.out hq
                · exact absurd hjE hq
              · exact absurd hE hq
        · exact absurd hE hq
      · exact absurd hE hq
  · have hE : chkE over ls = 230 := if_neg hm0
    rw [hE]
    clear hE hm0
    go_wp2
    go_ret
    exact ⟨rfl, HQ4.out.b⟩

end Go.Proofs.Ytdagcimkajmkaaa
namespace Go.Proofs.Ytdagcimkajmkaaa
open Go.RowKit Go.Shelf
open Go.ChangeShapes Go.WideShapes Go.ChangeAt Go.Deep
open Go.ChangeMaps (open_string shut_string)

set_option maxRecDepth 100000 in
theorem queueAll_lifted (os : Os) (started : os.Started) (H : Type) (enc : TypeId × Value → H) :
    ReturnsInHanded {} Try.checked os 6 .any (Rows.queueAllSpec.pre6 enc Try.prog Try.f6 Rows.queueAllRow.domain false) (Rows.queueAllSpec.post enc Try.prog Try.f6 false true false false) := by
  refine returnsInHanded_of_change (C := Try.checked) own started (by kernel_rfl) Try.func6
    (ChangeSpec.witness6 (enc := enc) (C := Try.checked) false ⟨#[], #[.agg #[.slice none 0 0, .int .u64 0], .slice none 0 0], []⟩ 8 (by kernel_rfl) (by kernel_rfl) (by kernel_rfl) (by kernel_rfl)) ?_
  intro W base args ds gs before hval0 hW hcnd _
  have hval : ∀ (j : Nat) t v, Try.f6.params[j]? = some t → args[j]? = some v → Value.okWide Try.prog W .any base t v := hval0
  have hW' := hW
  obtain ⟨p, q, hA0, hV, rfl, hfz, hnd⟩ := hW
  have hA : DataW.TrodAll enc Try.prog W 0 (fun _ => true) true Try.f6.params.toList args.toList ds p := hA0
  rw [Try.params6] at hA hval
  have hA2 := hA
  obtain ⟨v0, vs0, d0, ds0, pp0, qq0, hargs, rfl, rfl, h0, r0⟩ := trodAll_cons hA
  obtain ⟨v1, vs1, d1, ds1, pp1, qq1, rfl, rfl, rfl, h1, r1⟩ := trodAll_cons r0
  obtain ⟨rfl, rfl, rfl⟩ := trodAll_nil r1
  obtain rfl : args = #[v0, v1] := by cases args; simp_all
  obtain ⟨rfl, rfl⟩ := trodVars_none hV
  obtain ⟨u0, k0, x0, rfl, a0, z0, g0, i0, s0⟩ := queue_open (hval 0 25 v0 rfl rfl) h0
  obtain ⟨x1, a1, g1, l1⟩ := nums_open Try.underlying38 Try.underlying3 (by kernel_rfl) (hval 1 38 v1 rfl rfl) h1
  clear hA0 hval0
  simp only [List.append_nil] at hW'
  refine (queueAll_c u0 k0 x0 v1 x1 W a0 z0 i0 (fun c hc => (g0 c hc).1) a1 l1 (rg_i64 g1)).mono fun e W' ⟨he, hb⟩ => ?_
  subst he
  exact ⟨_, rfl, _, _, _, [], _, [], hW', trodAll_cons_mk (shut_bool Try.underlying4 _) trodAll_mk0, trodAll_stays laidOut hb (by kernel_rfl) hA2 (fun x hx => by simpa using hW'.lt x (by simpa using hx)), rfl, hb.frame _, fun h => by cases h⟩

theorem queueAll_holds : Rows.QueueAllSaid :=
  OpenClaim.holds_of_wide 6 Try.f6 rfl rfl rfl rfl rfl rfl rfl ⟨rfl, rfl, rfl, rfl, rfl⟩ rfl rfl rfl rfl rfl (by kernel_rfl) Try.func6 (by kernel_rfl)
    (of_decide_eq_true (by kernel_rfl)) (by unfold Func.isWrapper; first | (rw [if_pos (by decide +kernel)]; kernel_rfl) | (rw [if_neg (by decide +kernel)]; exact ⟨rfl, rfl⟩))
    (fun os started H enc _ => queueAll_lifted os started H enc)

end Go.Proofs.Ytdagcimkajmkaaa
