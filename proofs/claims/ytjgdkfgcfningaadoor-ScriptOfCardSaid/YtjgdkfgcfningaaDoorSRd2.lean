/-
  The reader of package script: call reads a call, picks reads picks.
  Conditions: the reader lies so; the package's table of parts is as it was laid.
-/
import Derived.Test.YtjgdkfgcfningaaDoorSRd
import Derived.Laws.CopyRow
import Derived.Laws.CopyOwn
namespace Go.Proofs.YtjgdkfgcfningaaDoor
open Go.RowKit Go.Shelf
attribute [local go_sem] Oper.semAt_some

/-- Block z holds a row of slices. -/
def SBox (w : World) (z : Nat) (vs : List Value) : Prop := w.heap[z]? = some (.cells vs.toArray 47 (0, 0))
theorem SBox.lt {w : World} {b : Nat} {vs : List Value} (h : SBox w b vs) : b < w.heap.size := (Array.getElem?_eq_some_iff.1 h).1
theorem SBox.below {w w' : World} {b : Nat} {vs : List Value} (h : SBox w b vs) (hb : Below w.heap.size w w') : SBox w' b vs := (hb.block b h.lt).trans h
theorem SBox.keeps {S : Nat → Prop} {w w' : World} {b : Nat} {vs : List Value} (h : SBox w b vs) (hk : Keeps S w w') (hz : ¬ S b) : SBox w' b vs := (hk.block b h.lt hz).trans h
theorem SBox.set {w : World} {b : Nat} {vs : List Value} (h : SBox w b vs) (i : Nat) (x : Value) : SBox (w.setCell ⟨b, i, none⟩ x) b (vs.set i x) := by
  unfold SBox
  rw [heap_setCell_same w b i _ _ x h]
  simp
theorem SBox.cell {w : World} {b : Nat} {vs : List Value} (h : SBox w b vs) (i : Nat) (hi : i < vs.length) : w.cell? ⟨b, i, none⟩ = some vs[i] := by
  have h' : w.heap[b]? = _ := h
  simp [World.cell?, h', hi]
theorem SBox.free {w : World} {b : Nat} {vs : List Value} (h : SBox w b vs) (i : Nat) : w.frozen? ⟨b, i, none⟩ = false := by
  have h' : w.heap[b]? = _ := h
  simp [World.frozen?, h']
/-- The rows of calls, each in a block of its own. -/
structure RowsC (w : World) (z : Nat) (vs : List Value) (ls : List (List CallM)) : Prop where
  box : SBox w z vs
  len : vs.length = ls.length
  own : ∀ j (h : j < vs.length) (h2 : j < ls.length), w.ownsRow (z + 1) 53 5 vs[j] ls[j].length (cellsC ls[j])
  apart : ∀ a b (ha : a < vs.length) (hb : b < vs.length), a ≠ b → ∀ g, vs[a].ownBlock = some g → vs[b].ownBlock ≠ some g
theorem RowsC.keeps {S : Nat → Prop} {w w' : World} {z : Nat} {vs : List Value} {ls : List (List CallM)} (h : RowsC w z vs ls) (hk : Keeps S w w') (hz : ¬ S z) (hS : ∀ j (hj : j < vs.length) g, vs[j].ownBlock = some g → ¬ S g) : RowsC w' z vs ls :=
  ⟨h.box.keeps hk hz, h.len, fun j h1 h2 => hk.row (h.own j h1 h2) (hS j h1), h.apart⟩
theorem RowsC.below {w w' : World} {z : Nat} {vs : List Value} {ls : List (List CallM)} (h : RowsC w z vs ls) (hb : Below w.heap.size w w') : RowsC w' z vs ls :=
  h.keeps (S := fun _ => False) (Keeps.of_below hb) (fun h => h) (fun _ _ _ _ h => h)
/-- What is left behind an append to one of the rows, and its store. -/
theorem RowsC.step {w w1 : World} {z p : Nat} {vs : List Value} {ls : List (List CallM)} {x : CallM} {v' : Value} {o : Obj} (h : RowsC w z vs ls) (hp : p < vs.length) (hp2 : p < ls.length) (hown : w1.ownsRow (z + 1) 53 5 v' (ls[p].length + 1) (cellsC ls[p] ++ cells5 x))
    (hg : (w.alloc o).grownBy w1 vs[p].ownBlock) (hat : v'.ownBlock = vs[p].ownBlock ∨ v'.ownBlock = some (w.alloc o).heap.size) : RowsC (w1.setCell ⟨z, p, none⟩ v') z (vs.set p v') (addC ls p x) := by
  have hne : ∀ j (hj : j < vs.length) (hj2 : j < ls.length), ∀ g, vs[j].ownBlock = some g → z + 1 ≤ g ∧ g < w.heap.size := fun j hj hj2 g hg => (h.own j hj hj2).lt g hg
  have hl := h.len
  have hzn : ∀ row, vs[p].ownBlock = some row → z ≠ row := fun row hr => by have := (hne p hp hp2 row hr).1; omega
  have hz := h.box.lt
  have hbox1 : SBox w1 z vs := by
    refine (hg.block z (by simp; omega) fun e => ?_).trans ((Below.heap_alloc _ _ _ hz).trans h.box)
    exact hzn z e.symm rfl
  refine ⟨hbox1.set p v', by rw [List.length_set, addC_length]; exact hl, fun j hj hj2 => ?_, fun a b ha hb hab g hga => ?_⟩
  · have hj' : j < vs.length := by simpa using hj
    have hj3 : j < ls.length := by omega
    have e1 : (addC ls p x)[j] = if p = j then ls[j] ++ [x] else ls[j] := addC_get ls p x j hj3 hj2
    rw [List.getElem_set, e1]
    by_cases e : p = j
    · subst e
      rw [if_pos rfl, if_pos rfl, List.length_append, cellsC_append]
      have h5 : cellsC [x] = cells5 x := by simp [cellsC]
      rw [h5]
      exact ownsRow_setCell_other hown (fun e => by have h2 := (hown.lt _ e).1; have h2 : z + 1 ≤ z := h2; omega) _
    · rw [if_neg e, if_neg e]
      have hk : Keeps (fun q => some q = vs[p].ownBlock) (w.alloc o) w1 := by
        obtain ⟨h1, h2, h3, h4, h5⟩ := hg
        exact ⟨h1, h2, h3, h4, fun q hq hne => h5 q hq hne⟩
      have h1 := hk.row ((h.own j hj' hj3).alloc o) (fun g hg' hS => h.apart j p hj' hp (fun e' => e e'.symm) g hg' (Eq.symm hS))
      exact ownsRow_setCell_other h1 (fun e => by have h2 := (h1.lt _ e).1; have h2 : z + 1 ≤ z := h2; omega) _
  · have ha' : a < vs.length := by simpa using ha
    have hb' : b < vs.length := by simpa using hb
    rw [List.getElem_set] at hga ⊢
    by_cases ea : p = a
    · subst ea
      rw [if_pos rfl] at hga
      rw [if_neg hab]
      intro hgb
      rcases hat with h1 | h1
      · rw [h1] at hga
        exact h.apart p b hp hb' hab g hga hgb
      · rw [h1] at hga
        injection hga with hga
        have := (hne b hb' (by omega) g hgb).2
        rw [World.size_alloc] at hga
        omega
    · rw [if_neg ea] at hga
      by_cases eb : p = b
      · subst eb
        rw [if_pos rfl]
        intro hgb
        rcases hat with h1 | h1
        · rw [h1] at hgb
          exact h.apart a p ha' hp hab g hga hgb
        · rw [h1] at hgb
          injection hgb with hgb
          have := (hne a ha' (by omega) g hga).2
          rw [World.size_alloc] at hgb
          omega
      · rw [if_neg eb]
        exact h.apart a b ha' hb' hab g hga
theorem RowsC.lens {w : World} {z : Nat} {vs : List Value} {ls : List (List CallM)} (h : RowsC w z vs ls) (cap : Nat) : LensAt w (.slice (some ⟨z, 0, none⟩) ls.length cap) (ls.map List.length) := by
  refine ⟨_, cap, by rw [List.length_map], fun _ => ⟨z, 0, rfl, fun i hi => ?_⟩⟩
  rw [List.length_map] at hi
  have hi' : i < vs.length := by rw [h.len]; exact hi
  obtain ⟨p, c, e⟩ := owns_slice (h.own i hi' hi)
  have := h.box.cell i hi'
  rw [e] at this
  exact ⟨p, c, by rw [Nat.zero_add, List.getElem_map]; exact this⟩
theorem RowsC.lrow {w : World} {z cap : Nat} {vs : List Value} {ls : List (List CallM)} (h : RowsC w z vs ls) (hc : ls.length ≤ cap) : LRow w (some ⟨z, 0, none⟩) ls.length cap ls := by
  refine ⟨rfl, hc, (fun h => by cases h), fun _ => ⟨z, 0, rfl, fun i hi => ?_⟩⟩
  have hi' : i < vs.length := by rw [h.len]; exact hi
  have ho := h.own i hi' hi
  obtain ⟨p, c, e⟩ := owns_slice ho
  have := h.box.cell i hi'
  rw [e] at this ho
  exact ⟨p, c, by rw [Nat.zero_add]; exact this, VRow.of_owns ho⟩

/-- The reader lies so: what has been read, and the words that are left. -/
structure RdrP (w : World) (r z c g : Nat) (st : RdS) (ws : List Nat) (vs : List Value) (vp : Value) (p : Option Addr) (n d : Nat) : Prop where
  box : RBox w r (.int .i64 (c : Int)) (.int .i64 (g : Int)) (.slice (some ⟨z, 0, none⟩) c c) vp (.slice p n d)
  rows : RowsC w z vs st.1
  picks : w.ownsRow (z + 1) 3 1 vp st.2.length (st.2.map (Value.int .i64))
  left : Left w r p n d ws
  lt : r < z
def Rdr (w : World) (r z c g : Nat) (st : RdS) (ws : List Nat) : Prop := ∃ vs vp p n d, RdrP w r z c g st ws vs vp p n d
theorem RdrP.below {w w' : World} {r z c g : Nat} {st : RdS} {ws : List Nat} {vs : List Value} {vp : Value} {p : Option Addr} {n d : Nat} (h : RdrP w r z c g st ws vs vp p n d) (hb : Below w.heap.size w w') : RdrP w' r z c g st ws vs vp p n d :=
  ⟨h.box.below hb, h.rows.below hb, owns_below h.picks hb, h.left.below hb (by have := h.box.lt; omega), h.lt⟩
theorem Rdr.below {w w' : World} {r z c g : Nat} {st : RdS} {ws : List Nat} (h : Rdr w r z c g st ws) (hb : Below w.heap.size w w') : Rdr w' r z c g st ws := by
  obtain ⟨vs, vp, p, n, d, h⟩ := h
  exact ⟨vs, vp, p, n, d, h.below hb⟩
theorem RdrP.left' {w w' : World} {r z c g : Nat} {st : RdS} {ws ws' : List Nat} {vs : List Value} {vp : Value} {p p' : Option Addr} {n d n' d' : Nat} (h : RdrP w r z c g st ws vs vp p n d) (hk : Keeps (fun q => q = r) w w') (hb : RBox w' r (.int .i64 (c : Int)) (.int .i64 (g : Int)) (.slice (some ⟨z, 0, none⟩) c c) vp (.slice p' n' d')) (hl : Left w' r p' n' d' ws') : RdrP w' r z c g st ws' vs vp p' n' d' :=
  ⟨hb, h.rows.keeps hk (by have := h.lt; omega) (fun j hj q hq e => by
    subst e
    have h2 : j < st.1.length := by rw [← h.rows.len]; exact hj
    have := ((h.rows.own j hj h2).lt _ hq).1
    have := h.lt
    omega), hk.row h.picks (fun q hq e => by subst e; have := (h.picks.lt _ hq).1; have := h.lt; omega), hl, h.lt⟩
/-- .. of all kinds but four. -/
def Fars (W W' : World) : Prop := ∀ T, T ≠ 76 → T ≠ 47 → T ≠ 53 → T ≠ 3 → Far T W W'
theorem Fars.trans {A B C : World} (h : Fars A B) (k : Fars B C) : Fars A C := fun T h1 h2 h3 h4 => (h T h1 h2 h3 h4).trans (k T h1 h2 h3 h4)
theorem Fars.below {A B : World} (h : Below A.heap.size A B) : Fars A B := fun _ _ _ _ _ => Far.below h
theorem Tab.old {W W' : World} {r : Nat} (h : Tab W) (hb : Below r W W') (hr : 0 < r) : Tab W' := fun i hi => ⟨(hb.cell hr).trans (h i hi).1, (hb.cell hr).trans (h i hi).2⟩

theorem CallBox.all {w : World} {y : Nat} {x : CallM} (h : CallBox w y x) : w.cell? ⟨y, 0, none⟩ = some (.int .u64 (x.k : Int)) ∧ w.cell? ⟨y, 1, none⟩ = some (.int .u64 (x.a0 : Int)) ∧ w.cell? ⟨y, 2, none⟩ = some (.int .u64 (x.a1 : Int)) ∧ w.cell? ⟨y, 3, none⟩ = some (.int .u64 (x.a2 : Int)) ∧ w.cell? ⟨y, 4, none⟩ = some (.int .u64 (x.a3 : Int)) := by
  have h' : w.heap[y]? = _ := h
  exact ⟨by simp [World.cell?, h'], by simp [World.cell?, h'], by simp [World.cell?, h'], by simp [World.cell?, h'], by simp [World.cell?, h']⟩
theorem step_append_at {P : Program} {ops : Array Oper} {o : Oper} {a : Act} {w : World} {K : Act → World → Prop} {Q : Exit → Act → World → Prop} (hw : Region.wanted o (yielded ops a.tmps) = true) (s x : Operand) (t : TypeId)
    (ho : o.op = .call { callee := .builtin .append, args := #[s, x], argTypes := #[t, t] })
    (base : Nat) (e : TypeId) (i : TypeInfo) (z : Value) (size bytes : Nat) (ht : P.underlying t = some (.slice e)) (hi : P.info? e = some i) (hz : i.zero = some z)
    (hsize : i.size = size) (hby : i.bytes = bytes) (hzs : z.cells.size = size) (hsz : 0 < size)
    (v : Value) (n : Nat) (xs : List Value) (hs : a.eval s = v) (hown : w.ownsRow base e size v n xs)
    (ad : Addr) (m c : Nat) (news : List Value) (hx : a.eval x = .slice (some ad) m c) (hl : news.length = m * size) (hnews : ∀ j u, news[j]? = some u → w.cell? (ad.add j) = some u) (h1 : ∀ u ∈ news, u.oneCell' = true)
    (h63 : n + m ≤ maxLen) (hbytes : (n + m) * bytes ≤ 140737488355328) (hbase : base ≤ w.heap.size)
    (h : ∀ v' w', w'.ownsRow base e size v' (n + m) (xs ++ news) → w.grownBy w' v.ownBlock → (v'.ownBlock = v.ownBlock ∨ v'.ownBlock = some w.heap.size) → K (a.put o.dst v') w') :
    if Region.wanted o (yielded ops a.tmps) = true then Oper.wp P o a w K Q else K (a.put o.dst undef) w := by
  rw [if_pos hw]
  obtain ⟨v', w', hr, h2, h3, _, h5⟩ := run_append_own_at (P := P) w base t o.type e i z size bytes ht hi hz hsize hby hzs hsz v n xs hown ad m c news hl hnews h1 h63 hbytes hbase
  unfold Oper.wp execOp
  simp only [ho, resolve, invoke, builtin, Sem.run_bind, Sem.run_pure, Result.andThen_ok, List.map_toArray, List.map_cons, List.map_nil, hs, hx, hr]
  exact h v' w' h2 h3 h5
theorem call_info0 : (Tryd.prog.info? 53).map (fun i => (i.zero.map fun z => z.cells.size, i.size, i.bytes)) = some (some 5, 5, 40) := by kernel_rfl
theorem call_info : ∃ i z, Tryd.prog.info? 53 = some i ∧ i.zero = some z ∧ i.size = 5 ∧ i.bytes = 40 ∧ z.cells.size = 5 := by
  have h := call_info0
  cases hi : Tryd.prog.info? 53 with
  | none => rw [hi] at h; cases h
  | some i =>
    rw [hi] at h
    simp only [Option.map_some, Option.some.injEq, Prod.mk.injEq] at h
    obtain ⟨h1, h2, h3⟩ := h
    obtain ⟨z, hz, hz2⟩ := Option.map_eq_some_iff.1 h1
    exact ⟨i, z, rfl, hz, h2, h3, hz2⟩

set_option maxRecDepth 100000 in
set_option maxHeartbeats 2000000 in
theorem call_short (r z c g h : Nat) (st : RdS) (ws : List Nat) (W : World) (H : Rdr W r z c g st ws) (hs : ws.length < 5) :
    Calls Tryd.prog 35 #[.pointer (some ⟨r, 0, none⟩), .int .u64 (h : Int)] W fun e w' => e = .returned (.tuple #[]) ∧ w' = W := by
  obtain ⟨vs, vp, p, n, d, H⟩ := H
  obtain ⟨⟨h0, h1, h2, h3, h4⟩, hf⟩ := H.box.cells
  have hn := H.left.len
  have hn5 : n < 5 := by omega
  clear H hf h0 h1 h2 h3 hn
  go_enter Tryd.func35, Tryd.ntmps35
  go_wp2
  refine bodyPost_ret (results_none rfl _ _ _) rfl ?_
  exact ⟨rfl, rfl⟩

set_option maxRecDepth 100000 in
set_option maxHeartbeats 2000000 in
theorem call_full (r z c g h : Nat) (st : RdS) (ws : List Nat) (W : World) (H : Rdr W r z c g st ws) (hs : 5 ≤ ws.length) (hc8 : c ≤ 8) (hcl : st.1.length = c) (ht : 64 ≤ tot st.1) (htb : tot st.1 ≤ 64) :
    Calls Tryd.prog 35 #[.pointer (some ⟨r, 0, none⟩), .int .u64 (h : Int)] W fun e w' => e = .returned (.tuple #[]) ∧ Rdr w' r z c g st (ws.drop 5) ∧ Below r W w' ∧ Fars W w' := by
  obtain ⟨vs, vp, p, n, d, H⟩ := H
  obtain ⟨⟨h0, h1, h2, h3, h4⟩, hf⟩ := H.box.cells
  have hn := H.left.len
  have hn5 : ¬ n < 5 := by omega
  have HTK := Lib.hid (take_c r 5 n d p _ _ _ _ W H.box (by omega) H.left.room)
  have HC := Lib.hid (fun w (hr : RowsC w z vs st.1) => calls_c _ _ w (hr.lens c) (by simp; omega) (by
    intro m hm
    obtain ⟨l, hl, rfl⟩ := List.mem_map.1 hm
    obtain ⟨i, hi, rfl⟩ := List.getElem_of_mem hl
    have := len_tot st.1 i hi
    omega))
  rw [hcl, sumL_tot] at HC
  have hte : tot st.1 = 64 := by omega
  rw [hte] at HC
  have HH := Lib.hid H
  clear H hf h0 h1 h2 h3 hn hte ht htb
  go_enter Tryd.func35, Tryd.ntmps35
  go_wp2_with fail
  refine HTK.out.mono ?_
  rintro e w1 ⟨rfl, hb, hk, hB, -⟩
  have HR1 := Lib.hid (HH.out.left' hk hb (HH.out.left.drop 5 (by omega) |>.keeps hk (fun k hk' e => by omega)))
  have HB1 := Lib.hid hB
  have HF1 := Lib.hid (show Fars W w1 from fun T h1 _ _ _ => Far.keep hk HH.out.box h1)
  obtain ⟨⟨h0, h1, h2, h3, h4⟩, hf⟩ := hb.cells
  clear hb hk hB hf h0 h1 h3 h4 HTK
  go_wp2_with fail
  refine (HC.out w1 HR1.out.rows).mono ?_
  rintro e w2 ⟨rfl, rfl⟩
  go_wp2
  refine bodyPost_ret (results_none rfl _ _ _) rfl ?_
  exact ⟨rfl, ⟨_, _, _, _, _, HR1.out⟩, HB1.out, HF1.out⟩

set_option maxRecDepth 100000 in
set_option maxHeartbeats 4000000 in
theorem call_more (r z c g h : Nat) (st : RdS) (ws : List Nat) (W : World) (H : Rdr W r z c g st ws) (hh : h < 18446744073709551616) (hs : 5 ≤ ws.length) (hc1 : 1 ≤ c) (hc8 : c ≤ 8) (hcl : st.1.length = c) (ht : tot st.1 < 64) (hT : Tab W) (hr0 : 0 < r) :
    Calls Tryd.prog 35 #[.pointer (some ⟨r, 0, none⟩), .int .u64 (h : Int)] W fun e w' => e = .returned (.tuple #[]) ∧ Rdr w' r z c g (addC st.1 (cpuOf c h) (callAt ws), st.2) (ws.drop 5) ∧ Below r W w' ∧ Fars W w' := by
  obtain ⟨vs, vp, p, n, d, H⟩ := H
  obtain ⟨⟨h0, h1, h2, h3, h4⟩, hf⟩ := H.box.cells
  have hn := H.left.len
  have hn5 : ¬ n < 5 := by omega
  have HTK := Lib.hid (take_c r 5 n d p _ _ _ _ W H.box (by omega) H.left.room)
  obtain ⟨tt, htt⟩ : ∃ t, t = tot st.1 := ⟨_, rfl⟩
  have HC := Lib.hid (fun w (hr : RowsC w z vs st.1) => calls_c _ _ w (hr.lens c) (by simp; omega) (by
    intro m hm
    obtain ⟨l, hl, rfl⟩ := List.mem_map.1 hm
    obtain ⟨i, hi, rfl⟩ := List.getElem_of_mem hl
    have := len_tot st.1 i hi
    omega))
  rw [hcl, sumL_tot, ← htt] at HC
  rw [← htt] at ht
  have HTT64 := Lib.hid (show tot st.1 < 64 by rw [← htt]; exact ht)
  have hlt : r < z := H.lt
  obtain ⟨b, off, rfl, hcs⟩ := H.left.at (by omega)
  have hbr : b < r := H.left.old (by rintro rfl; simp at hs) _ rfl
  obtain ⟨k, a0, a1, a2, a3, rest, hws⟩ : ∃ k a0 a1 a2 a3 rest, ws = k :: a0 :: a1 :: a2 :: a3 :: rest := by
    match ws, hs with
    | k :: a0 :: a1 :: a2 :: a3 :: rest, _ => exact ⟨k, a0, a1, a2, a3, rest, rfl⟩
    | [], h => exact absurd h (by decide)
    | [_], h => exact absurd h (by simp)
    | [_, _], h => exact absurd h (by simp)
    | [_, _, _], h => exact absurd h (by simp)
    | [_, _, _, _], h => exact absurd h (by simp)
  have hv0 : W.cell? ⟨b, off, none⟩ = some (.int .u64 (k : Int)) := by have := hcs 0 (by omega); simpa [hws] using this
  have hv1 : W.cell? ⟨b, off + 1, none⟩ = some (.int .u64 (a0 : Int)) := by have := hcs 1 (by omega); simpa [hws] using this
  have hv2 : W.cell? ⟨b, off + 2, none⟩ = some (.int .u64 (a1 : Int)) := by have := hcs 2 (by omega); simpa [hws] using this
  have hv3 : W.cell? ⟨b, off + 3, none⟩ = some (.int .u64 (a2 : Int)) := by have := hcs 3 (by omega); simpa [hws] using this
  have hv4 : W.cell? ⟨b, off + 4, none⟩ = some (.int .u64 (a3 : Int)) := by have := hcs 4 (by omega); simpa [hws] using this
  have HCA := Lib.hid (show callAt ws = ⟨k, a0, a1, a2, a3⟩ by rw [hws]; rfl)
  have HVV := Lib.hid (And.intro hv0 (And.intro hv1 (And.intro hv2 (And.intro hv3 hv4))))
  have HH := Lib.hid H
  have HTT := Lib.hid hT
  clear H hf h0 h1 h2 h3 hn hcs hws hv0 hv1 hv2 hv3 hv4 htt hT
  go_enter Tryd.func35, Tryd.ntmps35
  go_wp2_with fail
  refine HTK.out.mono ?_
  rintro e w1 ⟨rfl, hb, hk, hB, -⟩
  have HR1 := Lib.hid (HH.out.left' hk hb (HH.out.left.drop 5 (by omega) |>.keeps hk (fun k hk' e => by omega)))
  have HB1 := Lib.hid hB
  have HF1 := Lib.hid (show Fars W w1 from fun T h1 _ _ _ => Far.keep hk HH.out.box h1)
  have hv : ∀ o u, W.cell? ⟨b, o, none⟩ = some u → w1.cell? ⟨b, o, none⟩ = some u := fun o u hu => (hB.cell hbr).trans hu
  have HV1 := Lib.hid (And.intro (hv _ _ HVV.out.1) (And.intro (hv _ _ HVV.out.2.1) (And.intro (hv _ _ HVV.out.2.2.1) (And.intro (hv _ _ HVV.out.2.2.2.1) (hv _ _ HVV.out.2.2.2.2)))))
  have hv0 := HV1.out.1
  obtain ⟨⟨h0, h1, h2, h3, h4⟩, hf⟩ := hb.cells
  have HTB := Lib.hid (HTT.out.old hB hr0)
  clear hb hk hB hf h0 h1 h3 h4 HTK hv HVV HTT
  go_wp2_with fail
  refine (HC.out w1 HR1.out.rows).mono ?_
  rintro e w2 ⟨rfl, rfl⟩
  clear HC
  go_upto_region 4 with (fail)
  obtain ⟨y5, hy5⟩ : ∃ y, y = w2.heap.size := ⟨_, rfl⟩
  obtain ⟨wA, hwA⟩ : ∃ w : World, w = w2.alloc (.cells #[.int .u64 (k : Int), .int .u64 0, .int .u64 0, .int .u64 0, .int .u64 0] 53) := ⟨_, rfl⟩
  rw [← hwA]
  have hbA : Below w2.heap.size w2 wA := by rw [hwA]; exact (Below.refl _ _).alloc (Nat.le_refl _) _
  have hyA : wA.heap[w2.heap.size]? = some (.cells #[.int .u64 (k : Int), .int .u64 0, .int .u64 0, .int .u64 0, .int .u64 0] 53 (0, 0)) := by rw [hwA]; exact World.alloc_heap_new _ _
  clear hwA
  refine wpTwo_begin (T := fun _ => True) (S := fun _ => True) (late := fun _ => false) (by kernel_rfl) ?_
  obtain ⟨X0, hX0⟩ : ∃ X : World, X = wA.drew := ⟨_, rfl⟩
  have hyX : X0.heap[w2.heap.size]? = some (.cells #[.int .u64 (k : Int), .int .u64 0, .int .u64 0, .int .u64 0, .int .u64 0] 53 (0, 0)) := by rw [hX0]; exact hyA
  have hbX : Below w2.heap.size w2 X0 := by rw [hX0]; exact hbA.drew
  rw [← hX0]
  clear hX0 hyA hbA hv0
  refine wpTwo_takeT (i := 0) (v := .pointer (some ⟨w2.heap.size, 1, none⟩)) rfl (by kernel_rfl) (by kernel_rfl) (by kernel_rfl) (fun _ _ _ h => h) ⟨by rfl, ?_⟩ trivial ?_
  · intro w _
    go_simp
  (try simp only [Act.put, List.getElem_toArray, List.getElem_cons_zero, List.setIfInBounds_toArray, List.set_cons_succ, List.set_cons_zero])
  refine wpTwo_takeT (i := 1) (v := .slice (some ⟨w2.heap.size, 1, none⟩) 4 4) rfl (by kernel_rfl) (by kernel_rfl) (by kernel_rfl) (fun _ _ _ h => h) ⟨by rfl, ?_⟩ trivial ?_
  · intro w _
    go_simp
  (try simp only [Act.put, List.getElem_toArray, List.getElem_cons_succ, List.getElem_cons_zero, List.setIfInBounds_toArray, List.set_cons_succ, List.set_cons_zero])
  refine wpTwo_takeT (i := 2) (v := .slice (some ⟨b, off, none⟩) 5 5) rfl (by kernel_rfl) (by kernel_rfl) (by kernel_rfl) (fun _ _ _ h => h) ⟨by rfl, ?_⟩ trivial ?_
  · intro w _
    go_simp
  (try simp only [Act.put, List.getElem_toArray, List.getElem_cons_succ, List.getElem_cons_zero, List.setIfInBounds_toArray, List.set_cons_succ, List.set_cons_zero])
  refine wpTwo_takeT (i := 3) (v := .slice (some ⟨b, off + 1, none⟩) 4 4) rfl (by kernel_rfl) (by kernel_rfl) (by kernel_rfl) (fun _ _ _ h => h) ⟨by rfl, ?_⟩ trivial ?_
  · intro w _
    go_simp
  (try simp only [Act.put, List.getElem_toArray, List.getElem_cons_succ, List.getElem_cons_zero, List.setIfInBounds_toArray, List.set_cons_succ, List.set_cons_zero])
  refine wpTwo_ready (rs := [4]) (by kernel_rfl) (by simp) ?_
  refine (AllTwo.cons rfl (fun K hK => ?_) AllTwo.nil)
  have hbl : b < w2.heap.size := by have := HR1.out.box.lt; omega
  have hrow := run_copy_row (P := Tryd.prog) X0 32 32 3 37 w2.heap.size 1 4 4 ⟨b, off + 1, none⟩ 4 4 _ 53 ([a0, a1, a2, a3].map nv) Tryd.underlying32 (by kernel_rfl) hyX rfl (by
    intro j u hj
    rw [addr_add_off]
    match j, hj with
    | 0, hj => simp [nv] at hj; subst hj; exact (hbX.cell hbl).trans HV1.out.2.1
    | 1, hj => simp [nv] at hj; subst hj; exact (hbX.cell hbl).trans HV1.out.2.2.1
    | 2, hj => simp [nv] at hj; subst hj; exact (hbX.cell hbl).trans HV1.out.2.2.2.1
    | 3, hj => simp [nv] at hj; subst hj; exact (hbX.cell hbl).trans HV1.out.2.2.2.2
    | j + 4, hj => simp at hj) (by simp) (by intro u hu; obtain ⟨x, _, rfl⟩ := List.mem_map.1 hu; rfl)
  obtain ⟨X1, hX1⟩ : ∃ X : World, X = X0.setRow w2.heap.size #[.int .u64 (k : Int), .int .u64 (a0 : Int), .int .u64 (a1 : Int), .int .u64 (a2 : Int), .int .u64 (a3 : Int)] := ⟨_, rfl⟩
  have hcp : (Builtin.copy_ #[32, 32] 3 #[.slice (some ⟨w2.heap.size, 1, none⟩) 4 4, .slice (some ⟨b, off + 1, none⟩) 4 4]).run Tryd.prog X0 = .ok (.int .i64 4) X1 := by rw [hrow, hX1]; rfl
  have hyX1 : CallBox X1 w2.heap.size ⟨k, a0, a1, a2, a3⟩ := by rw [hX1]; exact setRow_heap X0 _ _ _ _ _ hyX
  have hbX1 : Below w2.heap.size w2 X1 := by rw [hX1]; exact below_setRow hbX (Nat.le_refl _) _
  clear hrow hX1 hyX hbX
  go_simp
  refine hK.out _ _ ⟨trivial, fun _ _ => trivial⟩ ?_
  clear hK K hcp
  (try simp only [Act.put, List.getElem_toArray, List.getElem_cons_succ, List.getElem_cons_zero, List.setIfInBounds_toArray, List.set_cons_succ, List.set_cons_zero])
  refine wpTwo_end (by kernel_rfl) ?_ _
  have HR2 := Lib.hid (HR1.out.below hbX1)
  have HT2 := Lib.hid (HTB.out.below (hbX1.mono (Nat.le_refl _)))
  have HCP := Lib.hid (cpu_c r h c hh hc1 hc8 _ _ _ _ X1 HR2.out.box HT2.out)
  have hr2 : r < w2.heap.size := HR1.out.box.lt
  have HB2 := Lib.hid (HB1.out.trans (hbX1.mono (Nat.le_of_lt hr2)))
  have HF2 := Lib.hid (HF1.out.trans (Fars.below hbX1))
  clear hbX1
  go_wp2_with fail
  refine HCP.out.mono ?_
  rintro e X2 ⟨rfl, hb3⟩
  have hyX2 := hyX1.below hb3
  have HR3 := Lib.hid (HR2.out.below hb3)
  have hr3 : r < X1.heap.size := HR2.out.box.lt
  have HB3 := Lib.hid (HB2.out.trans (hb3.mono (Nat.le_of_lt hr3)))
  have HF3 := Lib.hid (HF2.out.trans (Fars.below hb3))
  obtain ⟨q, hq⟩ : ∃ q, q = cpuOf c h := ⟨_, rfl⟩
  have hqc : q < c := by rw [hq]; exact cpuOf_lt hc1 h
  rw [← hq]
  have hqv : q < vs.length := by rw [HR3.out.rows.len, hcl]; exact hqc
  obtain ⟨u, hu⟩ : ∃ u, u = vs[q]'hqv := ⟨_, rfl⟩
  have hql : q < st.1.length := by omega
  have hown := HR3.out.rows.own q hqv hql
  rw [← hu] at hown
  obtain ⟨pu, cu, hue⟩ := owns_slice hown
  obtain ⟨nu, hnu⟩ : ∃ n, n = st.1[q].length := ⟨_, rfl⟩
  have hnub : nu ≤ 64 := by rw [hnu]; have := len_tot st.1 q hql; have := HTT64.out; omega
  rw [← hnu] at hown hue
  subst hue
  have HU := Lib.hid hu
  have HNU := Lib.hid hnu
  have HOWN := Lib.hid hown
  have HQ := Lib.hid hq
  clear hb3 hyX1 HR2 HT2 HCP hu hnu hown hq
  go_upto_region 6 with (fail)
  refine wpTwo_begin (T := fun w' => w'.cell? ⟨r, 2, none⟩ = some (.slice (some ⟨z, 0, none⟩) c c) ∧ CallBox w' w2.heap.size ⟨k, a0, a1, a2, a3⟩) (S := fun w' => w'.cell? ⟨z, q, none⟩ = some (.slice pu nu cu)) (late := fun j => [18].contains j) (by kernel_rfl) ?_
  obtain ⟨Y0, hY0⟩ : ∃ X : World, X = X2.drew := ⟨_, rfl⟩
  have hd : Below X2.heap.size X2 Y0 := by rw [hY0]; exact (Below.refl _ _).drew
  have HY0 := Lib.hid (HR3.out.below hd)
  have hT0 : Y0.cell? ⟨r, 2, none⟩ = some (.slice (some ⟨z, 0, none⟩) c c) ∧ CallBox Y0 w2.heap.size ⟨k, a0, a1, a2, a3⟩ := ⟨HY0.out.box.cells.1.2.2.1, hyX2.below hd⟩
  have hS0 : Y0.cell? ⟨z, q, none⟩ = some (.slice pu nu cu) := by rw [HU.out]; exact HY0.out.rows.box.cell q hqv
  have HOY := Lib.hid (owns_below HOWN.out hd)
  have hr4 : r < X2.heap.size := HR3.out.box.lt
  have HB4 := Lib.hid (HB3.out.trans (hd.mono (Nat.le_of_lt hr4)))
  have HF4 := Lib.hid (HF3.out.trans (Fars.below hd))
  rw [← hY0]
  clear hY0 hd HOWN hyX2 HR3
  refine wpTwo_takeT (i := 0) (v := .pointer (some ⟨r, 0, none⟩)) rfl (by kernel_rfl) (by kernel_rfl) (by kernel_rfl) (fun _ _ _ h => h) ⟨by rfl, ?_⟩ hT0 ?_
  · intro w _
    go_simp
  (try simp only [Act.put, List.getElem_toArray, List.getElem_cons_zero, List.setIfInBounds_toArray, List.set_cons_succ, List.set_cons_zero])
  refine wpTwo_takeT (i := 1) (v := .pointer (some ⟨r, 0, none⟩)) rfl (by kernel_rfl) (by kernel_rfl) (by kernel_rfl) (fun _ _ _ h => h) ⟨by rfl, ?_⟩ hT0 ?_
  · intro w _
    go_simp
  (try simp only [Act.put, List.getElem_toArray, List.getElem_cons_succ, List.getElem_cons_zero, List.setIfInBounds_toArray, List.set_cons_succ, List.set_cons_zero])
  refine wpTwo_takeT (i := 2) (v := .pointer (some ⟨r, 0, none⟩)) rfl (by kernel_rfl) (by kernel_rfl) (by kernel_rfl) (fun _ _ _ h => h) ⟨by rfl, ?_⟩ hT0 ?_
  · intro w _
    go_simp
  (try simp only [Act.put, List.getElem_toArray, List.getElem_cons_succ, List.getElem_cons_zero, List.setIfInBounds_toArray, List.set_cons_succ, List.set_cons_zero])
  refine wpTwo_takeT (i := 3) (v := .pointer (some ⟨r, 2, none⟩)) rfl (by kernel_rfl) (by kernel_rfl) (by kernel_rfl) (fun _ _ _ h => h) ⟨by rfl, ?_⟩ hT0 ?_
  · intro w _
    go_simp
  (try simp only [Act.put, List.getElem_toArray, List.getElem_cons_succ, List.getElem_cons_zero, List.setIfInBounds_toArray, List.set_cons_succ, List.set_cons_zero])
  refine wpTwo_takeT (i := 4) (v := .slice (some ⟨z, 0, none⟩) c c) rfl (by kernel_rfl) (by kernel_rfl) (by kernel_rfl) (fun _ _ _ h => h) ⟨by rfl, ?_⟩ hT0 ?_
  · intro w hTw
    obtain ⟨hl0, hl1⟩ := hTw
    go_simp
  (try simp only [Act.put, List.getElem_toArray, List.getElem_cons_succ, List.getElem_cons_zero, List.setIfInBounds_toArray, List.set_cons_succ, List.set_cons_zero])
  refine wpTwo_takeT (i := 5) (v := .int .i64 (q : Int)) rfl (by kernel_rfl) (by kernel_rfl) (by kernel_rfl) (fun _ _ _ h => h) ⟨by rfl, ?_⟩ hT0 ?_
  · intro w _
    go_simp
  (try simp only [Act.put, List.getElem_toArray, List.getElem_cons_succ, List.getElem_cons_zero, List.setIfInBounds_toArray, List.set_cons_succ, List.set_cons_zero])
  refine wpTwo_takeT (i := 6) (v := .pointer (some ⟨r, 0, none⟩)) rfl (by kernel_rfl) (by kernel_rfl) (by kernel_rfl) (fun _ _ _ h => h) ⟨by rfl, ?_⟩ hT0 ?_
  · intro w _
    go_simp
  (try simp only [Act.put, List.getElem_toArray, List.getElem_cons_succ, List.getElem_cons_zero, List.setIfInBounds_toArray, List.set_cons_succ, List.set_cons_zero])
  refine wpTwo_takeT (i := 7) (v := .pointer (some ⟨r, 0, none⟩)) rfl (by kernel_rfl) (by kernel_rfl) (by kernel_rfl) (fun _ _ _ h => h) ⟨by rfl, ?_⟩ hT0 ?_
  · intro w _
    go_simp
  (try simp only [Act.put, List.getElem_toArray, List.getElem_cons_succ, List.getElem_cons_zero, List.setIfInBounds_toArray, List.set_cons_succ, List.set_cons_zero])
  refine wpTwo_takeT (i := 8) (v := .pointer (some ⟨r, 0, none⟩)) rfl (by kernel_rfl) (by kernel_rfl) (by kernel_rfl) (fun _ _ _ h => h) ⟨by rfl, ?_⟩ hT0 ?_
  · intro w _
    go_simp
  (try simp only [Act.put, List.getElem_toArray, List.getElem_cons_succ, List.getElem_cons_zero, List.setIfInBounds_toArray, List.set_cons_succ, List.set_cons_zero])
  refine wpTwo_takeT (i := 9) (v := .pointer (some ⟨r, 2, none⟩)) rfl (by kernel_rfl) (by kernel_rfl) (by kernel_rfl) (fun _ _ _ h => h) ⟨by rfl, ?_⟩ hT0 ?_
  · intro w _
    go_simp
  (try simp only [Act.put, List.getElem_toArray, List.getElem_cons_succ, List.getElem_cons_zero, List.setIfInBounds_toArray, List.set_cons_succ, List.set_cons_zero])
  refine wpTwo_takeT (i := 10) (v := .slice (some ⟨z, 0, none⟩) c c) rfl (by kernel_rfl) (by kernel_rfl) (by kernel_rfl) (fun _ _ _ h => h) ⟨by rfl, ?_⟩ hT0 ?_
  · intro w hTw
    obtain ⟨hl0, hl1⟩ := hTw
    go_simp
  (try simp only [Act.put, List.getElem_toArray, List.getElem_cons_succ, List.getElem_cons_zero, List.setIfInBounds_toArray, List.set_cons_succ, List.set_cons_zero])
  refine wpTwo_takeT (i := 11) (v := .int .i64 (q : Int)) rfl (by kernel_rfl) (by kernel_rfl) (by kernel_rfl) (fun _ _ _ h => h) ⟨by rfl, ?_⟩ hT0 ?_
  · intro w _
    go_simp
  (try simp only [Act.put, List.getElem_toArray, List.getElem_cons_succ, List.getElem_cons_zero, List.setIfInBounds_toArray, List.set_cons_succ, List.set_cons_zero])
  refine wpTwo_takeT (i := 12) (v := .pointer (some ⟨z, q, none⟩)) rfl (by kernel_rfl) (by kernel_rfl) (by kernel_rfl) (fun _ _ _ h => h) ⟨by rfl, ?_⟩ hT0 ?_
  · intro w _
    go_simp
  (try simp only [Act.put, List.getElem_toArray, List.getElem_cons_succ, List.getElem_cons_zero, List.setIfInBounds_toArray, List.set_cons_succ, List.set_cons_zero])
  refine wpTwo_takeS (i := 13) (v := .slice pu nu cu) (waits_all (by kernel_rfl)) rfl (by kernel_rfl) (by kernel_rfl) (by kernel_rfl) (fun _ _ _ h => h) ⟨by rfl, ?_⟩ ⟨hT0, hS0⟩ ?_
  · rintro w ⟨-, hS1⟩
    go_simp
  (try simp only [Act.put, List.getElem_toArray, List.getElem_cons_succ, List.getElem_cons_zero, List.setIfInBounds_toArray, List.set_cons_succ, List.set_cons_zero])
  refine wpTwo_takeT (i := 14) (v := .agg #[.int .u64 (k : Int), .int .u64 (a0 : Int), .int .u64 (a1 : Int), .int .u64 (a2 : Int), .int .u64 (a3 : Int)]) rfl (by kernel_rfl) (by kernel_rfl) (by kernel_rfl) (fun _ _ _ h => h) ⟨by rfl, ?_⟩ hT0 ?_
  · intro w hTw
    obtain ⟨hl0, hl1⟩ := hTw
    obtain ⟨hk0, hk1, hk2, hk3, hk4⟩ := CallBox.all hl1
    simp only at hk0 hk1 hk2 hk3 hk4
    clear hl1
    go_simp
  (try simp only [Act.put, List.getElem_toArray, List.getElem_cons_succ, List.getElem_cons_zero, List.setIfInBounds_toArray, List.set_cons_succ, List.set_cons_zero])
  refine wpTwo_ready (rs := [15]) (by kernel_rfl) (by simp) ?_
  refine (AllTwo.cons rfl (fun K hK => ?_) AllTwo.nil)
  obtain ⟨Y1, hY1⟩ : ∃ X : World, X = Y0.alloc (.cells #[.int .u64 (k : Int), .int .u64 (a0 : Int), .int .u64 (a1 : Int), .int .u64 (a2 : Int), .int .u64 (a3 : Int)] 53) := ⟨_, rfl⟩
  have hb1 : Below Y0.heap.size Y0 Y1 := by rw [hY1]; exact (Below.refl _ _).alloc (Nat.le_refl _) _
  have hT1 : Y1.cell? ⟨r, 2, none⟩ = some (.slice (some ⟨z, 0, none⟩) c c) ∧ CallBox Y1 w2.heap.size ⟨k, a0, a1, a2, a3⟩ := ⟨below_cell hb1 hT0.1, hT0.2.below hb1⟩
  have hS1 := below_cell hb1 hS0
  go_simp
  rw [← hY1]
  refine hK.out _ _ ⟨hT1, fun _ _ => hS1⟩ ?_
  clear hK K
  (try simp only [Act.put, List.getElem_toArray, List.getElem_cons_succ, List.getElem_cons_zero, List.setIfInBounds_toArray, List.set_cons_succ, List.set_cons_zero])
  refine wpTwo_ready (rs := [16]) (by kernel_rfl) (by simp) ?_
  refine (AllTwo.cons rfl (fun K hK => ?_) AllTwo.nil)
  obtain ⟨i0, zz, hi0, hz0, hz1, hz2, hz3⟩ := call_info
  have hz5 : z + 1 ≤ Y1.heap.size := by have := HY0.out.rows.box.lt; have := hb1.size; omega
  refine step_append_at (by rfl) _ _ 47 rfl (z + 1) 53 i0 _ 5 40 Tryd.underlying47 hi0 hz0 hz1 hz2 hz3 (by decide) (.slice pu nu cu) nu _ rfl (owns_below HOY.out hb1) ⟨Y0.heap.size, 0, none⟩ 1 1 (cells5 ⟨k, a0, a1, a2, a3⟩) rfl rfl (by rw [hY1]; exact World.news_of_block (World.alloc_heap_new _ _)) (by intro u hu; exact cellsC_one [⟨k, a0, a1, a2, a3⟩] u (by simpa [cellsC] using hu)) (by unfold maxLen; omega) (by omega) hz5 ?_
  intro v' Y2 hown2 hg2 hat2
  obtain ⟨pv, cv, rfl⟩ := owns_slice hown2
  have hnb : ∀ (T : TypeId), T ≠ 53 → ∀ (b : Nat) (cc : Array Value) (f : Nat × Nat), Y1.heap[b]? = some (.cells cc T f) → Y2.heap[b]? = some (.cells cc T f) := fun T hT b cc f hc => by
    refine (hg2.block b (Array.getElem?_eq_some_iff.1 hc).1 fun e => ?_).trans hc
    obtain ⟨c', f', h1⟩ := Lib.ownsRow_kind (owns_below HOY.out hb1) b e.symm
    rw [hc] at h1
    injection h1 with h1
    injection h1 with _ h2
    exact hT h2
  have hu5 : (Value.slice pu nu cu).ownBlock ≠ some w2.heap.size := fun e => by
    have h1 := (HR1.out.rows.own q hqv hql).lt w2.heap.size (by rw [← HU.out]; exact e)
    omega
  have hub : ∀ gg, (Value.slice pu nu cu).ownBlock = some gg → z + 1 ≤ gg := fun gg hgg => ((HR1.out.rows.own q hqv hql).lt gg (by rw [← HU.out]; exact hgg)).1
  have hbox1 : RBox Y1 r (.int .i64 (c : Int)) (.int .i64 (g : Int)) (.slice (some ⟨z, 0, none⟩) c c) vp _ := HY0.out.box.below hb1
  have hbox2 : RBox Y2 r (.int .i64 (c : Int)) (.int .i64 (g : Int)) (.slice (some ⟨z, 0, none⟩) c c) vp _ := hnb 76 (by decide) r _ _ hbox1
  have hsb2 : SBox Y2 z vs := hnb 47 (by decide) z _ _ (HY0.out.rows.box.below hb1)
  have hT2 : Y2.cell? ⟨r, 2, none⟩ = some (.slice (some ⟨z, 0, none⟩) c c) ∧ CallBox Y2 w2.heap.size ⟨k, a0, a1, a2, a3⟩ := ⟨hbox2.cells.1.2.2.1, (hg2.block _ hT1.2.lt fun e => hu5 e.symm).trans hT1.2⟩
  have hS2 : Y2.cell? ⟨z, q, none⟩ = some (.slice pu nu cu) := by rw [HU.out]; exact hsb2.cell q hqv
  have hf2 := hsb2.free q
  have hstep := HY0.out.rows.step (p := q) (x := ⟨k, a0, a1, a2, a3⟩) (v' := .slice pv (nu + 1) cv) (o := .cells #[.int .u64 (k : Int), .int .u64 (a0 : Int), .int .u64 (a1 : Int), .int .u64 (a2 : Int), .int .u64 (a3 : Int)] 53) hqv hql (by rw [← HNU.out]; exact hown2) (by rw [← hY1, ← HU.out]; exact hg2) (by rw [← hY1, ← HU.out]; exact hat2)
  have hrz : r < z := HY0.out.lt
  have hB12 : Below r Y0 Y2 := (hb1.mono (by have := HY0.out.box.lt; omega)).trans ((Below.refl r Y1).grown hg2 (by have := hbox1.lt; omega) (fun gg e => by have := hub gg e; omega))
  have hp2 : (Y2.setCell ⟨z, q, none⟩ (.slice pv (nu + 1) cv)).ownsRow (z + 1) 3 1 vp st.2.length (st.2.map (Value.int .i64)) := by
    have h1 := owns_below HY0.out.picks hb1
    have h2 : Y2.ownsRow (z + 1) 3 1 vp st.2.length (st.2.map (Value.int .i64)) := h1.kept hg2 (by
      cases hvb : vp.ownBlock with
      | none => exact .inl rfl
      | some gg =>
        refine .inr fun e => ?_
        exact owns_ne h1 (owns_below HOY.out hb1) (by decide) hvb e.symm rfl)
    exact ownsRow_setCell_other h2 (fun e => by have := (h2.lt _ e).1; have h3 : z + 1 ≤ z := this; omega) _
  have hB3 : Below r Y0 (Y2.setCell ⟨z, q, none⟩ (.slice pv (nu + 1) cv)) := hB12.setCell (p := ⟨z, q, none⟩) (Nat.le_of_lt hrz) _
  have hbox3 : RBox (Y2.setCell ⟨z, q, none⟩ (.slice pv (nu + 1) cv)) r (.int .i64 (c : Int)) (.int .i64 (g : Int)) (.slice (some ⟨z, 0, none⟩) c c) vp _ := (Keeps.setCell Y2 (S := fun k => k = z) (p := ⟨z, q, none⟩) rfl _).block r hbox2.lt (by omega) |>.trans hbox2
  have hyz : w2.heap.size ≠ z := by have := HR1.out.rows.box.lt; omega
  have hT3 : (Y2.setCell ⟨z, q, none⟩ (.slice pv (nu + 1) cv)).cell? ⟨r, 2, none⟩ = some (.slice (some ⟨z, 0, none⟩) c c) ∧ CallBox (Y2.setCell ⟨z, q, none⟩ (.slice pv (nu + 1) cv)) w2.heap.size ⟨k, a0, a1, a2, a3⟩ := ⟨hbox3.cells.1.2.2.1, ((Keeps.setCell Y2 (S := fun k => k = z) (p := ⟨z, q, none⟩) rfl _).block _ hT2.2.lt (by omega)).trans hT2.2⟩
  have HFIN := Lib.hid (show Rdr (Y2.setCell ⟨z, q, none⟩ (.slice pv (nu + 1) cv)) r z c g (addC st.1 q ⟨k, a0, a1, a2, a3⟩, st.2) (ws.drop 5) ∧ Below r W (Y2.setCell ⟨z, q, none⟩ (.slice pv (nu + 1) cv)) ∧ Fars W (Y2.setCell ⟨z, q, none⟩ (.slice pv (nu + 1) cv)) from ⟨⟨_, _, _, _, _, ⟨hbox3, hstep, hp2, HY0.out.left.below hB3 (Nat.le_refl _), hrz⟩⟩, HB4.out.trans hB3, (HF4.out.trans (Fars.below hb1)).trans fun T _ h2 h3 _ => (Far.grown hg2 (owns_below HOY.out hb1) h3).trans (Far.keep (Keeps.setCell Y2 (S := fun k => k = z) (p := ⟨z, q, none⟩) rfl _) hsb2 h2)⟩)
  have HT3 := Lib.hid hT3
  refine hK.out _ _ ⟨hT2, fun _ _ => hS2⟩ ?_
  clear hK K hstep hp2 hB12 hown2 hg2 hat2 hnb hu5 hub hbox1 hY1 hbox3 hB3 hT3
  (try simp only [Act.put, List.getElem_toArray, List.getElem_cons_succ, List.getElem_cons_zero, List.setIfInBounds_toArray, List.set_cons_succ, List.set_cons_zero])
  refine wpTwo_takeT (i := 17) (v := .pointer (some ⟨z, q, none⟩)) rfl (by kernel_rfl) (by kernel_rfl) (by kernel_rfl) (fun _ _ _ h => h) ⟨by rfl, ?_⟩ hT2 ?_
  · intro w _
    go_simp
  (try simp only [Act.put, List.getElem_toArray, List.getElem_cons_succ, List.getElem_cons_zero, List.setIfInBounds_toArray, List.set_cons_succ, List.set_cons_zero])
  refine wpTwo_ready (rs := [18]) (by kernel_rfl) (by simp) ?_
  refine (AllTwo.cons rfl (fun K hK => ?_) AllTwo.nil)
  go_simp
  refine hK.out _ _ ⟨HT3.out, fun h => absurd h (by decide)⟩ ?_
  clear hK K
  (try simp only [Act.put, List.getElem_toArray, List.getElem_cons_succ, List.getElem_cons_zero, List.setIfInBounds_toArray, List.set_cons_succ, List.set_cons_zero])
  refine wpTwo_end (by kernel_rfl) ?_ _
  go_end0
  exact ⟨rfl, by rw [HCA.out, ← HQ.out]; exact HFIN.out⟩

end Go.Proofs.YtjgdkfgcfningaaDoor
