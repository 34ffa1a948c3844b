/-
  Package pool: where a change begins, and its moves.
  Conditions: a row has at most 2 to the power 62 numbers.
-/
import Derived.Test.YthjkaabbbhfjhaaPTell
import Derived.Test.YthjkaabbbhfjhaaGInts
import Derived.Test.YthjkaabbbhfjhaaPBuild
namespace Go.Proofs.Ythjkaabbbhfjhaa
open Go.RowKit Go.Shelf
attribute [local go_sem] Oper.semAt_some

theorem nodup_len : ∀ (n : Nat) (l : List Int), l.Nodup → (∀ x ∈ l, 0 ≤ x ∧ x < n) → l.length ≤ n
  | 0, l, _, h => by
    cases l with
    | nil => simp
    | cons x t => have := h x (by simp); omega
  | n + 1, l, hn, h => by
    by_cases hm : (n : Int) ∈ l
    · have h1 := List.length_erase_of_mem hm
      have h2 := nodup_len n (l.erase (n : Int)) (hn.erase _) (fun x hx => by
        have := h x (List.mem_of_mem_erase hx)
        have hne : x ≠ (n : Int) := (hn.mem_erase_iff.1 hx).1
        omega)
      omega
    · have := nodup_len n l hn (fun x hx => by have := h x hx; have : x ≠ (n : Int) := fun e => hm (e ▸ hx); omega)
      omega
theorem okP_len {pg : Int} {fs : List Int} (h : okP pg fs) (hp : pg ≤ 64) : fs.length ≤ 64 :=
  nodup_len 64 fs h.1 fun x hx => by have := h.2 x hx; unfold hasB at this; simp only [Bool.and_eq_true, decide_eq_true_eq] at this; omega
theorem rightP_len {b pg : Int} {fs : List Int} (h : rightP b pg fs = true) : fs.length ≤ 64 :=
  okP_len (rightP_iff.1 h).2 (by have := (rightP_iff.1 h).1; unfold fitsB at this; simp only [Bool.and_eq_true, decide_eq_true_eq] at this; omega)

/-- A row of numbers in a block of its own from B on, of which it may have a part. -/
def RowS (W : World) (B : Nat) (p : Option Addr) (n c : Nat) (xs : List Int) : Prop := xs.length = n ∧ ((p = none ∧ n = 0 ∧ c = 0) ∨ ∃ g cur, p = some ⟨g, 0, none⟩ ∧ B ≤ g ∧ W.heap[g]? = some (.cells cur 3 (0, 0)) ∧ n ≤ c ∧ n ≤ cur.size ∧ cur.toList.take n = xs.map (Value.int .i64))
theorem RowS.of_owns {W : World} {B : Nat} {p : Option Addr} {n c : Nat} {xs : List Int} (hl : xs.length = n) (h : W.ownsRow B 3 1 (.slice p n c) n (xs.map (Value.int .i64))) : RowS W B p n c xs := by
  refine ⟨hl, ?_⟩
  rcases h.2 with ⟨e, h0⟩ | ⟨g, cap, cur, e, h1, h2, h3, h4, h5, h6⟩
  · injection e with e1 e2 e3; exact .inl ⟨e1, h0, e3⟩
  · injection e with e1 e2 e3; subst e3; exact .inr ⟨g, cur, e1, h1, h2, h3, by omega, by simpa using h6⟩
theorem RowS.keeps {S : Nat → Prop} {W W' : World} {B : Nat} {p : Option Addr} {n c : Nat} {xs : List Int} (h : RowS W B p n c xs) (hk : Keeps S W W') (hS : ∀ g, p = some ⟨g, 0, none⟩ → ¬ S g) : RowS W' B p n c xs := by
  refine ⟨h.1, ?_⟩
  rcases h.2 with h | ⟨g, cur, e, h1, h2, h3⟩
  · exact .inl h
  · exact .inr ⟨g, cur, e, h1, (hk.block g (Array.getElem?_eq_some_iff.1 h2).1 (hS g e)).trans h2, h3⟩
theorem RowS.below {W W' : World} {B : Nat} {p : Option Addr} {n c : Nat} {xs : List Int} (h : RowS W B p n c xs) (hb : Below W.heap.size W W') : RowS W' B p n c xs := h.keeps (Keeps.of_below (S := fun _ => False) hb) fun _ _ h => h
theorem RowS.mono {W : World} {B B' : Nat} {p : Option Addr} {n c : Nat} {xs : List Int} (h : RowS W B p n c xs) (hB : B' ≤ B) : RowS W B' p n c xs := by
  refine ⟨h.1, ?_⟩
  rcases h.2 with h | ⟨g, cur, e, h1, h2⟩
  · exact .inl h
  · exact .inr ⟨g, cur, e, Nat.le_trans hB h1, h2⟩
theorem RowS.nil_cap {W : World} {B : Nat} {p : Option Addr} {n c : Nat} {xs : List Int} (h : RowS W B p n c xs) : p = none → c = 0 := fun e => by
  rcases h.2 with h | ⟨g, cur, e', _⟩
  · exact h.2.2
  · rw [e] at e'; cases e'
theorem RowS.nums {W : World} {B : Nat} {p : Option Addr} {n c : Nat} {xs : List Int} (h : RowS W B p n c xs) : NumsAt W .i64 (.slice p n c) xs := by
  obtain ⟨rfl, h⟩ := h
  refine ⟨p, c, rfl, fun hne => ?_⟩
  rcases h with ⟨_, h0, _⟩ | ⟨g, cur, rfl, _, h2, _, h4, h5⟩
  · exact absurd (List.eq_nil_of_length_eq_zero h0) hne
  · refine ⟨g, 0, rfl, fun i hi => ?_⟩
    have hc : cur.toList[i]? = some (.int .i64 xs[i]) := by
      have h6 : (cur.toList.take xs.length)[i]? = (xs.map (Value.int .i64))[i]? := by rw [h5]
      rw [List.getElem?_take, if_pos hi] at h6
      rw [h6]; simp [hi]
    simp [World.cell?, h2]
    simpa using hc
theorem RowS.cut {W : World} {B : Nat} {p : Option Addr} {n c : Nat} {xs : List Int} (h : RowS W B p n c xs) (k : Nat) (hk : k ≤ n) : RowS W B p k k (xs.take k) := by
  obtain ⟨rfl, h⟩ := h
  refine ⟨by rw [List.length_take]; omega, ?_⟩
  rcases h with ⟨h0, h1, _⟩ | ⟨g, cur, e, h1, h2, h3, h4, h5⟩
  · exact .inl ⟨h0, by omega, by omega⟩
  · refine .inr ⟨g, cur, e, h1, h2, Nat.le_refl _, by omega, ?_⟩
    rw [List.map_take, ← h5, List.take_take, Nat.min_eq_left hk]
theorem vals_of_nums {W : World} {p : Option Addr} {c : Nat} {fs : List Int} (h : NumsAt W .i64 (.slice p fs.length c) fs) (hv : p = none → c = 0) : ValsAt W (.slice p fs.length c) 1 fs.length (fs.map (Value.int .i64)) := by
  refine ⟨by simp, p, c, rfl, ?_⟩
  obtain ⟨q, cap, e, hc⟩ := h
  injection e with e1 _ e3
  subst e1 e3
  cases p with
  | none =>
    refine .inl ⟨rfl, ?_, hv rfl⟩
    cases fs with
    | nil => rfl
    | cons x t => obtain ⟨b, off, e, -⟩ := hc (by simp); cases e
  | some a =>
    refine .inr ⟨a, rfl, fun j u hj => ?_⟩
    obtain ⟨hj1, rfl⟩ := List.getElem?_eq_some_iff.1 hj
    simp only [List.length_map] at hj1
    obtain ⟨b, off, e, hcs⟩ := hc (by intro e; rw [e] at hj1; cases hj1)
    injection e with e
    subst e
    rw [addr_add_off, hcs j hj1]
    simp

/-- A block that holds a change: a pool, and flags. -/
def ChBox (W : World) (z : Nat) (b p : Int) (v : Value) (bs : List Bool) : Prop := bs.length = 64 ∧ W.heap[z]? = some (.cells (.int .i64 b :: .int .i64 p :: v :: bs.map Value.bool).toArray 62 (0, 0))
theorem ChBox.lt {W : World} {z : Nat} {b p : Int} {v : Value} {bs : List Bool} (h : ChBox W z b p v bs) : z < W.heap.size := (Array.getElem?_eq_some_iff.1 h.2).1
theorem ChBox.below {W W' : World} {z : Nat} {b p : Int} {v : Value} {bs : List Bool} (h : ChBox W z b p v bs) (hb : Below W.heap.size W W') : ChBox W' z b p v bs := ⟨h.1, (hb.block z h.lt).trans h.2⟩
theorem ChBox.keeps {S : Nat → Prop} {W W' : World} {z : Nat} {b p : Int} {v : Value} {bs : List Bool} (h : ChBox W z b p v bs) (hk : Keeps S W W') (hz : ¬ S z) : ChBox W' z b p v bs := ⟨h.1, (hk.block z h.lt hz).trans h.2⟩
theorem ChBox.cells {W : World} {z : Nat} {b p : Int} {v : Value} {bs : List Bool} (h : ChBox W z b p v bs) : W.cell? ⟨z, 0, none⟩ = some (.int .i64 b) ∧ W.cell? ⟨z, 1, none⟩ = some (.int .i64 p) ∧ W.cell? ⟨z, 2, none⟩ = some v := by
  have h' := h.2
  simp [World.cell?, h']
theorem ChBox.flag {W : World} {z : Nat} {b p : Int} {v : Value} {bs : List Bool} (h : ChBox W z b p v bs) (i : Nat) (hi : i < bs.length) : W.cell? ⟨z, 3 + i, none⟩ = some (.bool bs[i]) := by
  have h' := h.2
  rw [show 3 + i = i + 1 + 1 + 1 by omega]
  simp [World.cell?, h', hi]
theorem ChBox.mark {W : World} {z : Nat} {b p : Int} {v : Value} {bs : List Bool} (h : ChBox W z b p v bs) (i : Nat) : W.frozen? ⟨z, i, none⟩ = false := by
  have h' := h.2
  simp [World.frozen?, h']
theorem ChBox.setF {W : World} {z : Nat} {b p : Int} {v : Value} {bs : List Bool} (h : ChBox W z b p v bs) (i : Nat) (x : Bool) : ChBox (W.setCell ⟨z, 3 + i, none⟩ (.bool x)) z b p v (bs.set i x) := by
  refine ⟨by rw [List.length_set]; exact h.1, ?_⟩
  rw [heap_setCell_same W z (3 + i) _ _ (.bool x) h.2]
  rw [show 3 + i = i + 1 + 1 + 1 by omega]
  simp [List.map_set]
theorem ChBox.setV {W : World} {z : Nat} {b p : Int} {v : Value} {bs : List Bool} (h : ChBox W z b p v bs) (u : Value) : ChBox (W.setCell ⟨z, 2, none⟩ u) z b p u bs := by
  refine ⟨h.1, ?_⟩
  rw [heap_setCell_same W z 2 _ _ u h.2]
  simp

set_option maxRecDepth 100000 in
set_option maxHeartbeats 4000000 in
theorem begin_no (b pg : Int) (p : Option Addr) (c : Nat) (fs : List Int) (W : World) (hmax : fs.length ≤ 4611686018427387904) (hl : NumsAt W .i64 (.slice p fs.length c) fs) (hr : rightP b pg fs = false) :
    Calls Try.prog 28 #[.agg #[.int .i64 b, .int .i64 pg, .slice p fs.length c]] W fun e w' => e = .returned (.tuple #[.pointer none, .int .i64 170]) ∧ Below W.heap.size W w' := by
  obtain ⟨w0, hw0⟩ : ∃ X : World, X = W.alloc (.cells #[.int .i64 b, .int .i64 pg, .slice p fs.length c] 24) := ⟨_, rfl⟩
  have hb0 : Below W.heap.size W w0 := by rw [hw0]; exact below1 _ _
  have HC := Lib.hid (flags_c b pg p c fs w0 hmax (rowOut_of_nums (nums_below hl hb0)))
  obtain ⟨c0, c1, c2⟩ := (show PBox w0 W.heap.size b pg (.slice p fs.length c) by rw [hw0]; exact PBox.new _ _ _ _).cells
  have HB0 := Lib.hid hb0
  rw [hr] at HC
  clear hb0 hl hr
  go_enter Try.func28, Try.ntmps28
  go_wp2_with fail
  rw [← hw0]
  clear hw0
  refine HC.out.mono ?_
  rintro e w1 ⟨⟨bs, hbs, rfl, -⟩, hb1⟩
  have HB1 := Lib.hid (below_then HB0.out HB0.out.size hb1)
  obtain ⟨s1, s2, s3, s4, s5⟩ := wS_facts w1 hbs
  have HB3 := Lib.hid (below_then HB1.out HB1.out.size s2)
  have HT := Lib.hid s3
  have HI := Lib.hid s4
  have H1 := Lib.hid s5
  obtain ⟨w3, hw3⟩ : ∃ X, X = wS w1 bs := ⟨_, rfl⟩
  rw [← hw3] at HB3
  unfold wS at hw3
  have HW3 := Lib.hid hw3
  clear hw3 s1 s2 s3 s4 s5 c0 c1 c2 hb1
  go_wp2_with (with_reducible refine wpList_store_mid (op := ⟨none, _, _, _, _, _⟩) rfl _ _ _ rfl w1.heap.size 0 (bs.map Value.bool).toArray rfl rfl HT.out HI.out H1.out ?_; rw [← HW3.out])
  go_ret2
  exact ⟨rfl, HB3.out⟩

set_option maxRecDepth 100000 in
set_option maxHeartbeats 4000000 in
theorem begin_yes (b pg : Int) (p : Option Addr) (c : Nat) (fs : List Int) (W : World) (hmax : fs.length ≤ 4611686018427387904) (hl : NumsAt W .i64 (.slice p fs.length c) fs) (hv : p = none → c = 0) (hr : rightP b pg fs = true) :
    Calls Try.prog 28 #[.agg #[.int .i64 b, .int .i64 pg, .slice p fs.length c]] W fun e w' => (∃ z p' c', e = .returned (.tuple #[.pointer (some ⟨z, 0, none⟩), .int .i64 0]) ∧ W.heap.size ≤ z ∧ ChBox w' z b pg (.slice p' fs.length c') (flg fs) ∧ w'.ownsRow W.heap.size 3 1 (.slice p' fs.length c') fs.length (fs.map (Value.int .i64))) ∧ Below W.heap.size W w' := by
  obtain ⟨w0, hw0⟩ : ∃ X : World, X = W.alloc (.cells #[.int .i64 b, .int .i64 pg, .slice p fs.length c] 24) := ⟨_, rfl⟩
  have hb0 : Below W.heap.size W w0 := by rw [hw0]; exact below1 _ _
  have HC := Lib.hid (flags_c b pg p c fs w0 hmax (rowOut_of_nums (nums_below hl hb0)))
  have HPX := Lib.hid (show PBox w0 W.heap.size b pg (.slice p fs.length c) by rw [hw0]; exact PBox.new _ _ _ _)
  obtain ⟨c0, c1, c2⟩ := HPX.out.cells
  have HB0 := Lib.hid hb0
  have HL64 := Lib.hid (rightP_len hr)
  have HNU := Lib.hid (And.intro hl hv)
  rw [hr] at HC
  clear hb0 hl hr hv
  go_enter Try.func28, Try.ntmps28
  go_wp2_with fail
  rw [← hw0]
  clear hw0
  refine HC.out.mono ?_
  rintro e w1 ⟨⟨bs, hbs, rfl, hfl⟩, hb1⟩
  obtain rfl := hfl (by trivial)
  have HB1 := Lib.hid (below_then HB0.out HB0.out.size hb1)
  obtain ⟨s1, s2, s3, s4, s5⟩ := wS_facts w1 hbs
  have HB3 := Lib.hid (below_then HB1.out HB1.out.size s2)
  have HP3 := Lib.hid ((HPX.out.below hb1).below s2)
  have HN1 := Lib.hid (show W.heap.size < w1.heap.size from (HPX.out.below hb1).lt)
  have HT := Lib.hid s3
  have HI := Lib.hid s4
  have H1 := Lib.hid s5
  have HF3 := Lib.hid s1
  obtain ⟨w3, hw3⟩ : ∃ X, X = wS w1 (flg fs) := ⟨_, rfl⟩
  rw [← hw3] at HB3 HF3 HP3
  unfold wS at hw3
  have HW3 := Lib.hid hw3
  clear hw3 s1 s2 s3 s4 s5 c0 c1 c2 hb1 HPX HB1 HB0 HC
  obtain ⟨c0, c1, c2⟩ := HP3.out.cells
  go_wp2_with (first | (with_reducible refine wpList_store_mid (op := ⟨none, _, _, _, _, _⟩) rfl _ _ _ rfl w1.heap.size 0 ((flg fs).map Value.bool).toArray rfl rfl HT.out HI.out H1.out ?_; rw [← HW3.out]) | fail)
  clear c0 c1 c2 HT HI H1 HW3
  obtain ⟨z, hz⟩ : ∃ z, z = w1.heap.size := ⟨_, rfl⟩
  rw [← hz] at HF3 HN1 ⊢
  clear hz
  refine (cloneI _ fs.length (fs.map (Value.int .i64)) w3 (vals_of_nums (nums_below HNU.out.1 HB3.out) HNU.out.2) (by simp [Value.oneCell']) (by have := HL64.out; omega)).mono ?_
  rintro e w4 ⟨⟨v', rfl, ho⟩, hb4⟩
  obtain ⟨p', c', rfl⟩ := owns_slice ho
  have HO4 := Lib.hid (ho.mono HB3.out.size)
  have HP4 := Lib.hid (HP3.out.below hb4)
  have HF4 := Lib.hid (HF3.out.below hb4)
  have HB4 := Lib.hid (below_then HB3.out HB3.out.size hb4)
  clear ho hb4 HP3 HF3 HB3 HNU
  obtain ⟨c0, c1, c2⟩ := HP4.out.cells
  have k2 := HP4.out.marks 2
  obtain ⟨w5, hw5⟩ : ∃ X : World, X = w4.setCell ⟨W.heap.size, 2, none⟩ (.slice p' fs.length c') := ⟨_, rfl⟩
  have hk5 : Keeps (fun k => k = W.heap.size) w4 w5 := by rw [hw5]; exact Keeps.setCell w4 (S := (· = W.heap.size)) (p := ⟨W.heap.size, 2, none⟩) rfl _
  have HP5 := Lib.hid (show PBox w5 W.heap.size b pg (.slice p' fs.length c') by
    rw [hw5]; unfold PBox; rw [heap_setCell_same w4 W.heap.size 2 _ _ _ HP4.out]; rfl)
  have HF5 := Lib.hid (HF4.out.keeps hk5 (by have := HN1.out; omega))
  have HB5 := Lib.hid (HB4.out.trans (hk5.below HB4.out.size (fun k e => by omega)))
  have HO5 := Lib.hid (hk5.row HO4.out (fun g hg e => by
    subst e
    obtain ⟨cc, f, h1⟩ := Lib.ownsRow_kind HO4.out _ hg
    have h2 : w4.heap[W.heap.size]? = _ := HP4.out
    rw [h1] at h2
    simp at h2))
  have HW5 := Lib.hid hw5
  have HR := Lib.hid HF5.out.range
  have HI1 := Lib.hid (show (Try.prog.info? 60).map (·.size) = some ((flg fs).map Value.bool).length by rw [List.length_map, flg_len]; exact flag_info)
  clear hw5 hk5 HF4
  go_upto_region 5 with fail
  rw [← HW5.out]
  clear c0 c1 c2 k2 HP4 HO4 HB4 HW5
  obtain ⟨c0, c1, c2⟩ := HP5.out.cells
  have HBC := Lib.hid (build_change b pg p' fs.length c' (flg fs) (flg_len _) w5)
  go_wp2_with (first | (with_reducible refine wpList_load_mid (op := ⟨some 18, _, _, _, _, _⟩) rfl _ _ rfl z 0 rfl ((flg fs).map Value.bool) _ HR.out Try.underlying60 rfl HI1.out ?_) | (with_reducible refine wpList_build2 (op := ⟨some 19, _, _, _, _, _⟩) rfl _ _ _ rfl (.agg #[.int .i64 b, .int .i64 pg, .slice p' fs.length c']) (.agg ((flg fs).map Value.bool).toArray) _ rfl rfl HBC.out ?_))
  go_ret2
  exact ⟨⟨w5.heap.size, p', c', rfl, HB5.out.size, ⟨flg_len _, World.alloc_heap_new w5 _⟩, HO5.out.alloc _⟩, HB5.out.alloc HB5.out.size _⟩

end Go.Proofs.Ythjkaabbbhfjhaa
