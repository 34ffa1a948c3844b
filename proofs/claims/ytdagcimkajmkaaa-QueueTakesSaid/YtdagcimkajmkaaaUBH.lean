/-
  QueueTakes, called with any queue and row of numbers: it returns true, and changes none of its arguments.
  Conditions: none.
-/
import Derived.Test.YtdagcimkajmkaaaUA4
import Derived.Deep.DeepCutAuto
import Derived.Test.YtdagcimkajmkaaaUA1
/-
  The reference of layer 13: Drain.
  Conditions: the queue may be.
-/
namespace Go.Proofs.Ytdagcimkajmkaaa
set_option maxRecDepth 100000
open Go.RowKit Go.Shelf
attribute [local go_sem] Oper.semAt_some

/-- append of one word that has just been laid. -/
theorem wpList_app_word {ops : Array Oper} {rest : List Oper} {o : Oper} {a : Act} {Q : Exit → Act → World → Prop} {w : World} (hgd : o.guard = none) (s x : Operand)
    (ho : o.op = .call { callee := .builtin .append, args := #[s, x], argTypes := #[26, 26] })
    (B : Nat) (v : Value) (n : Nat) (l : List Int) (hs : a.eval s = v) (hown : w.ownsRow B 23 1 v n (l.map (Value.int .u64)))
    (b c : Nat) (y : Int) (hx : a.eval x = .slice (some ⟨b, 0, none⟩) 1 c) (h0 : w.cell? ⟨b, 0, none⟩ = some (.int .u64 y)) (hl : n ≤ 1000000) (hB : B ≤ w.heap.size)
    (h : ∀ q r w', w'.ownsRow B 23 1 (.slice q (n + 1) r) (n + 1) ((l ++ [y]).map (Value.int .u64)) → Keeps (fun k => some k = v.ownBlock) w w' → wpList Try.prog ops Q rest (a.put o.dst (.slice q (n + 1) r)) w') :
    wpList Try.prog ops Q (o :: rest) a w := by
  obtain ⟨i0, hi, hz0, hz1, hz2⟩ := info_parts info_w
  refine wpList_append_own w hgd s x 26 ho B 23 i0 (.int .u64 0) 1 8 Try.underlying26 hi hz0 hz1 hz2 rfl (by decide) v n _ hs hown ⟨b, 0, none⟩ 1 c [.int .u64 y] hx rfl (fun j u hj => ?_) (fun u hu => by rw [List.mem_singleton.1 hu]; rfl) (by unfold maxLen; omega) (by omega) hB fun v' w' h2 h3 _ => ?_
  · rw [addr_add_off, Nat.zero_add]
    match j, hj with
    | 0, hj => simp only [List.getElem?_cons_zero, Option.some.injEq] at hj; rw [← hj]; exact h0
  · have e : l.map (Value.int .u64) ++ [.int .u64 y] = (l ++ [y]).map (Value.int .u64) := by simp
    rw [e] at h2
    obtain ⟨q, r, rfl⟩ := owns_slice h2
    exact h q r w' h2 ⟨h3.os, h3.tape, h3.output, h3.size, fun k hk hn => h3.block k hk (fun e => hn e)⟩

theorem dones_prefix (over : Int) : ∀ l, dones over l = l.take (dones over l).length
  | [] => rfl
  | c :: l => by
    unfold dones
    split
    · have := dones_prefix over l
      simp only [List.length_cons, List.take_succ_cons]
      rw [← this]
    · rfl
theorem dones_in (over : Int) : ∀ (l : List (Int × Int)) (i : Nat) (h : i < l.length), i < (dones over l).length → l[i].1 ≤ over
  | c :: l, i, h, hd => by
    unfold dones at hd
    split at hd
    · rename_i hc
      cases i with
      | zero => exact hc
      | succ i => exact dones_in over l i (by simpa using h) (by simpa using hd)
    · simp at hd
theorem dones_out (over : Int) : ∀ (l : List (Int × Int)) (least : Int), srtB least l = true → ∀ (i : Nat) (h : i < l.length), (dones over l).length ≤ i → over < l[i].1
  | c :: l, least, hs, i, h, hd => by
    have hs' : least ≤ c.1 ∧ srtB c.1 l = true := by
      have : (decide (least ≤ c.1) && srtB c.1 l) = true := hs
      simpa using this
    unfold dones at hd
    split at hd
    · rename_i hc
      cases i with
      | zero => simp at hd
      | succ i => exact dones_out over l c.1 hs'.2 i (by simpa using h) (by simpa using hd)
    · rename_i hc
      cases i with
      | zero => simp only [List.getElem_cons_zero]; omega
      | succ i =>
        simp only [List.getElem_cons_succ]
        have := (srt_last l c.1 hs'.2 (l[i]'(by simpa using h)) (List.getElem_mem _)).1
        omega
theorem rd_in {over : Int} {l : List (Int × Int)} {mo k i : Nat} (hk : k = ((dones over l).take mo).length) (h : i < l.length) (hi : i < k) : l[i].1 ≤ over ∧ i < mo := by
  rw [List.length_take] at hk
  exact ⟨dones_in over l i h (by omega), by omega⟩
theorem rd_out {over : Int} {l : List (Int × Int)} {mo k i : Nat} (hs : srtB 0 l = true) (hk : k = ((dones over l).take mo).length) (h : i < l.length) (hi : k ≤ i) : over < l[i].1 ∨ mo ≤ k := by
  rw [List.length_take] at hk
  by_cases hm : mo ≤ k
  · exact .inr hm
  · exact .inl (dones_out over l 0 hs i h (by omega))
theorem rd_take {over : Int} {l : List (Int × Int)} {mo k : Nat} (hk : k = ((dones over l).take mo).length) : l.take k = (dones over l).take mo := by
  have h1 := dones_prefix over l
  rw [List.length_take] at hk
  have h2 : (dones over l).take mo = (l.take (dones over l).length).take mo := by rw [← h1]
  rw [h2, List.take_take, ← hk]

/-- Between two rounds. -/
structure RdI (W : World) (v : Value) (over : Int) (l : List (Int × Int)) (k i : Nat) (pl : Option Addr) (nl cl : Nat) (po : Option Addr) (no co : Nat) (w : World) : Prop where
  q : QBox w W.heap.size v over
  r : QBox w (W.heap.size + 1) (.slice none 0 0) 0
  cb : CbOut (fun q => W.heap.size ≤ q) w v l
  lf : w.ownsRow (W.heap.size + 2) 53 2 (.slice pl nl cl) nl (cvs ((l.take i).drop (min i k)))
  ow : w.ownsRow (W.heap.size + 2) 23 1 (.slice po no co) no ((whats (l.take (min i k))).map (Value.int .u64))
  b : Below W.heap.size W w
  z : W.heap.size + 2 ≤ w.heap.size
  no : no = min i k ∧ no + nl = i
theorem RdI.below {W : World} {v : Value} {over : Int} {l : List (Int × Int)} {k i : Nat} {pl : Option Addr} {nl cl : Nat} {po : Option Addr} {no co : Nat} {w w' : World} (h : RdI W v over l k i pl nl cl po no co w) (hb : Below w.heap.size w w') : RdI W v over l k i pl nl cl po no co w' :=
  ⟨h.q.below hb, h.r.below hb, h.cb.below hb, owns_below h.lf hb, owns_below h.ow hb, below_then h.b h.b.size hb, Nat.le_trans h.z hb.size, h.no⟩
theorem RdI.took {W : World} {v : Value} {over : Int} {l : List (Int × Int)} {k i : Nat} {pl : Option Addr} {nl cl : Nat} {po : Option Addr} {no co : Nat} {w w' : World} {q : Option Addr} {r : Nat} {x y : Int} (h : RdI W v over l k i pl nl cl po no co w) (hil : i < l.length) (hik : i < k) (hxy : l[i] = (x, y))
    (ho : w'.ownsRow (W.heap.size + 2) 23 1 (.slice q (no + 1) r) (no + 1) ((whats (l.take (min i k)) ++ [y]).map (Value.int .u64))) (hk : Keeps (fun b => some b = (Value.slice po no co).ownBlock) w w') : RdI W v over l k (i + 1) pl nl cl q (no + 1) r w' := by
  have hs : ∀ b, some b = (Value.slice po no co).ownBlock → W.heap.size + 2 ≤ b := fun b e => (h.ow.lt b e.symm).1
  have hno := h.no
  have hz := h.z
  have e1 : min i k = i := by omega
  have e2 : min (i + 1) k = i + 1 := by omega
  have htk := List.take_succ_eq_append_getElem hil
  refine ⟨h.q.keeps hk (fun e => by have := hs _ e; omega), h.r.keeps hk (fun e => by have := hs _ e; omega), h.cb.keeps (hk.sub (fun b _ e => by have := hs b e; omega)), ?_, ?_, h.b.trans (hk.below h.b.size (fun b e => by have := hs b e; omega)), Nat.le_trans h.z hk.size, by omega⟩
  · have := hk.row h.lf (fun g hg hgs => owns_ne h.lf h.ow (by decide) hg hgs.symm rfl)
    rw [e2]
    rw [e1] at this
    have n0 : nl = 0 := by omega
    subst n0
    have d1 : (l.take (i + 1)).drop (i + 1) = [] := List.drop_eq_nil_of_le (by rw [List.length_take]; omega)
    have d2 : (l.take i).drop i = [] := List.drop_eq_nil_of_le (by rw [List.length_take]; omega)
    rw [d1]; rw [d2] at this; exact this
  · rw [e2, htk, hxy]
    rw [e1] at ho
    have : whats (l.take i ++ [(x, y)]) = whats (l.take i) ++ [y] := by simp [whats]
    rw [this]
    exact ho
theorem RdI.left {W : World} {v : Value} {over : Int} {l : List (Int × Int)} {k i : Nat} {pl : Option Addr} {nl cl : Nat} {po : Option Addr} {no co : Nat} {w w' : World} {q : Option Addr} {r : Nat} {x y : Int} (h : RdI W v over l k i pl nl cl po no co w) (hil : i < l.length) (hik : k ≤ i) (hxy : l[i] = (x, y))
    (ho : w'.ownsRow (W.heap.size + 2) 53 2 (.slice q (nl + 1) r) (nl + 1) (cvs ((l.take i).drop (min i k) ++ [(x, y)]))) (hk : Keeps (fun b => some b = (Value.slice pl nl cl).ownBlock) w w') : RdI W v over l k (i + 1) q (nl + 1) r po no co w' := by
  have hs : ∀ b, some b = (Value.slice pl nl cl).ownBlock → W.heap.size + 2 ≤ b := fun b e => (h.lf.lt b e.symm).1
  have hno := h.no
  have hz := h.z
  have e1 : min i k = k := by omega
  have e2 : min (i + 1) k = k := by omega
  have htk := List.take_succ_eq_append_getElem hil
  refine ⟨h.q.keeps hk (fun e => by have := hs _ e; omega), h.r.keeps hk (fun e => by have := hs _ e; omega), h.cb.keeps (hk.sub (fun b _ e => by have := hs b e; omega)), ?_, ?_, h.b.trans (hk.below h.b.size (fun b e => by have := hs b e; omega)), Nat.le_trans h.z hk.size, by omega⟩
  · rw [e2, htk, hxy, List.drop_append_of_le_length (by rw [List.length_take]; omega)]
    rw [e1] at ho
    exact ho
  · have := hk.row h.ow (fun g hg hgs => owns_ne h.ow h.lf (by decide) hg hgs.symm rfl)
    rw [e2]; rw [e1] at this; exact this
/-- What it answers. -/
def RDrainQ (B : Nat) (over : Int) (l : List (Int × Int)) (mo : Nat) (e : Ending) (w' : World) : Prop := ∃ k p n c po co, k = ((dones over l).take mo).length ∧ e = .returned (.tuple #[.agg #[.slice p n c, .int .u64 over], .slice po k co]) ∧ w'.ownsRow B 53 2 (.slice p n c) n (cvs (l.drop k)) ∧ w'.ownsRow B 23 1 (.slice po k co) k ((whats ((dones over l).take mo)).map (Value.int .u64))

set_option maxHeartbeats 16000000 in
theorem rdrain_c (v : Value) (over : Int) (l : List (Int × Int)) (mo : Nat) (W : World) (hv : CbOut NoS W v l) (ho : 0 ≤ over) (hm : mayB over l = true) (hmo : mo ≤ 9223372036854775807) :
    Calls Try.prog 16 #[.agg #[v, .int .u64 over], .int .i64 (mo : Int)] W fun e w' => RDrainQ W.heap.size over l mo e w' ∧ Below W.heap.size W w' := by
  have hsr : srtB 0 l = true := by
    rw [may_srt over l ho] at hm
    simp only [Bool.and_eq_true] at hm
    exact hm.1.1.1
  obtain ⟨hg1, hg2, -⟩ := may_parts hm
  obtain ⟨K, hK⟩ : ∃ K, K = ((dones over l).take mo).length := ⟨_, rfl⟩
  have hKl : K ≤ l.length := by rw [hK, List.length_take]; have := dones_len over l; omega
  obtain ⟨w0, hw0⟩ : ∃ X : World, X = (W.alloc (.cells #[v, .int .u64 over] 25)).alloc (.cells #[.slice none 0 0, .int .u64 0] 25) := ⟨_, rfl⟩
  have hb0 : Below W.heap.size W w0 := by rw [hw0]; exact below2 _ _ _
  have HI0 := Lib.hid (show RdI W v over l K 0 none 0 0 none 0 0 w0 from ⟨by rw [hw0]; exact (QBox.new W _ _).below (below1 _ _), by
      rw [hw0]
      have := QBox.new (W.alloc (.cells #[v, .int .u64 over] 25)) (.slice none 0 0) 0
      rwa [World.size_alloc] at this, (hv.apart (T := fun q => W.heap.size ≤ q) (fun q h => .inr h)).below hb0, by simpa [cvs] using World.ownsRow_nil _ _ _ _, by simpa [whats] using World.ownsRow_nil _ _ _ _, hb0, by rw [hw0]; simp, by simp⟩)
  obtain ⟨p, c, rfl, hlc, hcm, -⟩ := hv
  obtain ⟨n, hn⟩ : ∃ n, n = l.length := ⟨_, rfl⟩
  rw [← hn] at HI0 hlc hg2 hKl hw0 ⊢
  have HW0 := Lib.hid hw0
  have HN := Lib.hid (And.intro hn (And.intro hK hsr))
  have HKL := Lib.hid hKl
  obtain ⟨q0, q1⟩ := HI0.out.q.cells
  rw [hw0] at q0 q1
  clear hw0 hb0 hn hK hsr hm hKl
  go_enter Try.func16, Try.ntmps16
  go_wp2
  rw [← HW0.out]
  clear HW0 q0 q1
  go_loopw [6, 7, 13] (fun vl vo iv wr => ∃ (i : Nat) (pl : Option Addr) (nl cl : Nat) (po : Option Addr) (no co : Nat), i ≤ n ∧ iv = .int .i64 (i : Int) ∧ vl = .slice pl nl cl ∧ vo = .slice po no co ∧ no + nl = i ∧ Hid (RdI W (.slice p n c) over l K i pl nl cl po no co wr)) (fun _ _ iv _ => n - (intOf iv).toNat)
  case atStart => exact ⟨0, none, 0, 0, none, 0, 0, Nat.zero_le _, rfl, rfl, rfl, rfl, HI0⟩
  case round =>
    clear HI0
    obtain ⟨i, pl, nl, cl, po, no, co, hi, rfl, rfl, rfl, hsum, HX⟩ := hrel
    by_cases hlt : i < n
    · have hil : i < l.length := by have := HN.out.1; omega
      have hne : l ≠ [] := by rintro rfl; simp at hil
      obtain ⟨p', cap', e, -, -, hc⟩ := HX.out.cb
      injection e with e1 e2 e3
      subst e1 e3
      obtain ⟨b, off, rfl, -, hcs⟩ := hc hne
      obtain ⟨hx, hy⟩ := hcs i hil
      obtain ⟨x, hxe⟩ : ∃ x, x = l[i].1 := ⟨_, rfl⟩
      obtain ⟨y, hye⟩ : ∃ y, y = l[i].2 := ⟨_, rfl⟩
      have hxy : l[i] = (x, y) := by rw [hxe, hye]
      have hin := fun h : i < K => rd_in HN.out.2.1 hil h
      have hout := fun h : K ≤ i => rd_out HN.out.2.2 HN.out.2.1 hil h
      rw [← hxe] at hx hin hout
      rw [← hye] at hy
      have hbl := World.block_lt_of_cell? wr _ hx
      obtain ⟨w1, hw1⟩ : ∃ X : World, X = wr.alloc (.cells #[.int .u64 x, .int .u64 y] 53) := ⟨_, rfl⟩
      have hb1 : Below wr.heap.size wr w1 := by rw [hw1]; exact below1 _ _
      have HX1 := Lib.hid (HX.out.below hb1)
      have HC1 := Lib.hid (show CBox w1 wr.heap.size x y by rw [hw1]; exact CBox.new _ _ _)
      have HW1 := Lib.hid hw1
      have HXY := Lib.hid hxy
      have HII := Lib.hid (And.intro hin hout)
      have hi0 : (0 : Int) ≤ (i : Int) := by omega
      have hlt' : (i : Int) < (n : Int) := by omega
      clear hc hcs hxe hye hxy hne e2 hb1 hw1 hin hout
      go_upto_region 6 with fail
      rw [← HW1.out]
      clear HW1 hx hy hbl
      obtain ⟨cz, hcz⟩ : ∃ z, z = wr.heap.size := ⟨_, rfl⟩
      rw [← hcz] at HC1 ⊢
      clear hcz
      obtain ⟨q0, q1⟩ := HX1.out.q.cells
      obtain ⟨k0, k1⟩ := HC1.out.cells
      have hno := HX1.out.no
      by_cases hik : i < K
      · obtain ⟨h1, h2⟩ := HII.out.1 hik
        have h3 : (no : Int) < (mo : Int) := by omega
        have HIK := Lib.hid hik
        clear hik hno h2
        go_upto_region 9 with (at_builtin; refine wpList_app_word rfl _ _ rfl (W.heap.size + 2) (.slice po no co) no (whats (l.take (min i K))) rfl (owns_below HX1.out.ow (below1 _ _)) w1.heap.size 1 y rfl (by simp) (by omega) (by have := HX1.out.z; rw [World.size_alloc]; omega) ?_; intro q r w2 ho2 hk2; have HX2 := Lib.hid ((HX1.out.below (below1 w1 (.cells #[.int .u64 y] 23))).took hil HIK.out HXY.out ho2 hk2); clear ho2 hk2)
        go_wp2
        go_roundw
        case rel => exact ⟨i + 1, pl, nl, cl, _, no + 1, _, by omega, by go_num, rfl, rfl, by omega, HX2⟩
        case measure => simp [intOf]; omega
      · have hki : K ≤ i := by omega
        have HKI := Lib.hid hki
        have hcase : over < x ∨ (x ≤ over ∧ (mo : Int) ≤ (no : Int)) := by
          rcases HII.out.2 hki with h | h
          · exact .inl h
          · by_cases hx : over < x
            · exact .inl hx
            · exact .inr ⟨by omega, by omega⟩
        clear hik hno hki
        rcases hcase with h1 | ⟨h1, h2⟩
        all_goals
          go_upto_region 9 with (at_builtin; refine wpList_app_one rfl _ _ rfl (W.heap.size + 2) (.slice pl nl cl) nl ((l.take i).drop (min i K)) (by have := HX1.out.lf.1; rw [cvs_len] at this; omega) rfl (owns_below HX1.out.lf (below1 _ _)) w1.heap.size 1 x y rfl (by simp) (by simp) (by omega) (by have := HX1.out.z; rw [World.size_alloc]; omega) ?_; intro q r w2 ho2 hk2; have HX2 := Lib.hid ((HX1.out.below (below1 w1 (.cells #[.int .u64 x, .int .u64 y] 53))).left hil HKI.out HXY.out ho2 hk2); clear ho2 hk2)
          go_wp2
          go_roundw
          case rel => exact ⟨i + 1, _, nl + 1, _, po, no, co, by omega, by go_num, rfl, rfl, by omega, HX2⟩
          case measure => simp [intOf]; omega
    · have hin : i = n := by omega
      have hno := HX.out.no
      have hmk : min i K = K := by have := HKL.out; omega
      have hlf := HX.out.lf
      have how := HX.out.ow
      rw [hmk, show l.take i = l by rw [hin, HN.out.1, List.take_length]] at hlf
      rw [hmk, rd_take HN.out.2.1] at how
      have hnk : no = K := by omega
      subst hnk
      obtain ⟨q0, q1⟩ := HX.out.q.cells
      have m0 := HX.out.q.marks 0
      obtain ⟨w1, hw1⟩ : ∃ X : World, X = wr.setCell ⟨W.heap.size, 0, none⟩ (.slice pl nl cl) := ⟨_, rfl⟩
      have hk1 : Keeps (fun q => q = W.heap.size) wr w1 := by rw [hw1]; exact set1K _ _ 0 _
      have hq1 : QBox w1 W.heap.size (.slice pl nl cl) over := by rw [hw1]; exact HX.out.q.put0 _
      have hr1 := HX.out.r.keeps hk1 (by omega)
      have hb1 : Below W.heap.size W w1 := HX.out.b.trans (hk1.below HX.out.b.size (fun k e => by omega))
      have hl1 := hk1.row hlf (fun g e => by have := (hlf.lt g e).1; omega)
      have ho1 := hk1.row how (fun g e => by have := (how.lt g e).1; omega)
      obtain ⟨w2, hw2⟩ : ∃ X : World, X = (w1.setCell ⟨W.heap.size + 1, 0, none⟩ (.slice pl nl cl)).setCell ⟨W.heap.size + 1, 1, none⟩ (.int .u64 over) := ⟨_, rfl⟩
      have hk2 : Keeps (fun q => q = W.heap.size + 1) w1 w2 := by rw [hw2]; exact QBox.putK _ _ _ _
      have H2 := Lib.hid (show QBox w2 (W.heap.size + 1) (.slice pl nl cl) over ∧ w2.ownsRow (W.heap.size + 2) 53 2 (.slice pl nl cl) nl (cvs (l.drop no)) ∧ w2.ownsRow (W.heap.size + 2) 23 1 (.slice po no co) no ((whats ((dones over l).take mo)).map (Value.int .u64)) ∧ Below W.heap.size W w2 from ⟨by rw [hw2]; exact hr1.put _ _, hk2.row hl1 (fun g e => by have := (hl1.lt g e).1; omega), hk2.row ho1 (fun g e => by have := (ho1.lt g e).1; omega), hb1.trans (hk2.below hb1.size (fun k e => by omega))⟩)
      have HQ1 := Lib.hid hq1
      have HR1 := Lib.hid hr1
      have HW1 := Lib.hid hw1
      have HW2 := Lib.hid hw2
      clear hin hno hmk hlf how hw1 hk1 hq1 hr1 hb1 hl1 ho1 hw2 hk2
      go_upto_region 11 with fail
      rw [← HW1.out]
      clear HW1 q0 q1 m0
      obtain ⟨q0, q1⟩ := HQ1.out.cells
      obtain ⟨r0, r1⟩ := HR1.out.cells
      have m0 := HR1.out.marks 0
      have m1 := HR1.out.marks 1
      go_wp2
      rw [← HW2.out]
      exact bodyPost_ret (results_ct rfl _ _ _ rfl rfl (queue_load H2.out.1)) rfl ⟨⟨no, pl, nl, cl, po, co, HN.out.2.1, rfl, H2.out.2.1.mono (by omega), H2.out.2.2.1.mono (by omega)⟩, H2.out.2.2.2⟩

end Go.Proofs.Ytdagcimkajmkaaa
/-
  QueueTakes, called with any queue and row of numbers: it answers true.
  Conditions: the ranges of Go's types.
-/
namespace Go.Proofs.Ytdagcimkajmkaaa
set_option maxRecDepth 100000
open Go.RowKit Go.Shelf
attribute [local go_sem] Oper.semAt_some

theorem takeA_any {B : Nat} {over : Int} {l : List (Int × Int)} {e : Ending} {w : World} (h : TakeA B over l e w) : ∃ p n c X, e = .returned (.tuple #[.agg #[.slice p n c, .int .u64 (pO (takeE over l) over)], .int .u64 X, .int .i64 (takeE over l)]) ∧ OutQ B (.slice p n c) (pL (takeE over l) (l.drop 1)) w ∧ (takeE over l = 0 → whats ((dones over l).take 1) = [X]) ∧ (takeE over l ≠ 0 → X = 0) := by
  rcases h with ⟨h, v, x, rfl, ho, hx⟩ | ⟨h, rfl⟩
  · obtain ⟨p, c, rfl, _⟩ := id ho.1
    rw [h]
    exact ⟨p, _, c, x, rfl, ho, fun _ => hx, fun h => absurd rfl h⟩
  · unfold pO pL
    rw [if_neg h, if_neg h]
    exact ⟨none, 0, 0, 0, rfl, outQ_none _ _, fun e => absurd e h, fun _ => rfl⟩
theorem drainA_any {B : Nat} {over : Int} {l : List (Int × Int)} {most : Int} {e : Ending} {w : World} (h : DrainA B over l most e w) : ∃ p n c wp k wc k0 Wd, e = .returned (.tuple #[.agg #[.slice p n c, .int .u64 (pO (drainE over l most) over)], .slice wp k wc, .int .i64 (drainE over l most)]) ∧ OutQ B (.slice p n c) (pL (drainE over l most) (l.drop k0)) w ∧ w.ownsRow B 23 1 (.slice wp k wc) k (Wd.map (Value.int .u64)) ∧ Wd.length = k ∧ (drainE over l most = 0 → k0 = ((dones over l).take most.toNat).length ∧ Wd = whats ((dones over l).take most.toNat)) ∧ (drainE over l most ≠ 0 → Wd = []) := by
  rcases h with ⟨h, k, v, wp, wc, hk, rfl, ho, hw⟩ | ⟨h, rfl⟩
  · obtain ⟨p, c, rfl, _⟩ := id ho.1
    rw [h]
    exact ⟨p, _, c, wp, k, wc, k, _, rfl, ho, hw, by rw [whats_len]; exact hk.symm, fun _ => ⟨hk, rfl⟩, fun h => absurd rfl h⟩
  · have e1 : pO (drainE over l most) over = 0 := if_neg h
    have e2 : pL (drainE over l most) (l.drop 0) = [] := if_neg h
    exact ⟨none, 0, 0, none, 0, 0, 0, [], by rw [e1], by rw [e2]; exact outQ_none _ _, World.ownsRow_nil _ _ _ _, rfl, fun e => absurd e h, fun _ => rfl⟩
theorem row_box {B z : Nat} {w w' : World} {u v : Value} {o : Int} {n : Nat} {xs : List Value} (h : w.ownsRow B 23 1 v n xs) (hz : QBox w z u o) (hk : Keeps (fun k => k = z) w w') : w'.ownsRow B 23 1 v n xs :=
  hk.row h (fun g e hs => by
    obtain ⟨c, f, hc⟩ := Lib.ownsRow_kind h g e
    have h' : w.heap[z]? = _ := hz
    rw [hs, h'] at hc
    injection hc with hc
    injection hc with _ hc _
    revert hc
    decide)
theorem own_cell0 {B : Nat} {w : World} {p : Option Addr} {c : Nat} {y : Int} (h : w.ownsRow B 23 1 (.slice p 1 c) 1 [.int .u64 y]) : ∃ b, p = some ⟨b, 0, none⟩ ∧ w.cell? ⟨b, 0, none⟩ = some (.int .u64 y) := by
  rcases id h.2 with ⟨_, h0⟩ | ⟨g, cap, cur, e, _⟩
  · cases h0
  · injection e with e1 e2 e3
    subst e1
    refine ⟨g, rfl, ?_⟩
    have := h.cellAt 0 (by omega)
    simpa using this

set_option maxHeartbeats 32000000 in
theorem queueTakes_c (v : Value) (over : Int) (l : List (Int × Int)) (vw : Value) (ws : List Int) (W : World) (hv : CbOut NoS W v l) (hz : NilZ v) (ho : 0 ≤ over) (hg : ∀ c ∈ l, 0 ≤ c.1) (hw : NumsAt W .i64 vw ws) (hwl : ws.length ≤ 9223372036854775807) (hwr : ∀ w ∈ ws, -9223372036854775808 ≤ w ∧ w ≤ 9223372036854775807) :
    Calls Try.prog 4 #[.agg #[v, .int .u64 over], vw] W fun e w' => e = .returned (.bool true) ∧ Below W.heap.size W w' := by
  obtain ⟨px, cx, rfl, -⟩ := id hv
  obtain ⟨pw, cw, rfl, -⟩ := id hw
  obtain ⟨nx, hnx⟩ : ∃ n, n = l.length := ⟨_, rfl⟩
  obtain ⟨m, hm⟩ : ∃ m, m = ws.length := ⟨_, rfl⟩
  rw [← hnx] at hv hz ⊢
  rw [← hm] at hw hwl ⊢
  have HL := Lib.hid (And.intro hv hz)
  have HG := Lib.hid hg
  have HWD := Lib.hid (show NumsAt W .i64 (.slice pw m cw) ws ∧ m = ws.length ∧ (∀ w ∈ ws, -9223372036854775808 ≤ w ∧ w ≤ 9223372036854775807) from ⟨hw, hm, hwr⟩)
  obtain ⟨w0, hw0⟩ : ∃ X : World, X = W.alloc (.cells #[.slice px nx cx, .int .u64 over] 25) := ⟨_, rfl⟩
  have HF := Lib.hid (show QBox w0 W.heap.size (.slice px nx cx) over ∧ Below W.heap.size W w0 from ⟨by rw [hw0]; exact QBox.new W _ _, by rw [hw0]; exact below1 _ _⟩)
  have HW0 := Lib.hid hw0
  clear hv hz hg hw hm hwr hw0 hnx
  go_enter Try.func4, Try.ntmps4
  go_wp2_with fail
  rw [← HW0.out]
  clear HW0
  (with_reducible refine (wakes_c w0).mono ?_)
  rintro e w1 ⟨rfl, hb1⟩
  have hx1 := HF.out.1.below hb1
  have hbw1 := below_then HF.out.2 HF.out.2.size hb1
  have HOW := Lib.hid (lown_c (.slice px nx cx) over l w1 ((HL.out.1.below hbw1)) HL.out.2)
  have HX1 := Lib.hid (And.intro hx1 hbw1)
  have HS1 := Lib.hid hb1
  obtain ⟨q0, q1⟩ := hx1.cells
  clear hx1 hbw1 hb1 HF
  go_wp2_with fail
  (with_reducible refine HOW.out.mono ?_)
  rintro e w2 ⟨⟨v2, rfl, o2⟩, hb2⟩
  obtain ⟨ls, hls⟩ : ∃ ls, ls = l.take 20 := ⟨_, rfl⟩
  rw [← hls] at o2
  obtain ⟨n, hn⟩ : ∃ n, n = ls.length := ⟨_, rfl⟩
  rw [← hn] at o2
  obtain ⟨p, c, rfl⟩ := owns_slice o2
  have hnz := nilZ_owns o2
  obtain ⟨z, hz⟩ : ∃ z, z = w2.heap.size := ⟨_, rfl⟩
  obtain ⟨w3, hw3⟩ : ∃ X : World, X = w2.alloc (.cells #[.slice p n c, .int .u64 over] 25) := ⟨_, rfl⟩
  have hb3 : Below w2.heap.size w2 w3 := by rw [hw3]; exact below1 _ _
  have hb13 := below_then hb2 hb2.size hb3
  obtain ⟨Z, hZ⟩ : ∃ Z, Z = z + 1 := ⟨_, rfl⟩
  have hrow : CbOut (fun k => Z ≤ k) w3 (.slice p n c) ls := ((cb_of_owns o2).apart (T := fun k => Z ≤ k) (fun k hk => .inr (by omega))).below hb3
  have HQ := Lib.hid (show QpI W (.slice px nx cx) over z Z p n c ls w3 from ⟨HX1.out.1.below hb13, by rw [hw3, hz]; exact QBox.new _ _ _, hrow, fun h => hnz _ _ _ rfl h, below_then HX1.out.2 HX1.out.2.size hb13, by rw [hw3, hZ, hz]; simp, by have := HX1.out.1.lt; have := hb2.size; omega, by omega, by have := HX1.out.1.lt; have := hb2.size; omega⟩)
  have HB13 := Lib.hid (below_then HS1.out HS1.out.size hb13)
  have HSZ := Lib.hid (show w0.heap.size ≤ z ∧ z < Z by have := HS1.out.size; have := hb2.size; omega)
  have HLS := Lib.hid (show ls = l.take 20 ∧ n = ls.length ∧ (∀ c ∈ ls, 0 ≤ c.1) ∧ n ≤ 20 from ⟨hls, hn, fun c hc => HG.out c (by rw [hls] at hc; exact List.mem_of_mem_take hc), by rw [hn, hls, List.length_take]; omega⟩)
  have HW3 := Lib.hid (And.intro hw3 hz)
  clear HS1 hls hn o2 hnz hz hw3 hb2 hb3 hb13 hZ hrow HX1 HOW q0 q1
  obtain ⟨q0, q1⟩ := HQ.out.q.cells
  have q0' := q0
  have q1' := q1
  rw [HW3.out.1, HW3.out.2] at q0 q1
  go_upto_region 4 with fail
  rw [← HW3.out.1, ← HW3.out.2]
  clear HW3 q0 q1
  go_wp2_with fail
  have hrc := right_c (.slice p n c) over ls w3 (HQ.out.row.sub (fun _ h => False.elim h)) ho HLS.out.2.2.1
  (with_reducible refine hrc.mono ?_)
  rintro e w4 ⟨rfl, hb4⟩
  obtain ⟨R, hR⟩ : ∃ R, R = mayB over ls := ⟨_, rfl⟩
  rw [← hR]
  have HR := Lib.hid hR
  have HQ4 := Lib.hid (HQ.out.below hb4)
  have HB14 := Lib.hid (below_then HB13.out HB13.out.size hb4)
  clear hb4 hR HQ HB13 q0' q1' hrc
  clear HB14 HSZ
  obtain ⟨q0, q1⟩ := HQ4.out.q.cells
  have htc := take1_c (.slice p n c) over ls w4 (HQ4.out.row.sub (fun _ h => False.elim h)) ho
  go_wp2_with fail
  (with_reducible refine htc.mono ?_)
  rintro e wa ⟨hq, hba⟩
  obtain ⟨E, hE⟩ : ∃ E, E = takeE over ls := ⟨_, rfl⟩
  obtain ⟨O, hO⟩ : ∃ O, O = pO E over := ⟨_, rfl⟩
  obtain ⟨Lr, hLr⟩ : ∃ Lr, Lr = pL E (ls.drop 1) := ⟨_, rfl⟩
  have hq1 := takeA_any hq
  rw [← hE, ← hO, ← hLr] at hq1
  obtain ⟨pa, k, ca, X, rfl, oa, hX0, hX1⟩ := hq1
  obtain ⟨za, hza⟩ : ∃ z, z = wa.heap.size := ⟨_, rfl⟩
  obtain ⟨wb, hwb⟩ : ∃ X : World, X = (wa.alloc (.cells #[.slice pa k ca, .int .u64 O] 25)).alloc (.cells #[.slice none 0 0, .int .u64 0] 25) := ⟨_, rfl⟩
  have hbb : Below wa.heap.size wa wb := by rw [hwb]; exact below2 _ _ _
  have hbab := below_then hba hba.size hbb
  have HB := Lib.hid (show QpI W (.slice px nx cx) over z Z p n c ls wb ∧ QBox wb za (.slice pa k ca) O ∧ OutS Z za (.slice pa k ca) Lr wb ∧ QBox wb (za + 1) (.slice none 0 0) 0 ∧ Z ≤ za ∧ wb.heap.size = za + 2 from
    ⟨HQ4.out.below hbab, by rw [hwb, hza]; exact (QBox.new _ _ _).below (below1 _ _), (OutS.of oa HQ4.out.zs hza).below hbb, by
      rw [hwb, hza]
      have := QBox.new (wa.alloc (.cells #[.slice pa k ca, .int .u64 O] 25)) (.slice none 0 0) 0
      rwa [World.size_alloc] at this, by have := HQ4.out.zs; have := hba.size; omega, by rw [hwb, hza]; simp⟩)
  have HE := Lib.hid (And.intro hE (And.intro hO (And.intro hLr (And.intro hX0 hX1))))
  have HWB := Lib.hid (And.intro hwb hza)
  clear hq oa hba hbb hbab hE hO hLr hwb hza htc q0 q1 hX0 hX1 HQ4
  go_upto_if 36 with fail
  rw [← HWB.out.1, ← HWB.out.2]
  clear HWB
  go_cut [11, 12] (fun s11 s12 wc => ∃ (pr : Option Addr) (nr cr : Nat), s11 = .int .u64 X ∧ s12 = .int .i64 E ∧ Hid (QpI W (.slice px nx cx) over z Z p n c ls wc ∧ QBox wc za (.slice pa k ca) O ∧ OutS Z za (.slice pa k ca) Lr wc ∧ QBox wc (za + 1) (.slice pr nr cr) O ∧ CbOut NoS wc (.slice pr nr cr) Lr))
  case first => as_aux_lemma =>
    cases R with
    | false =>
      have hE : E = 230 := by rw [HE.out.1]; unfold takeE; rw [← HR.out]; rfl
      have hO : O = 0 := by rw [HE.out.2.1, hE]; rfl
      have hL : Lr = [] := by rw [HE.out.2.2.1, hE]; rfl
      have hX : X = 0 := HE.out.2.2.2.2 (by rw [hE]; decide)
      have HZ := Lib.hid (show QBox wb (za + 1) (.slice none 0 0) O ∧ CbOut NoS wb (.slice none 0 0) Lr from ⟨by rw [hO]; exact HB.out.2.2.2.1, by rw [hL]; exact (outQ_none 0 wb).1.sub (fun _ h => False.elim h)⟩)
      have HEX := Lib.hid (And.intro hE hX)
      clear hO hL hE hX
      go_wp2
      go_meet
      exact ⟨none, 0, 0, by rw [HEX.out.2], by rw [HEX.out.1], HB.out.1, HB.out.2.1, HB.out.2.2.1, HZ.out.1, HZ.out.2⟩
    | true =>
      have hm : mayB over ls = true := HR.out.symm
      have HE0 : Hid (E = if dones over ls = [] then 4 else 0) := Lib.hid (by rw [HE.out.1]; unfold takeE; rw [hm]; rfl)
      have hrp := rdrain_c (.slice p n c) over ls 1 wb (HB.out.1.row.sub (fun _ h => False.elim h)) ho hm (by decide)
      have hrp : Calls Try.prog 16 #[.agg #[.slice p n c, .int .u64 over], .int .i64 1] wb fun e w' => RDrainQ wb.heap.size over ls 1 e w' ∧ Below wb.heap.size wb w' := hrp
      obtain ⟨q0, q1⟩ := HB.out.1.q.cells
      clear hm
      go_wp2_with fail
      (with_reducible refine hrp.mono ?_)
      rintro e wd ⟨⟨kk, pr, nr, cr, po, co, hkk, rfl, hrow, hout⟩, hbd⟩
      obtain ⟨zd, hzd⟩ : ∃ z, z = wd.heap.size := ⟨_, rfl⟩
      obtain ⟨we, hwe⟩ : ∃ X : World, X = wd.alloc (.cells #[.slice pr nr cr, .int .u64 over] 25) := ⟨_, rfl⟩
      have hbe : Below wd.heap.size wd we := by rw [hwe]; exact below1 _ _
      have hbde := below_then hbd hbd.size hbe
      have HD := Lib.hid (show QpI W (.slice px nx cx) over z Z p n c ls we ∧ QBox we za (.slice pa k ca) O ∧ OutS Z za (.slice pa k ca) Lr we ∧ QBox we (za + 1) (.slice none 0 0) 0 ∧ QBox we zd (.slice pr nr cr) over ∧ we.ownsRow (za + 2) 53 2 (.slice pr nr cr) nr (cvs (ls.drop kk)) ∧ we.ownsRow (za + 2) 23 1 (.slice po kk co) kk ((whats ((dones over ls).take 1)).map (Value.int .u64)) ∧ za + 2 ≤ zd from
        ⟨HB.out.1.below hbde, HB.out.2.1.below hbde, HB.out.2.2.1.below hbde, HB.out.2.2.2.1.below hbde, by rw [hwe, hzd]; exact QBox.new _ _ _, (owns_below hrow hbe).mono (by have := HB.out.2.2.2.2.2; omega), (owns_below hout hbe).mono (by have := HB.out.2.2.2.2.2; omega), by have := HB.out.2.2.2.2.2; have := hbd.size; omega⟩)
      have HKK := Lib.hid hkk
      have HWE := Lib.hid (And.intro hwe hzd)
      clear hrow hout hbd hbe hbde hwe hzd hkk hrp q0 q1
      by_cases hd : dones over ls = []
      · have hE : E = 4 := HE0.out.trans (if_pos hd)
        have hO : O = 0 := by rw [HE.out.2.1, hE]; rfl
        have hL : Lr = [] := by rw [HE.out.2.2.1, hE]; rfl
        have hX : X = 0 := HE.out.2.2.2.2 (by rw [hE]; decide)
        have hk0 : kk = 0 := by rw [HKK.out, hd]; rfl
        have HZ := Lib.hid (show QBox we (za + 1) (.slice none 0 0) O ∧ CbOut NoS we (.slice none 0 0) Lr from ⟨by rw [hO]; exact HD.out.2.2.2.1, by rw [hL]; exact (outQ_none 0 we).1.sub (fun _ h => False.elim h)⟩)
        have HEX := Lib.hid (And.intro hE hX)
        subst hk0
        clear hO hL hE hX hd HE0
        go_wp2
        go_meet
        rw [← HWE.out.1]
        exact ⟨none, 0, 0, by rw [HEX.out.2], by rw [HEX.out.1], HD.out.1, HD.out.2.1, HD.out.2.2.1, HZ.out.1, HZ.out.2⟩
      · have hE : E = 0 := HE0.out.trans (if_neg hd)
        have hO : O = over := by rw [HE.out.2.1, hE]; rfl
        have hL : Lr = ls.drop 1 := by rw [HE.out.2.2.1, hE]; rfl
        have hX := HE.out.2.2.2.1 hE
        have hk1 : kk = 1 := by rw [HKK.out, ← whats_len, hX]; rfl
        subst hk1
        have hrow := HD.out.2.2.2.2.2.2.1
        rw [hX] at hrow
        obtain ⟨b, rfl, hyc⟩ := own_cell0 hrow
        have hbz : b ≠ za + 1 := by have := (hrow.lt b rfl).1; omega
        have HEX := Lib.hid (And.intro hE (And.intro hO hL))
        have HYC := Lib.hid (And.intro hyc hbz)
        clear hE hO hL hX hd HE0 hrow hyc hbz HKK
        go_upto_region 11 with fail
        rw [← HWE.out.1, ← HWE.out.2]
        clear HWE
        refine wpTwo_begin (T := fun w' => QBox w' zd (.slice pr nr cr) over ∧ w'.cell? ⟨b, 0, none⟩ = some (.int .u64 X)) (S := fun _ => True) (late := fun _ => false) (by kernel_rfl) ?_
        obtain ⟨X0, hX⟩ : ∃ Y : World, Y = we.drew := ⟨_, rfl⟩
        rw [← hX]
        have hbx : Below we.heap.size we X0 := by rw [hX]; exact (Below.refl _ _).drew
        clear hX
        have hT0 : QBox X0 zd (.slice pr nr cr) over ∧ X0.cell? ⟨b, 0, none⟩ = some (.int .u64 X) := ⟨HD.out.2.2.2.2.1.below hbx, below_cell hbx HYC.out.1⟩
        have HZ := Lib.hid (show QpI W (.slice px nx cx) over z Z p n c ls X0 ∧ QBox X0 za (.slice pa k ca) O ∧ OutS Z za (.slice pa k ca) Lr X0 ∧ QBox X0 (za + 1) (.slice none 0 0) 0 ∧ X0.ownsRow (za + 2) 53 2 (.slice pr nr cr) nr (cvs (ls.drop 1)) from ⟨HD.out.1.below hbx, HD.out.2.1.below hbx, HD.out.2.2.1.below hbx, HD.out.2.2.2.1.below hbx, owns_below HD.out.2.2.2.2.2.1 hbx⟩)
        have HZD := Lib.hid HD.out.2.2.2.2.2.2.2
        clear hbx HD
        refine wpTwo_takeT (i := 0) (v := .agg #[.slice pr nr cr, .int .u64 over]) rfl (by kernel_rfl) (by kernel_rfl) (by kernel_rfl) (fun _ _ _ h => h) ⟨by rfl, ?_⟩ hT0 ?_
        · rintro w ⟨hTw, hTc⟩
          obtain ⟨t0', t1'⟩ := hTw.cells
          go_simp
        (try simp only [Act.put, List.getElem_toArray, List.getElem_cons_zero, List.setIfInBounds_toArray, List.set_cons_succ, List.set_cons_zero])
        refine wpTwo_takeT (i := 1) (v := .slice (some ⟨b, 0, none⟩) 1 co) rfl (by kernel_rfl) (by kernel_rfl) (by kernel_rfl) (fun _ _ _ h => h) ⟨by rfl, ?_⟩ hT0 ?_
        · rintro w ⟨hTw, hTc⟩
          obtain ⟨t0', t1'⟩ := hTw.cells
          go_simp
        (try simp only [Act.put, List.getElem_toArray, List.getElem_cons_succ, List.getElem_cons_zero, List.setIfInBounds_toArray, List.set_cons_succ, List.set_cons_zero])
        refine wpTwo_takeT (i := 2) (v := .pointer (some ⟨b, 0, none⟩)) rfl (by kernel_rfl) (by kernel_rfl) (by kernel_rfl) (fun _ _ _ h => h) ⟨by rfl, ?_⟩ hT0 ?_
        · rintro w ⟨hTw, hTc⟩
          obtain ⟨t0', t1'⟩ := hTw.cells
          go_simp
        (try simp only [Act.put, List.getElem_toArray, List.getElem_cons_succ, List.getElem_cons_zero, List.setIfInBounds_toArray, List.set_cons_succ, List.set_cons_zero])
        refine wpTwo_takeT (i := 3) (v := .int .u64 X) rfl (by kernel_rfl) (by kernel_rfl) (by kernel_rfl) (fun _ _ _ h => h) ⟨by rfl, ?_⟩ hT0 ?_
        · rintro w ⟨hTw, hTc⟩
          obtain ⟨t0', t1'⟩ := hTw.cells
          go_simp
        (try simp only [Act.put, List.getElem_toArray, List.getElem_cons_succ, List.getElem_cons_zero, List.setIfInBounds_toArray, List.set_cons_succ, List.set_cons_zero])
        obtain ⟨r0, r1⟩ := HZ.out.2.2.2.1.cells
        have m0 := HZ.out.2.2.2.1.marks 0
        have m1 := HZ.out.2.2.2.1.marks 1
        obtain ⟨Y, hY⟩ : ∃ Y : World, Y = (X0.setCell ⟨za + 1, 0, none⟩ (.slice pr nr cr)).setCell ⟨za + 1, 1, none⟩ (.int .u64 over) := ⟨_, rfl⟩
        have hky : Keeps (fun q => q = za + 1) X0 Y := by rw [hY]; exact QBox.putK _ _ _ _
        have HY := Lib.hid (show QpI W (.slice px nx cx) over z Z p n c ls Y ∧ QBox Y za (.slice pa k ca) O ∧ OutS Z za (.slice pa k ca) Lr Y ∧ QBox Y (za + 1) (.slice pr nr cr) O ∧ CbOut NoS Y (.slice pr nr cr) Lr from ⟨HZ.out.1.keeps hky (fun q e => by have := HB.out.2.2.2.2.1; omega), HZ.out.2.1.keeps hky (by omega), HZ.out.2.2.1.keeps hky (fun q e => by omega), by rw [hY, HEX.out.2.1]; exact HZ.out.2.2.2.1.put _ _, by rw [HEX.out.2.2]; exact ((cb_of_owns (hky.row HZ.out.2.2.2.2 (fun g e => by have := (HZ.out.2.2.2.2.lt g e).1; omega)))).sub (fun _ h => False.elim h)⟩)
        have hT1 : QBox Y zd (.slice pr nr cr) over ∧ Y.cell? ⟨b, 0, none⟩ = some (.int .u64 X) := ⟨hT0.1.keeps hky (by have := HZD.out; omega), hky.cell hT0.2 HYC.out.2⟩
        have HYY := Lib.hid hY
        clear hY hky
        refine wpTwo_ready (rs := [4]) (by kernel_rfl) (by simp) ?_
        refine (AllTwo.cons rfl (fun K hK => ?_) AllTwo.nil)
        go_simp
        rw [← HYY.out]
        refine hK.out _ _ ⟨hT1, fun _ _ => trivial⟩ ?_
        clear hK K hT0 r0 r1 m0 m1 HYY HZ
        (try simp only [Act.put, List.getElem_toArray, List.getElem_cons_succ, List.getElem_cons_zero, List.setIfInBounds_toArray, List.set_cons_succ, List.set_cons_zero])
        refine wpTwo_takeT (i := 5) (v := .int .u64 X) rfl (by kernel_rfl) (by kernel_rfl) (by kernel_rfl) (fun _ _ _ h => h) ⟨by rfl, ?_⟩ hT1 ?_
        · rintro w -
          go_simp
        (try simp only [Act.put, List.getElem_toArray, List.getElem_cons_succ, List.getElem_cons_zero, List.setIfInBounds_toArray, List.set_cons_succ, List.set_cons_zero])
        refine wpTwo_takeT (i := 6) (v := .int .i64 0) rfl (by kernel_rfl) (by kernel_rfl) (by kernel_rfl) (fun _ _ _ h => h) ⟨by rfl, ?_⟩ hT1 ?_
        · rintro w -
          go_simp
        (try simp only [Act.put, List.getElem_toArray, List.getElem_cons_succ, List.getElem_cons_zero, List.setIfInBounds_toArray, List.set_cons_succ, List.set_cons_zero])
        refine wpTwo_end (by kernel_rfl) ?_ _
        clear hT1
        go_wp2
        go_meet
        exact ⟨_, _, _, rfl, by rw [HEX.out.1], HY.out⟩
  case rest =>
    obtain ⟨pr, nr, cr, rfl, rfl, HC⟩ := hcut
    have hEE : (E != E) = false := by simp
    have hXX : (X != X) = false := by simp
    obtain ⟨q0, q1⟩ := HC.out.2.1.cells
    obtain ⟨r0, r1⟩ := HC.out.2.2.2.1.cells
    have hsc := rsame_c (.slice pa k ca) (.slice pr nr cr) O O Lr Lr wc (HC.out.2.2.1.1.sub (fun _ h => False.elim h)) HC.out.2.2.2.2
    rw [sameB_self] at hsc
    go_wp2_with fail
    (with_reducible refine hsc.mono ?_)
    rintro e wd ⟨rfl, hbd⟩
    have HD := Lib.hid (show QpI W (.slice px nx cx) over z Z p n c ls wd ∧ QBox wd za (.slice pa k ca) O ∧ OutS Z za (.slice pa k ca) Lr wd from ⟨HC.out.1.below hbd, HC.out.2.1.below hbd, HC.out.2.2.1.below hbd⟩)
    clear q0 q1 r0 r1 hsc hbd hEE hXX HC HB HE
    obtain ⟨q0, q1⟩ := HD.out.2.1.cells
    go_wp2_with fail
    have hsp := spoil_c (.slice pa k ca) O Lr wd (HD.out.2.2.1.sub (fun _ h => False.elim h)) HD.out.2.2.2
    (with_reducible refine hsp.mono ?_)
    rintro e we ⟨rfl, hke⟩
    have HN := Lib.hid (HD.out.1.keeps hke (rowBlk_out HD.out.2.2.out))
    clear q0 q1 hsp hke HD
    go_upto_block 0 with fail
    go_cut [67] (fun _ wc => Hid (QpI W (.slice px nx cx) over z Z p n c ls wc))
    case first => as_aux_lemma =>
      go_wp2
      go_loopw [67] (fun iv wr => ∃ i : Nat, i ≤ m ∧ iv = .int .i64 (i : Int) ∧ Hid (QpI W (.slice px nx cx) over z Z p n c ls wr)) (fun iv _ => m - (intOf iv).toNat)
      case atStart => exact ⟨0, Nat.zero_le _, rfl, HN⟩
      case round =>
        clear HN
        obtain ⟨i, hi, rfl, HX⟩ := hrel
        by_cases hlt : i < m
        · have him : i < ws.length := by have := HWD.out.2.1; omega
          have hwr := nums_below HWD.out.1 HX.out.b
          obtain ⟨pw', cw', e, hcw⟩ := hwr
          injection e with e1 e2 e3
          subst e1 e3
          obtain ⟨bw, ow, rfl, hcs⟩ := hcw (by rintro e; rw [e] at him; simp at him)
          have hx := hcs i him
          have hxr := HWD.out.2.2 ws[i] (List.getElem_mem _)
          obtain ⟨x, hxe⟩ : ∃ x, x = ws[i] := ⟨_, rfl⟩
          rw [← hxe] at hx hxr
          clear hcs hcw hxe e2
          by_cases h6 : i = 6
          · subst h6
            go_wp2
            go_meet
            exact HX
          · have h6' : ((i : Int) == 6) = false := by rw [beq_eq_false_iff_ne]; omega
            have h6n : ¬ (i : Int) = 6 := by omega
            obtain ⟨q0, q1⟩ := HX.out.q.cells
            have hpc := drain1_c (.slice p n c) over ls x wr (HX.out.row.sub (fun _ h => False.elim h)) ho hxr.2
            go_wp2_with fail
            (with_reducible refine hpc.mono ?_)
            rintro e wa ⟨hq, hba⟩
            obtain ⟨E2, hE⟩ : ∃ E, E = drainE over ls x := ⟨_, rfl⟩
            have hq1 := drainA_any hq
            rw [← hE] at hq1
            obtain ⟨pa2, k2, ca2, wp, kw, wc2, k0, Wd, rfl, oa, ow2, hwl2, hW0, hW1⟩ := hq1
            obtain ⟨O2, hO⟩ : ∃ O, O = pO E2 over := ⟨_, rfl⟩
            obtain ⟨L2, hL⟩ : ∃ Lr, Lr = pL E2 (ls.drop k0) := ⟨_, rfl⟩
            rw [← hO]
            rw [← hL] at oa
            obtain ⟨zb, hzb⟩ : ∃ z, z = wa.heap.size := ⟨_, rfl⟩
            obtain ⟨wb2, hwb⟩ : ∃ X : World, X = (wa.alloc (.cells #[.slice pa2 k2 ca2, .int .u64 O2] 25)).alloc (.cells #[.slice none 0 0, .int .u64 0] 25) := ⟨_, rfl⟩
            have hbb : Below wa.heap.size wa wb2 := by rw [hwb]; exact below2 _ _ _
            have hbab := below_then hba hba.size hbb
            have HB := Lib.hid (show QpI W (.slice px nx cx) over z Z p n c ls wb2 ∧ QBox wb2 zb (.slice pa2 k2 ca2) O2 ∧ OutS Z zb (.slice pa2 k2 ca2) L2 wb2 ∧ QBox wb2 (zb + 1) (.slice none 0 0) 0 ∧ wb2.ownsRow Z 23 1 (.slice wp kw wc2) kw (Wd.map (Value.int .u64)) ∧ Z ≤ zb ∧ wb2.heap.size = zb + 2 from
              ⟨HX.out.below hbab, by rw [hwb, hzb]; exact (QBox.new _ _ _).below (below1 _ _), (OutS.of oa HX.out.zs hzb).below hbb, by
                rw [hwb, hzb]
                have := QBox.new (wa.alloc (.cells #[.slice pa2 k2 ca2, .int .u64 O2] 25)) (.slice none 0 0) 0
                rwa [World.size_alloc] at this, (owns_below ow2 hbb).mono HX.out.zs, by have := HX.out.zs; have := hba.size; omega, by rw [hwb, hzb]; simp⟩)
            have HE := Lib.hid (And.intro hE (And.intro hO (And.intro hL (And.intro hW0 (And.intro hW1 hwl2)))))
            have HWB := Lib.hid (And.intro hwb hzb)
            clear hq oa ow2 hwl2 hba hbb hbab hE hO hL hwb hzb hpc q0 q1 hW0 hW1
            go_upto_if 82 with fail
            rw [← HWB.out.1, ← HWB.out.2]
            clear HWB
            go_cut [21, 22] (fun s21 s22 wc => ∃ (pr : Option Addr) (nr cr : Nat) (po : Option Addr) (co : Nat), s21 = .slice po kw co ∧ s22 = .int .i64 E2 ∧ Hid (QpI W (.slice px nx cx) over z Z p n c ls wc ∧ QBox wc zb (.slice pa2 k2 ca2) O2 ∧ OutS Z zb (.slice pa2 k2 ca2) L2 wc ∧ QBox wc (zb + 1) (.slice pr nr cr) O2 ∧ CbOut NoS wc (.slice pr nr cr) L2 ∧ NumsAt wc .u64 (.slice wp kw wc2) Wd ∧ NumsAt wc .u64 (.slice po kw co) Wd))
            case first =>
              have HNW := Lib.hid (nums_of_owns HE.out.2.2.2.2.2 HB.out.2.2.2.2.1)
              have HZE := Lib.hid (fun (e : Int) (he : E2 = e) (h0 : e ≠ 0) => (show kw = 0 ∧ QBox wb2 (zb + 1) (.slice none 0 0) O2 ∧ CbOut NoS wb2 (.slice none 0 0) L2 ∧ NumsAt wb2 .u64 (.slice none 0 0) Wd by
                have hO : O2 = 0 := by rw [HE.out.2.1]; unfold pO; rw [if_neg (by rw [he]; exact h0)]
                have hL : L2 = [] := by rw [HE.out.2.2.1]; unfold pL; rw [if_neg (by rw [he]; exact h0)]
                have hW : Wd = [] := HE.out.2.2.2.2.1 (by rw [he]; exact h0)
                have hk := HE.out.2.2.2.2.2
                rw [hW] at hk ⊢
                exact ⟨hk.symm, by rw [hO]; exact HB.out.2.2.2.1, by rw [hL]; exact (outQ_none 0 wb2).1.sub (fun _ h => False.elim h), ⟨none, 0, rfl, fun h => absurd rfl h⟩⟩))
              cases R with
              | false =>
                have hE : E2 = 230 := by rw [HE.out.1]; unfold drainE; rw [← HR.out]; rfl
                have HZ := Lib.hid (HZE.out 230 hE (by decide))
                have HE230 := Lib.hid hE
                clear hE
                go_wp2
                go_meet
                exact ⟨none, 0, 0, none, 0, by rw [HZ.out.1], by rw [HE230.out], HB.out.1, HB.out.2.1, HB.out.2.2.1, HZ.out.2.1, HZ.out.2.2.1, HNW.out, by rw [HZ.out.1]; exact HZ.out.2.2.2⟩
              | true =>
                have hm : mayB over ls = true := HR.out.symm
                have HE0 : Hid (E2 = if x < 0 then 2 else 0) := Lib.hid (by rw [HE.out.1]; unfold drainE; rw [hm]; rfl)
                by_cases hneg : x < 0
                · have HE2 := Lib.hid (HE0.out.trans (if_pos hneg))
                  have HZ := Lib.hid (HZE.out 2 HE2.out (by decide))
                  clear hm HE0
                  go_wp2
                  go_meet
                  exact ⟨none, 0, 0, none, 0, by rw [HZ.out.1], by rw [HE2.out], HB.out.1, HB.out.2.1, HB.out.2.2.1, HZ.out.2.1, HZ.out.2.2.1, HNW.out, by rw [HZ.out.1]; exact HZ.out.2.2.2⟩
                · have hge : 0 ≤ x := by omega
                  have hE : E2 = 0 := HE0.out.trans (if_neg hneg)
                  have hO : O2 = over := by rw [HE.out.2.1, hE]; rfl
                  have hL : L2 = ls.drop k0 := by rw [HE.out.2.2.1, hE]; rfl
                  obtain ⟨hk0, hWd⟩ := HE.out.2.2.2.1 hE
                  obtain ⟨mo, hmo⟩ : ∃ mo : Nat, x = (mo : Int) := ⟨x.toNat, by omega⟩
                  have hmt : x.toNat = mo := by rw [hmo]; rfl
                  rw [hmt] at hk0 hWd
                  have hrp : Calls Try.prog 16 #[.agg #[.slice p n c, .int .u64 over], .int .i64 x] wb2 fun e w' => RDrainQ wb2.heap.size over ls mo e w' ∧ Below wb2.heap.size wb2 w' := by
                    rw [hmo]
                    exact rdrain_c (.slice p n c) over ls mo wb2 (HB.out.1.row.sub (fun _ h => False.elim h)) ho hm (by omega)
                  obtain ⟨q0, q1⟩ := HB.out.1.q.cells
                  have HEO := Lib.hid (And.intro hE (And.intro hO (And.intro hL (And.intro hk0 hWd))))
                  clear hm HE0 hneg hE hO hL hk0 hWd hmo hmt
                  go_wp2_with fail
                  (with_reducible refine hrp.mono ?_)
                  rintro e wd ⟨⟨kk, pr, nr, cr, po, co, hkk, rfl, hrow, hout⟩, hbd⟩
                  have hkw : kk = kw := by rw [hkk, ← whats_len, ← HEO.out.2.2.2.2]; exact HE.out.2.2.2.2.2
                  subst hkw
                  have hk0' : k0 = kk := by rw [hkk]; exact HEO.out.2.2.2.1
                  have hz2 := HB.out.2.2.2.1.below hbd
                  obtain ⟨r0, r1⟩ := hz2.cells
                  have m0 := hz2.marks 0
                  have m1 := hz2.marks 1
                  obtain ⟨we2, hwe⟩ : ∃ X : World, X = (wd.setCell ⟨zb + 1, 0, none⟩ (.slice pr nr cr)).setCell ⟨zb + 1, 1, none⟩ (.int .u64 over) := ⟨_, rfl⟩
                  have hke : Keeps (fun k => k = zb + 1) wd we2 := by rw [hwe]; exact QBox.putK _ _ _ _
                  have HEE := Lib.hid (show QpI W (.slice px nx cx) over z Z p n c ls we2 ∧ QBox we2 zb (.slice pa2 k2 ca2) O2 ∧ OutS Z zb (.slice pa2 k2 ca2) L2 we2 ∧ QBox we2 (zb + 1) (.slice pr nr cr) O2 ∧ CbOut NoS we2 (.slice pr nr cr) L2 ∧ NumsAt we2 .u64 (.slice wp kk wc2) Wd ∧ NumsAt we2 .u64 (.slice po kk co) Wd from
                    ⟨(HB.out.1.below hbd).keeps hke (fun k e => by have := HB.out.2.2.2.2.2.1; omega), (HB.out.2.1.below hbd).keeps hke (by omega), (HB.out.2.2.1.below hbd).keeps hke (fun k' e => by omega), by rw [hwe, HEO.out.2.1]; exact hz2.put _ _, by rw [HEO.out.2.2.1, hk0']; exact ((cb_of_owns (hke.row hrow (fun g e => by have := (hrow.lt g e).1; have := HB.out.2.2.2.2.2.2; omega)))).sub (fun _ h => False.elim h),
                      nums_of_owns HE.out.2.2.2.2.2 (row_box (owns_below HB.out.2.2.2.2.1 hbd) hz2 hke), by rw [HEO.out.2.2.2.2]; exact nums_of_owns (by rw [whats_len]; exact hkk.symm) (row_box hout hz2 hke)⟩)
                  have HWE := Lib.hid hwe
                  clear hrow hout hz2 hwe hke hbd hrp hkk hk0'
                  go_wp2
                  go_meet
                  rw [← HWE.out]
                  exact ⟨_, _, _, _, _, rfl, by rw [HEO.out.1], HEE⟩
            case rest =>
              obtain ⟨pr2, nr2, cr2, po, co, rfl, rfl, HC⟩ := hcut
              have hEE : (E2 != E2) = false := by simp
              have hwl3 : Wd.length ≤ 9223372036854775807 := by have h1 := HE.out.2.2.2.2; by_cases h0 : E2 = 0; have h2 := (HE.out.2.2.2.1 h0).2; have h3 := HLS.out; have h4 := dones_len over ls; rw [h2, whats_len, List.length_take]; omega; rw [h1.1 h0]; simp
              have heq := equalW_c (.slice wp kw wc2) (.slice po kw co) Wd Wd wc HC.out.2.2.2.2.2.1 HC.out.2.2.2.2.2.2 hwl3 hwl3
              rw [decide_eq_true (rfl : Wd = Wd)] at heq
              go_wp2_with fail
              (with_reducible refine heq.mono ?_)
              rintro e wd0 ⟨rfl, hbd0⟩
              have HC2 := Lib.hid (show QpI W (.slice px nx cx) over z Z p n c ls wd0 ∧ QBox wd0 zb (.slice pa2 k2 ca2) O2 ∧ OutS Z zb (.slice pa2 k2 ca2) L2 wd0 ∧ QBox wd0 (zb + 1) (.slice pr2 nr2 cr2) O2 ∧ CbOut NoS wd0 (.slice pr2 nr2 cr2) L2 from ⟨HC.out.1.below hbd0, HC.out.2.1.below hbd0, HC.out.2.2.1.below hbd0, HC.out.2.2.2.1.below hbd0, HC.out.2.2.2.2.1.below hbd0⟩)
              clear heq hbd0 HC hEE HB HE hwl3
              obtain ⟨q0, q1⟩ := HC2.out.2.1.cells
              obtain ⟨r0, r1⟩ := HC2.out.2.2.2.1.cells
              have hsc := rsame_c (.slice pa2 k2 ca2) (.slice pr2 nr2 cr2) O2 O2 L2 L2 wd0 (HC2.out.2.2.1.1.sub (fun _ h => False.elim h)) HC2.out.2.2.2.2
              rw [sameB_self] at hsc
              go_wp2_with fail
              (with_reducible refine hsc.mono ?_)
              rintro e wd ⟨rfl, hbd⟩
              have HD := Lib.hid (show QpI W (.slice px nx cx) over z Z p n c ls wd ∧ QBox wd zb (.slice pa2 k2 ca2) O2 ∧ OutS Z zb (.slice pa2 k2 ca2) L2 wd from ⟨HC2.out.1.below hbd, HC2.out.2.1.below hbd, HC2.out.2.2.1.below hbd⟩)
              clear q0 q1 r0 r1 hsc hbd HC2
              obtain ⟨q0, q1⟩ := HD.out.2.1.cells
              go_wp2_with fail
              have hsp := spoil_c (.slice pa2 k2 ca2) O2 L2 wd (HD.out.2.2.1.sub (fun _ h => False.elim h)) HD.out.2.2.2
              (with_reducible refine hsp.mono ?_)
              rintro e we2 ⟨rfl, hke⟩
              have HN := Lib.hid (HD.out.1.keeps hke (rowBlk_out HD.out.2.2.out))
              clear q0 q1 hsp hke HD
              go_wp2
              go_roundw
              case rel => exact ⟨i + 1, by omega, by go_num, HN⟩
              case measure => simp [intOf]; omega
        · go_wp2
          go_meet
          exact HX
    case rest =>
      have HQF := hcut
      obtain ⟨wf, hwf⟩ : ∃ w, w = wc := ⟨_, rfl⟩
      subst hwf
      clear hcut HN
      go_upto_region 30 with fail
      refine wpTwo_begin (T := fun w' => QBox w' z (.slice p n c) over ∧ QBox w' W.heap.size (.slice px nx cx) over) (S := fun _ => True) (late := fun _ => false) (by kernel_rfl) ?_
      obtain ⟨X, hX⟩ : ∃ Y : World, Y = wf.drew := ⟨_, rfl⟩
      rw [← hX]
      have hbx : Below wf.heap.size wf X := by rw [hX]; exact (Below.refl _ _).drew
      clear hX
      have HX := Lib.hid (HQF.out.below hbx)
      have hT0 : QBox X z (.slice p n c) over ∧ QBox X W.heap.size (.slice px nx cx) over := ⟨HX.out.q, HX.out.x⟩
      clear hbx HQF
      have HC := Lib.hid (lown_c (.slice px nx cx) over l X (HL.out.1.below HX.out.b) HL.out.2)
      rw [← HLS.out.1] at HC
      refine wpTwo_takeT (i := 0) (v := .agg #[.slice p n c, .int .u64 over]) rfl (by kernel_rfl) (by kernel_rfl) (by kernel_rfl) (fun _ _ _ h => h) ⟨by rfl, ?_⟩ hT0 ?_
      · rintro w ⟨hT1, hT2⟩
        obtain ⟨t0', t1'⟩ := hT1.cells
        obtain ⟨t2', t3'⟩ := hT2.cells
        go_simp
      (try simp only [Act.put, List.getElem_toArray, List.getElem_cons_zero, List.setIfInBounds_toArray, List.set_cons_succ, List.set_cons_zero])
      refine wpTwo_takeT (i := 1) (v := .agg #[.slice px nx cx, .int .u64 over]) rfl (by kernel_rfl) (by kernel_rfl) (by kernel_rfl) (fun _ _ _ h => h) ⟨by rfl, ?_⟩ hT0 ?_
      · rintro w ⟨hT1, hT2⟩
        obtain ⟨t0', t1'⟩ := hT1.cells
        obtain ⟨t2', t3'⟩ := hT2.cells
        go_simp
      (try simp only [Act.put, List.getElem_toArray, List.getElem_cons_succ, List.getElem_cons_zero, List.setIfInBounds_toArray, List.set_cons_succ, List.set_cons_zero])
      refine wpTwo_ready (rs := [2]) (by kernel_rfl) (by simp) ?_
      refine (AllTwo.cons rfl (fun K hK => ?_) AllTwo.nil)
      go_simp
      (with_reducible refine HC.out.mono ?_)
      rintro e X1 ⟨⟨v1, rfl, o1⟩, hb1⟩
      obtain ⟨p1, c1, rfl⟩ := owns_slice o1
      have HX1 := Lib.hid (HX.out.below hb1)
      have hc := rsame_c (.slice p n c) (.slice p1 ls.length c1) over over ls ls X1 (HX1.out.row.sub (fun _ h => False.elim h)) ((cb_of_owns o1).sub (fun _ h => False.elim h))
      rw [sameB_self] at hc
      have hT1 : QBox X1 z (.slice p n c) over ∧ QBox X1 W.heap.size (.slice px nx cx) over := ⟨HX1.out.q, HX1.out.x⟩
      clear o1 hb1 HX HC hT0
      go_wp2_with fail
      refine hK.out _ _ ⟨hT1, fun _ _ => trivial⟩ ?_
      clear hK K
      (try simp only [Act.put, List.getElem_toArray, List.getElem_cons_succ, List.getElem_cons_zero, List.setIfInBounds_toArray, List.set_cons_succ, List.set_cons_zero])
      refine wpTwo_ready (rs := [3]) (by kernel_rfl) (by simp) ?_
      refine (AllTwo.cons rfl (fun K hK => ?_) AllTwo.nil)
      go_simp
      (with_reducible refine hc.mono ?_)
      rintro e X2 ⟨rfl, hb2⟩
      have HX2 := Lib.hid (HX1.out.below hb2)
      have hT2 : QBox X2 z (.slice p n c) over ∧ QBox X2 W.heap.size (.slice px nx cx) over := ⟨HX2.out.q, HX2.out.x⟩
      clear hc hb2 HX1 hT1
      go_wp2_with fail
      refine hK.out _ _ ⟨hT2, fun _ _ => trivial⟩ ?_
      clear hK K
      (try simp only [Act.put, List.getElem_toArray, List.getElem_cons_succ, List.getElem_cons_zero, List.setIfInBounds_toArray, List.set_cons_succ, List.set_cons_zero])
      refine wpTwo_takeT (i := 4) (v := .bool true) rfl (by kernel_rfl) (by kernel_rfl) (by kernel_rfl) (fun _ _ _ h => h) ⟨by rfl, ?_⟩ hT2 ?_
      · rintro w -
        go_simp
      (try simp only [Act.put, List.getElem_toArray, List.getElem_cons_succ, List.getElem_cons_zero, List.setIfInBounds_toArray, List.set_cons_succ, List.set_cons_zero])
      refine wpTwo_end (by kernel_rfl) ?_ _
      go_wp2
      go_ret
      exact ⟨rfl, HX2.out.b⟩

end Go.Proofs.Ytdagcimkajmkaaa
namespace Go.Proofs.Ytdagcimkajmkaaa
open Go.RowKit Go.Shelf
open Go.ChangeShapes Go.WideShapes Go.ChangeAt Go.Deep
open Go.ChangeMaps (open_string shut_string)

set_option maxRecDepth 100000 in
theorem queueTakes_lifted (os : Os) (started : os.Started) (H : Type) (enc : TypeId × Value → H) :
    ReturnsInHanded {} Try.checked os 4 .any (Rows.queueTakesSpec.pre6 enc Try.prog Try.f4 Rows.queueTakesRow.domain false) (Rows.queueTakesSpec.post enc Try.prog Try.f4 false true false false) := by
  refine returnsInHanded_of_change (C := Try.checked) own started (by kernel_rfl) Try.func4
    (ChangeSpec.witness6 (enc := enc) (C := Try.checked) false ⟨#[], #[.agg #[.slice none 0 0, .int .u64 0], .slice none 0 0], []⟩ 8 (by kernel_rfl) (by kernel_rfl) (by kernel_rfl) (by kernel_rfl)) ?_
  intro W base args ds gs before hval0 hW hcnd _
  have hval : ∀ (j : Nat) t v, Try.f4.params[j]? = some t → args[j]? = some v → Value.okWide Try.prog W .any base t v := hval0
  have hW' := hW
  obtain ⟨p, q, hA0, hV, rfl, hfz, hnd⟩ := hW
  have hA : DataW.TrodAll enc Try.prog W 0 (fun _ => true) true Try.f4.params.toList args.toList ds p := hA0
  rw [Try.params4] at hA hval
  have hA2 := hA
  obtain ⟨v0, vs0, d0, ds0, pp0, qq0, hargs, rfl, rfl, h0, r0⟩ := trodAll_cons hA
  obtain ⟨v1, vs1, d1, ds1, pp1, qq1, rfl, rfl, rfl, h1, r1⟩ := trodAll_cons r0
  obtain ⟨rfl, rfl, rfl⟩ := trodAll_nil r1
  obtain rfl : args = #[v0, v1] := by cases args; simp_all
  obtain ⟨rfl, rfl⟩ := trodVars_none hV
  obtain ⟨u0, k0, x0, rfl, a0, z0, g0, i0, s0⟩ := queue_open (hval 0 25 v0 rfl rfl) h0
  obtain ⟨x1, a1, g1, l1⟩ := nums_open Try.underlying38 Try.underlying3 (by kernel_rfl) (hval 1 38 v1 rfl rfl) h1
  clear hA0 hval0
  simp only [List.append_nil] at hW'
  refine (queueTakes_c u0 k0 x0 v1 x1 W a0 z0 i0 (fun c hc => (g0 c hc).1) a1 l1 (rg_i64 g1)).mono fun e W' ⟨he, hb⟩ => ?_
  subst he
  exact ⟨_, rfl, _, _, _, [], _, [], hW', trodAll_cons_mk (shut_bool Try.underlying4 _) trodAll_mk0, trodAll_stays laidOut hb (by kernel_rfl) hA2 (fun x hx => by simpa using hW'.lt x (by simpa using hx)), rfl, hb.frame _, fun h => by cases h⟩

theorem queueTakes_holds : Rows.QueueTakesSaid :=
  OpenClaim.holds_of_wide 4 Try.f4 rfl rfl rfl rfl rfl rfl rfl ⟨rfl, rfl, rfl, rfl, rfl⟩ rfl rfl rfl rfl rfl (by kernel_rfl) Try.func4 (by kernel_rfl)
    (of_decide_eq_true (by kernel_rfl)) (by unfold Func.isWrapper; first | (rw [if_pos (by decide +kernel)]; kernel_rfl) | (rw [if_neg (by decide +kernel)]; exact ⟨rfl, rfl⟩))
    (fun os started H enc _ => queueTakes_lifted os started H enc)

end Go.Proofs.Ytdagcimkajmkaaa
