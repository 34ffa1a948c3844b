/-
  QueueWaits, called with any queue and row of words: it returns true, and changes none of its arguments.
  Conditions: none.
-/
import Derived.Test.YtdagcimkajmkaaaUA4
import Derived.Test.YtdagcimkajmkaaaUA2
import Derived.Maps.OwnSet
import Derived.Maps.OwnIn
import Derived.Maps.OwnOps
import Derived.ArgAppend
import Derived.Deep.Upon
import Derived.Deep.DeepCutAuto
import Derived.BigQuiet
import Derived.Deep.QuietTactic
import Derived.Test.YtdagcimkajmkaaaUA1
/-
  The reference of layer 13: Drain.
  Conditions: the queue may be.
-/
namespace Go.Proofs.Ytdagcimkajmkaaa
set_option maxRecDepth 100000
open Go.RowKit Go.Shelf
attribute [local go_sem] Oper.semAt_some

/-- append of one word that has just been laid. -/
theorem wpList_app_word {ops : Array Oper} {rest : List Oper} {o : Oper} {a : Act} {Q : Exit → Act → World → Prop} {w : World} (hgd : o.guard = none) (s x : Operand)
    (ho : o.op = .call { callee := .builtin .append, args := #[s, x], argTypes := #[26, 26] })
    (B : Nat) (v : Value) (n : Nat) (l : List Int) (hs : a.eval s = v) (hown : w.ownsRow B 23 1 v n (l.map (Value.int .u64)))
    (b c : Nat) (y : Int) (hx : a.eval x = .slice (some ⟨b, 0, none⟩) 1 c) (h0 : w.cell? ⟨b, 0, none⟩ = some (.int .u64 y)) (hl : n ≤ 1000000) (hB : B ≤ w.heap.size)
    (h : ∀ q r w', w'.ownsRow B 23 1 (.slice q (n + 1) r) (n + 1) ((l ++ [y]).map (Value.int .u64)) → Keeps (fun k => some k = v.ownBlock) w w' → wpList Try.prog ops Q rest (a.put o.dst (.slice q (n + 1) r)) w') :
    wpList Try.prog ops Q (o :: rest) a w := by
  obtain ⟨i0, hi, hz0, hz1, hz2⟩ := info_parts info_w
  refine wpList_append_own w hgd s x 26 ho B 23 i0 (.int .u64 0) 1 8 Try.underlying26 hi hz0 hz1 hz2 rfl (by decide) v n _ hs hown ⟨b, 0, none⟩ 1 c [.int .u64 y] hx rfl (fun j u hj => ?_) (fun u hu => by rw [List.mem_singleton.1 hu]; rfl) (by unfold maxLen; omega) (by omega) hB fun v' w' h2 h3 _ => ?_
  · rw [addr_add_off, Nat.zero_add]
    match j, hj with
    | 0, hj => simp only [List.getElem?_cons_zero, Option.some.injEq] at hj; rw [← hj]; exact h0
  · have e : l.map (Value.int .u64) ++ [.int .u64 y] = (l ++ [y]).map (Value.int .u64) := by simp
    rw [e] at h2
    obtain ⟨q, r, rfl⟩ := owns_slice h2
    exact h q r w' h2 ⟨h3.os, h3.tape, h3.output, h3.size, fun k hk hn => h3.block k hk (fun e => hn e)⟩

theorem dones_prefix (over : Int) : ∀ l, dones over l = l.take (dones over l).length
  | [] => rfl
  | c :: l => by
    unfold dones
    split
    · have := dones_prefix over l
      simp only [List.length_cons, List.take_succ_cons]
      rw [← this]
    · rfl
theorem dones_in (over : Int) : ∀ (l : List (Int × Int)) (i : Nat) (h : i < l.length), i < (dones over l).length → l[i].1 ≤ over
  | c :: l, i, h, hd => by
    unfold dones at hd
    split at hd
    · rename_i hc
      cases i with
      | zero => exact hc
      | succ i => exact dones_in over l i (by simpa using h) (by simpa using hd)
    · simp at hd
theorem dones_out (over : Int) : ∀ (l : List (Int × Int)) (least : Int), srtB least l = true → ∀ (i : Nat) (h : i < l.length), (dones over l).length ≤ i → over < l[i].1
  | c :: l, least, hs, i, h, hd => by
    have hs' : least ≤ c.1 ∧ srtB c.1 l = true := by
      have : (decide (least ≤ c.1) && srtB c.1 l) = true := hs
      simpa using this
    unfold dones at hd
    split at hd
    · rename_i hc
      cases i with
      | zero => simp at hd
      | succ i => exact dones_out over l c.1 hs'.2 i (by simpa using h) (by simpa using hd)
    · rename_i hc
      cases i with
      | zero => simp only [List.getElem_cons_zero]; omega
      | succ i =>
        simp only [List.getElem_cons_succ]
        have := (srt_last l c.1 hs'.2 (l[i]'(by simpa using h)) (List.getElem_mem _)).1
        omega
theorem rd_in {over : Int} {l : List (Int × Int)} {mo k i : Nat} (hk : k = ((dones over l).take mo).length) (h : i < l.length) (hi : i < k) : l[i].1 ≤ over ∧ i < mo := by
  rw [List.length_take] at hk
  exact ⟨dones_in over l i h (by omega), by omega⟩
theorem rd_out {over : Int} {l : List (Int × Int)} {mo k i : Nat} (hs : srtB 0 l = true) (hk : k = ((dones over l).take mo).length) (h : i < l.length) (hi : k ≤ i) : over < l[i].1 ∨ mo ≤ k := by
  rw [List.length_take] at hk
  by_cases hm : mo ≤ k
  · exact .inr hm
  · exact .inl (dones_out over l 0 hs i h (by omega))
theorem rd_take {over : Int} {l : List (Int × Int)} {mo k : Nat} (hk : k = ((dones over l).take mo).length) : l.take k = (dones over l).take mo := by
  have h1 := dones_prefix over l
  rw [List.length_take] at hk
  have h2 : (dones over l).take mo = (l.take (dones over l).length).take mo := by rw [← h1]
  rw [h2, List.take_take, ← hk]

/-- Between two rounds. -/
structure RdI (W : World) (v : Value) (over : Int) (l : List (Int × Int)) (k i : Nat) (pl : Option Addr) (nl cl : Nat) (po : Option Addr) (no co : Nat) (w : World) : Prop where
  q : QBox w W.heap.size v over
  r : QBox w (W.heap.size + 1) (.slice none 0 0) 0
  cb : CbOut (fun q => W.heap.size ≤ q) w v l
  lf : w.ownsRow (W.heap.size + 2) 53 2 (.slice pl nl cl) nl (cvs ((l.take i).drop (min i k)))
  ow : w.ownsRow (W.heap.size + 2) 23 1 (.slice po no co) no ((whats (l.take (min i k))).map (Value.int .u64))
  b : Below W.heap.size W w
  z : W.heap.size + 2 ≤ w.heap.size
  no : no = min i k ∧ no + nl = i
theorem RdI.below {W : World} {v : Value} {over : Int} {l : List (Int × Int)} {k i : Nat} {pl : Option Addr} {nl cl : Nat} {po : Option Addr} {no co : Nat} {w w' : World} (h : RdI W v over l k i pl nl cl po no co w) (hb : Below w.heap.size w w') : RdI W v over l k i pl nl cl po no co w' :=
  ⟨h.q.below hb, h.r.below hb, h.cb.below hb, owns_below h.lf hb, owns_below h.ow hb, below_then h.b h.b.size hb, Nat.le_trans h.z hb.size, h.no⟩
theorem RdI.took {W : World} {v : Value} {over : Int} {l : List (Int × Int)} {k i : Nat} {pl : Option Addr} {nl cl : Nat} {po : Option Addr} {no co : Nat} {w w' : World} {q : Option Addr} {r : Nat} {x y : Int} (h : RdI W v over l k i pl nl cl po no co w) (hil : i < l.length) (hik : i < k) (hxy : l[i] = (x, y))
    (ho : w'.ownsRow (W.heap.size + 2) 23 1 (.slice q (no + 1) r) (no + 1) ((whats (l.take (min i k)) ++ [y]).map (Value.int .u64))) (hk : Keeps (fun b => some b = (Value.slice po no co).ownBlock) w w') : RdI W v over l k (i + 1) pl nl cl q (no + 1) r w' := by
  have hs : ∀ b, some b = (Value.slice po no co).ownBlock → W.heap.size + 2 ≤ b := fun b e => (h.ow.lt b e.symm).1
  have hno := h.no
  have hz := h.z
  have e1 : min i k = i := by omega
  have e2 : min (i + 1) k = i + 1 := by omega
  have htk := List.take_succ_eq_append_getElem hil
  refine ⟨h.q.keeps hk (fun e => by have := hs _ e; omega), h.r.keeps hk (fun e => by have := hs _ e; omega), h.cb.keeps (hk.sub (fun b _ e => by have := hs b e; omega)), ?_, ?_, h.b.trans (hk.below h.b.size (fun b e => by have := hs b e; omega)), Nat.le_trans h.z hk.size, by omega⟩
  · have := hk.row h.lf (fun g hg hgs => owns_ne h.lf h.ow (by decide) hg hgs.symm rfl)
    rw [e2]
    rw [e1] at this
    have n0 : nl = 0 := by omega
    subst n0
    have d1 : (l.take (i + 1)).drop (i + 1) = [] := List.drop_eq_nil_of_le (by rw [List.length_take]; omega)
    have d2 : (l.take i).drop i = [] := List.drop_eq_nil_of_le (by rw [List.length_take]; omega)
    rw [d1]; rw [d2] at this; exact this
  · rw [e2, htk, hxy]
    rw [e1] at ho
    have : whats (l.take i ++ [(x, y)]) = whats (l.take i) ++ [y] := by simp [whats]
    rw [this]
    exact ho
theorem RdI.left {W : World} {v : Value} {over : Int} {l : List (Int × Int)} {k i : Nat} {pl : Option Addr} {nl cl : Nat} {po : Option Addr} {no co : Nat} {w w' : World} {q : Option Addr} {r : Nat} {x y : Int} (h : RdI W v over l k i pl nl cl po no co w) (hil : i < l.length) (hik : k ≤ i) (hxy : l[i] = (x, y))
    (ho : w'.ownsRow (W.heap.size + 2) 53 2 (.slice q (nl + 1) r) (nl + 1) (cvs ((l.take i).drop (min i k) ++ [(x, y)]))) (hk : Keeps (fun b => some b = (Value.slice pl nl cl).ownBlock) w w') : RdI W v over l k (i + 1) q (nl + 1) r po no co w' := by
  have hs : ∀ b, some b = (Value.slice pl nl cl).ownBlock → W.heap.size + 2 ≤ b := fun b e => (h.lf.lt b e.symm).1
  have hno := h.no
  have hz := h.z
  have e1 : min i k = k := by omega
  have e2 : min (i + 1) k = k := by omega
  have htk := List.take_succ_eq_append_getElem hil
  refine ⟨h.q.keeps hk (fun e => by have := hs _ e; omega), h.r.keeps hk (fun e => by have := hs _ e; omega), h.cb.keeps (hk.sub (fun b _ e => by have := hs b e; omega)), ?_, ?_, h.b.trans (hk.below h.b.size (fun b e => by have := hs b e; omega)), Nat.le_trans h.z hk.size, by omega⟩
  · rw [e2, htk, hxy, List.drop_append_of_le_length (by rw [List.length_take]; omega)]
    rw [e1] at ho
    exact ho
  · have := hk.row h.ow (fun g hg hgs => owns_ne h.ow h.lf (by decide) hg hgs.symm rfl)
    rw [e2]; rw [e1] at this; exact this
/-- What it answers. -/
def RDrainQ (B : Nat) (over : Int) (l : List (Int × Int)) (mo : Nat) (e : Ending) (w' : World) : Prop := ∃ k p n c po co, k = ((dones over l).take mo).length ∧ e = .returned (.tuple #[.agg #[.slice p n c, .int .u64 over], .slice po k co]) ∧ w'.ownsRow B 53 2 (.slice p n c) n (cvs (l.drop k)) ∧ w'.ownsRow B 23 1 (.slice po k co) k ((whats ((dones over l).take mo)).map (Value.int .u64))

set_option maxHeartbeats 16000000 in
theorem rdrain_c (v : Value) (over : Int) (l : List (Int × Int)) (mo : Nat) (W : World) (hv : CbOut NoS W v l) (ho : 0 ≤ over) (hm : mayB over l = true) (hmo : mo ≤ 9223372036854775807) :
    Calls Try.prog 16 #[.agg #[v, .int .u64 over], .int .i64 (mo : Int)] W fun e w' => RDrainQ W.heap.size over l mo e w' ∧ Below W.heap.size W w' := by
  have hsr : srtB 0 l = true := by
    rw [may_srt over l ho] at hm
    simp only [Bool.and_eq_true] at hm
    exact hm.1.1.1
  obtain ⟨hg1, hg2, -⟩ := may_parts hm
  obtain ⟨K, hK⟩ : ∃ K, K = ((dones over l).take mo).length := ⟨_, rfl⟩
  have hKl : K ≤ l.length := by rw [hK, List.length_take]; have := dones_len over l; omega
  obtain ⟨w0, hw0⟩ : ∃ X : World, X = (W.alloc (.cells #[v, .int .u64 over] 25)).alloc (.cells #[.slice none 0 0, .int .u64 0] 25) := ⟨_, rfl⟩
  have hb0 : Below W.heap.size W w0 := by rw [hw0]; exact below2 _ _ _
  have HI0 := Lib.hid (show RdI W v over l K 0 none 0 0 none 0 0 w0 from ⟨by rw [hw0]; exact (QBox.new W _ _).below (below1 _ _), by
      rw [hw0]
      have := QBox.new (W.alloc (.cells #[v, .int .u64 over] 25)) (.slice none 0 0) 0
      rwa [World.size_alloc] at this, (hv.apart (T := fun q => W.heap.size ≤ q) (fun q h => .inr h)).below hb0, by simpa [cvs] using World.ownsRow_nil _ _ _ _, by simpa [whats] using World.ownsRow_nil _ _ _ _, hb0, by rw [hw0]; simp, by simp⟩)
  obtain ⟨p, c, rfl, hlc, hcm, -⟩ := hv
  obtain ⟨n, hn⟩ : ∃ n, n = l.length := ⟨_, rfl⟩
  rw [← hn] at HI0 hlc hg2 hKl hw0 ⊢
  have HW0 := Lib.hid hw0
  have HN := Lib.hid (And.intro hn (And.intro hK hsr))
  have HKL := Lib.hid hKl
  obtain ⟨q0, q1⟩ := HI0.out.q.cells
  rw [hw0] at q0 q1
  clear hw0 hb0 hn hK hsr hm hKl
  go_enter Try.func16, Try.ntmps16
  go_wp2
  rw [← HW0.out]
  clear HW0 q0 q1
  go_loopw [6, 7, 13] (fun vl vo iv wr => ∃ (i : Nat) (pl : Option Addr) (nl cl : Nat) (po : Option Addr) (no co : Nat), i ≤ n ∧ iv = .int .i64 (i : Int) ∧ vl = .slice pl nl cl ∧ vo = .slice po no co ∧ no + nl = i ∧ Hid (RdI W (.slice p n c) over l K i pl nl cl po no co wr)) (fun _ _ iv _ => n - (intOf iv).toNat)
  case atStart => exact ⟨0, none, 0, 0, none, 0, 0, Nat.zero_le _, rfl, rfl, rfl, rfl, HI0⟩
  case round =>
    clear HI0
    obtain ⟨i, pl, nl, cl, po, no, co, hi, rfl, rfl, rfl, hsum, HX⟩ := hrel
    by_cases hlt : i < n
    · have hil : i < l.length := by have := HN.out.1; omega
      have hne : l ≠ [] := by rintro rfl; simp at hil
      obtain ⟨p', cap', e, -, -, hc⟩ := HX.out.cb
      injection e with e1 e2 e3
      subst e1 e3
      obtain ⟨b, off, rfl, -, hcs⟩ := hc hne
      obtain ⟨hx, hy⟩ := hcs i hil
      obtain ⟨x, hxe⟩ : ∃ x, x = l[i].1 := ⟨_, rfl⟩
      obtain ⟨y, hye⟩ : ∃ y, y = l[i].2 := ⟨_, rfl⟩
      have hxy : l[i] = (x, y) := by rw [hxe, hye]
      have hin := fun h : i < K => rd_in HN.out.2.1 hil h
      have hout := fun h : K ≤ i => rd_out HN.out.2.2 HN.out.2.1 hil h
      rw [← hxe] at hx hin hout
      rw [← hye] at hy
      have hbl := World.block_lt_of_cell? wr _ hx
      obtain ⟨w1, hw1⟩ : ∃ X : World, X = wr.alloc (.cells #[.int .u64 x, .int .u64 y] 53) := ⟨_, rfl⟩
      have hb1 : Below wr.heap.size wr w1 := by rw [hw1]; exact below1 _ _
      have HX1 := Lib.hid (HX.out.below hb1)
      have HC1 := Lib.hid (show CBox w1 wr.heap.size x y by rw [hw1]; exact CBox.new _ _ _)
      have HW1 := Lib.hid hw1
      have HXY := Lib.hid hxy
      have HII := Lib.hid (And.intro hin hout)
      have hi0 : (0 : Int) ≤ (i : Int) := by omega
      have hlt' : (i : Int) < (n : Int) := by omega
      clear hc hcs hxe hye hxy hne e2 hb1 hw1 hin hout
      go_upto_region 6 with fail
      rw [← HW1.out]
      clear HW1 hx hy hbl
      obtain ⟨cz, hcz⟩ : ∃ z, z = wr.heap.size := ⟨_, rfl⟩
      rw [← hcz] at HC1 ⊢
      clear hcz
      obtain ⟨q0, q1⟩ := HX1.out.q.cells
      obtain ⟨k0, k1⟩ := HC1.out.cells
      have hno := HX1.out.no
      by_cases hik : i < K
      · obtain ⟨h1, h2⟩ := HII.out.1 hik
        have h3 : (no : Int) < (mo : Int) := by omega
        have HIK := Lib.hid hik
        clear hik hno h2
        go_upto_region 9 with (at_builtin; refine wpList_app_word rfl _ _ rfl (W.heap.size + 2) (.slice po no co) no (whats (l.take (min i K))) rfl (owns_below HX1.out.ow (below1 _ _)) w1.heap.size 1 y rfl (by simp) (by omega) (by have := HX1.out.z; rw [World.size_alloc]; omega) ?_; intro q r w2 ho2 hk2; have HX2 := Lib.hid ((HX1.out.below (below1 w1 (.cells #[.int .u64 y] 23))).took hil HIK.out HXY.out ho2 hk2); clear ho2 hk2)
        go_wp2
        go_roundw
        case rel => exact ⟨i + 1, pl, nl, cl, _, no + 1, _, by omega, by go_num, rfl, rfl, by omega, HX2⟩
        case measure => simp [intOf]; omega
      · have hki : K ≤ i := by omega
        have HKI := Lib.hid hki
        have hcase : over < x ∨ (x ≤ over ∧ (mo : Int) ≤ (no : Int)) := by
          rcases HII.out.2 hki with h | h
          · exact .inl h
          · by_cases hx : over < x
            · exact .inl hx
            · exact .inr ⟨by omega, by omega⟩
        clear hik hno hki
        rcases hcase with h1 | ⟨h1, h2⟩
        all_goals
          go_upto_region 9 with (at_builtin; refine wpList_app_one rfl _ _ rfl (W.heap.size + 2) (.slice pl nl cl) nl ((l.take i).drop (min i K)) (by have := HX1.out.lf.1; rw [cvs_len] at this; omega) rfl (owns_below HX1.out.lf (below1 _ _)) w1.heap.size 1 x y rfl (by simp) (by simp) (by omega) (by have := HX1.out.z; rw [World.size_alloc]; omega) ?_; intro q r w2 ho2 hk2; have HX2 := Lib.hid ((HX1.out.below (below1 w1 (.cells #[.int .u64 x, .int .u64 y] 53))).left hil HKI.out HXY.out ho2 hk2); clear ho2 hk2)
          go_wp2
          go_roundw
          case rel => exact ⟨i + 1, _, nl + 1, _, po, no, co, by omega, by go_num, rfl, rfl, by omega, HX2⟩
          case measure => simp [intOf]; omega
    · have hin : i = n := by omega
      have hno := HX.out.no
      have hmk : min i K = K := by have := HKL.out; omega
      have hlf := HX.out.lf
      have how := HX.out.ow
      rw [hmk, show l.take i = l by rw [hin, HN.out.1, List.take_length]] at hlf
      rw [hmk, rd_take HN.out.2.1] at how
      have hnk : no = K := by omega
      subst hnk
      obtain ⟨q0, q1⟩ := HX.out.q.cells
      have m0 := HX.out.q.marks 0
      obtain ⟨w1, hw1⟩ : ∃ X : World, X = wr.setCell ⟨W.heap.size, 0, none⟩ (.slice pl nl cl) := ⟨_, rfl⟩
      have hk1 : Keeps (fun q => q = W.heap.size) wr w1 := by rw [hw1]; exact set1K _ _ 0 _
      have hq1 : QBox w1 W.heap.size (.slice pl nl cl) over := by rw [hw1]; exact HX.out.q.put0 _
      have hr1 := HX.out.r.keeps hk1 (by omega)
      have hb1 : Below W.heap.size W w1 := HX.out.b.trans (hk1.below HX.out.b.size (fun k e => by omega))
      have hl1 := hk1.row hlf (fun g e => by have := (hlf.lt g e).1; omega)
      have ho1 := hk1.row how (fun g e => by have := (how.lt g e).1; omega)
      obtain ⟨w2, hw2⟩ : ∃ X : World, X = (w1.setCell ⟨W.heap.size + 1, 0, none⟩ (.slice pl nl cl)).setCell ⟨W.heap.size + 1, 1, none⟩ (.int .u64 over) := ⟨_, rfl⟩
      have hk2 : Keeps (fun q => q = W.heap.size + 1) w1 w2 := by rw [hw2]; exact QBox.putK _ _ _ _
      have H2 := Lib.hid (show QBox w2 (W.heap.size + 1) (.slice pl nl cl) over ∧ w2.ownsRow (W.heap.size + 2) 53 2 (.slice pl nl cl) nl (cvs (l.drop no)) ∧ w2.ownsRow (W.heap.size + 2) 23 1 (.slice po no co) no ((whats ((dones over l).take mo)).map (Value.int .u64)) ∧ Below W.heap.size W w2 from ⟨by rw [hw2]; exact hr1.put _ _, hk2.row hl1 (fun g e => by have := (hl1.lt g e).1; omega), hk2.row ho1 (fun g e => by have := (ho1.lt g e).1; omega), hb1.trans (hk2.below hb1.size (fun k e => by omega))⟩)
      have HQ1 := Lib.hid hq1
      have HR1 := Lib.hid hr1
      have HW1 := Lib.hid hw1
      have HW2 := Lib.hid hw2
      clear hin hno hmk hlf how hw1 hk1 hq1 hr1 hb1 hl1 ho1 hw2 hk2
      go_upto_region 11 with fail
      rw [← HW1.out]
      clear HW1 q0 q1 m0
      obtain ⟨q0, q1⟩ := HQ1.out.cells
      obtain ⟨r0, r1⟩ := HR1.out.cells
      have m0 := HR1.out.marks 0
      have m1 := HR1.out.marks 1
      go_wp2
      rw [← HW2.out]
      exact bodyPost_ret (results_ct rfl _ _ _ rfl rfl (queue_load H2.out.1)) rfl ⟨⟨no, pl, nl, cl, po, co, HN.out.2.1, rfl, H2.out.2.1.mono (by omega), H2.out.2.2.1.mono (by omega)⟩, H2.out.2.2.2⟩

end Go.Proofs.Ytdagcimkajmkaaa
/-
  What QueueWaits keeps: the row of what is put, the map of the periods, and mathematics of queues.
  Conditions: as each has them.
-/
namespace Go.Proofs.Ytdagcimkajmkaaa
set_option maxRecDepth 100000
open Go.RowKit Go.Shelf Go.Maps

/-! ## Mathematics -/
theorem srt_snoc (c : Int × Int) : ∀ (l : List (Int × Int)) (least : Int), srtB least l = true → (∀ d ∈ l, d.1 ≤ c.1) → least ≤ c.1 → srtB least (l ++ [c]) = true
  | [], least, _, _, h => by simp [srtB, h]
  | d :: l, least, h, hall, hc => by
    have h' : (decide (least ≤ d.1) && srtB d.1 l) = true := h
    rw [Bool.and_eq_true] at h'
    show (decide (least ≤ d.1) && srtB d.1 (l ++ [c])) = true
    rw [h'.1, Bool.true_and]
    exact srt_snoc c l d.1 h'.2 (fun e he => hall e (List.mem_cons_of_mem _ he)) (hall d (List.mem_cons_self ..))
theorem srt_weak {m least : Int} {l : List (Int × Int)} (h : srtB least l = true) (hm : m ≤ least) : srtB m l = true := by
  cases l with
  | nil => rfl
  | cons d l =>
    have h' : (decide (least ≤ d.1) && srtB d.1 l) = true := h
    rw [Bool.and_eq_true, decide_eq_true_eq] at h'
    show (decide (m ≤ d.1) && srtB d.1 l) = true
    rw [decide_eq_true (by omega), h'.2]; rfl
theorem may_mk {over : Int} {l : List (Int × Int)} (h1 : over ≤ 9223372036854775806) (h2 : l.length ≤ 16) (h3 : srtB 0 l = true) (h4 : ∀ c ∈ l, c.1 ≤ over + 2) : mayB over l = true := by
  unfold mayB
  rw [decide_eq_true h1, decide_eq_true h2, (up_iff over l 0).2 ⟨h3, h4⟩]; rfl
theorem may_split {over : Int} {l : List (Int × Int)} (h : mayB over l = true) : over ≤ 9223372036854775806 ∧ l.length ≤ 16 ∧ srtB 0 l = true ∧ ∀ c ∈ l, c.1 ≤ over + 2 := by
  obtain ⟨h1, h2, h3⟩ := may_parts h
  exact ⟨h1, h2, (up_iff over l 0).1 h3⟩
theorem may_end {over x : Int} {l : List (Int × Int)} (h : mayB over l = true) (h1 : over ≤ x) (h2 : x ≤ 9223372036854775806) : mayB x l = true := by
  obtain ⟨a, b, c, d⟩ := may_split h
  exact may_mk h2 b c (fun e he => by have := d e he; omega)
theorem may_put {over a x : Int} {l : List (Int × Int)} (h : mayB over l = true) (ho : 0 ≤ over) (hp : putE over l a = 0) : mayB over (l ++ [(over + a, x)]) = true := by
  obtain ⟨h1, h2, h3, h4⟩ := may_split h
  unfold putE at hp
  rw [if_pos h] at hp
  split at hp
  · cases hp
  · rename_i ha
    split at hp
    · rename_i hal
      split at hp
      · cases hp
      · rename_i hl
        unfold allowsB at hal
        simp only [Bool.and_eq_true, decide_eq_true_eq] at hal
        refine may_mk h1 (by simp; omega) (srt_snoc _ l 0 h3 (fun d hd => Int.le_trans (srt_last l 0 h3 d hd).2 hal.1) (by show 0 ≤ over + a; omega)) (fun c hc => ?_)
        rcases List.mem_append.1 hc with hc | hc
        · exact h4 c hc
        · rw [List.mem_singleton.1 hc]; exact hal.2
    · cases hp
theorem may_drop {over : Int} {l : List (Int × Int)} (h : mayB over l = true) : mayB over (l.drop 1) = true := by
  obtain ⟨h1, h2, h3, h4⟩ := may_split h
  cases l with
  | nil => exact h
  | cons d l =>
    have h' : (decide ((0 : Int) ≤ d.1) && srtB d.1 l) = true := h3
    rw [Bool.and_eq_true, decide_eq_true_eq] at h'
    exact may_mk h1 (by simp at h2 ⊢; omega) (srt_weak h'.2 h'.1) (fun c hc => h4 c (List.mem_cons_of_mem _ hc))
theorem segB_cases (over p : Int) : segB over p = 0 ∨ segB over p = 1 ∨ segB over p = 2 := by unfold segB; split; simp; split <;> simp
theorem segN_cons (over : Int) (j : Nat) (c : Int × Int) (l : List (Int × Int)) : segN over j (c :: l) = (if segB over c.1 = j then 1 else 0) + segN over j l := by
  unfold segN
  by_cases h : segB over c.1 = j
  · rw [List.filter_cons_of_pos (by simp [h]), if_pos h, List.length_cons]; omega
  · rw [List.filter_cons_of_neg (by simp [h]), if_neg h]; omega
theorem segN_sum (over : Int) : ∀ l, segN over 0 l + segN over 1 l + segN over 2 l = l.length
  | [] => rfl
  | c :: l => by
    have := segN_sum over l
    rw [segN_cons, segN_cons, segN_cons, List.length_cons]
    rcases segB_cases over c.1 with h | h | h <;> rw [h] <;> simp <;> omega
theorem segN_zero (over : Int) : ∀ l : List (Int × Int), (∀ c ∈ l, over < c.1) → segN over 0 l = 0
  | [], _ => rfl
  | c :: l, h => by
    rw [segN_cons, segN_zero over l (fun d hd => h d (List.mem_cons_of_mem _ hd))]
    have := h c (List.mem_cons_self ..)
    have hs : ¬ segB over c.1 = 0 := by
      unfold segB
      split
      · simp
      · first | (rw [if_pos this]; simp) | simp_all
    rw [if_neg hs]
theorem take_case {over : Int} {l : List (Int × Int)} (h : mayB over l = true) : (segN over 0 l = 0 ∧ dones over l = []) ∨ ∃ c m, l = c :: m ∧ c.1 ≤ over ∧ 0 < segN over 0 l ∧ dones over l = c :: dones over m := by
  obtain ⟨h1, h2, h3, h4⟩ := may_split h
  cases l with
  | nil => exact .inl ⟨rfl, rfl⟩
  | cons c m =>
    have h' : (decide ((0 : Int) ≤ c.1) && srtB c.1 m) = true := h3
    rw [Bool.and_eq_true, decide_eq_true_eq] at h'
    by_cases hc : c.1 ≤ over
    · refine .inr ⟨c, m, rfl, hc, ?_, if_pos hc⟩
      have hs : segB over c.1 = 0 := by unfold segB; rw [if_neg (by omega), if_neg (by omega)]
      rw [segN_cons, if_pos hs]; omega
    · refine .inl ⟨segN_zero over _ (fun d hd => ?_), if_neg hc⟩
      rcases List.mem_cons.1 hd with rfl | hd
      · omega
      · have := (srt_last m c.1 h'.2 d hd).1; omega

/-! ## The row of what is put -/
def PutR (B : Nat) (v : Value) (xs : List Int) (w : World) : Prop :=
  (v = .slice none 0 0 ∧ xs = []) ∨ ∃ g off c cur, v = .slice (some ⟨g, off, none⟩) xs.length c ∧ B ≤ g ∧ w.heap[g]? = some (.cells cur 23 (0, 0)) ∧ xs.length ≤ c ∧ c ≤ 9223372036854775807 ∧ off + c ≤ cur.size ∧ ∀ j (h : j < xs.length), cur[off + j]? = some (.int .u64 xs[j])
theorem PutR.kept {B : Nat} {v : Value} {xs : List Int} {w w' : World} (h : PutR B v xs w) (hk : ∀ g, v.ownBlock = some g → w'.heap[g]? = w.heap[g]?) : PutR B v xs w' := by
  rcases h with h | ⟨g, off, c, cur, rfl, h1, h2, h3, h4, h5⟩
  · exact .inl h
  · exact .inr ⟨g, off, c, cur, rfl, h1, (hk g rfl).trans h2, h3, h4, h5⟩
theorem PutR.lt {B : Nat} {v : Value} {xs : List Int} {w : World} (h : PutR B v xs w) {g : Nat} (hg : v.ownBlock = some g) : B ≤ g ∧ g < w.heap.size ∧ ∃ cur, w.heap[g]? = some (.cells cur 23 (0, 0)) := by
  rcases h with ⟨rfl, _⟩ | ⟨g', off, c, cur, rfl, h1, h2, _⟩
  · cases hg
  · have hg' : some g' = some g := hg
    injection hg' with hg'
    subst hg'
    exact ⟨h1, (Array.getElem?_eq_some_iff.1 h2).1, cur, h2⟩
theorem PutR.below {B : Nat} {v : Value} {xs : List Int} {w w' : World} (h : PutR B v xs w) (hb : Below w.heap.size w w') : PutR B v xs w' := h.kept (fun g e => hb.block g (h.lt e).2.1)
theorem PutR.keeps {S : Nat → Prop} {B : Nat} {v : Value} {xs : List Int} {w w' : World} (h : PutR B v xs w) (hk : Keeps S w w') (hS : ∀ g, v.ownBlock = some g → ¬ S g) : PutR B v xs w' := h.kept (fun g e => hk.block g (h.lt e).2.1 (hS g e))
theorem putR_of_owns {B C : Nat} {v : Value} {xs : List Int} {n : Nat} {w : World} (h : w.ownsRow C 23 1 v n (xs.map (Value.int .u64))) (hn : 0 < n) (hC : B ≤ C) : ∃ g c, v = .slice (some ⟨g, 0, none⟩) n c ∧ C ≤ g ∧ PutR B (.slice (some ⟨g, 0, none⟩) n c) xs w := by
  have hl := h.1
  rw [List.length_map] at hl
  obtain rfl : xs.length = n := by omega
  rcases id h.2 with ⟨_, h0⟩ | ⟨g, cap, cur, rfl, hB, hg, hcp, hmx, hsz, _⟩
  · omega
  · refine ⟨g, cap, rfl, hB, .inr ⟨g, 0, cap, cur, rfl, by omega, hg, hcp, by unfold maxLen at hmx; omega, by omega, fun j hj => ?_⟩⟩
    have h1 := h.cellAt j (by omega)
    simp only [World.cell?, hg] at h1
    rw [Nat.zero_add]
    simpa [hj] using h1
/-- The first one of it; the row behind it. -/
theorem PutR.first {B : Nat} {v : Value} {x : Int} {xs : List Int} {w : World} (h : PutR B v (x :: xs) w) : ∃ g off c, v = .slice (some ⟨g, off, none⟩) (xs.length + 1) c ∧ xs.length + 1 ≤ c ∧ c ≤ 9223372036854775807 ∧ w.cell? ⟨g, off, none⟩ = some (.int .u64 x) := by
  rcases h with ⟨_, h⟩ | ⟨g, off, c, cur, rfl, h1, h2, h3, h4, h5, h6⟩
  · cases h
  · have := h6 0 (by simp)
    exact ⟨g, off, c, rfl, h3, h4, by simp [World.cell?, h2]; simpa using this⟩
def restA (g off c : Nat) : Option Addr := if c = 1 then some ⟨g, off, none⟩ else some ⟨g, off + 1, none⟩
theorem PutR.rest {B g off c : Nat} {x : Int} {xs : List Int} {w : World} (h : PutR B (.slice (some ⟨g, off, none⟩) (xs.length + 1) c) (x :: xs) w) : PutR B (.slice (restA g off c) xs.length (c - 1)) xs w := by
  rcases h with ⟨_, h⟩ | ⟨g', off', c', cur, e, h1, h2, h3, h4, h5, h6⟩
  · cases h
  · injection e with e1 _ e3
    injection e1 with e1
    injection e1 with e1 e2
    subst e1 e2 e3
    have h3' : xs.length + 1 ≤ c := h3
    unfold restA
    by_cases hc : c = 1
    · rw [if_pos hc]
      exact .inr ⟨g, off, c - 1, cur, rfl, h1, h2, by omega, by omega, by omega, fun j hj => by omega⟩
    · rw [if_neg hc]
      refine .inr ⟨g, off + 1, c - 1, cur, rfl, h1, h2, by omega, by omega, by omega, fun j hj => ?_⟩
      have := h6 (j + 1) (by simp; omega)
      rw [show off + 1 + j = off + (j + 1) by omega, this]; rfl
theorem run_rest (g off n c : Nat) (h1 : 1 ≤ n) (_ : n ≤ c) (_ : c ≤ 9223372036854775807) (wx : World) :
    (Instr.slice 26 (.slice (some ⟨g, off, none⟩) n c) (some (.int .i64 1)) none none).run Try.prog wx = .ok (.slice (restA g off c) (n - 1) (c - 1)) wx := by
  rw [run_slice_l wx 26 (some ⟨g, off, none⟩) n c Try.underlying26 .i64 1 (by omega) (by omega)]
  have hE : (sizeOf (Try.prog.elem 26)).run Try.prog wx = .ok 1 wx := by go_simp
  rw [hE]
  simp only [sliced, Result.andThen, restA]
  by_cases hc1 : c = 1
  · rw [if_pos (by simpa using hc1), if_pos hc1]; rfl
  · rw [if_neg (by simpa using hc1), if_neg hc1]; rfl
theorem wpList_app_put {ops : Array Oper} {rest : List Oper} {o : Oper} {a : Act} {Q : Exit → Act → World → Prop} {w : World} (hgd : o.guard = none) (s x : Operand)
    (ho : o.op = .call { callee := .builtin .append, args := #[s, x], argTypes := #[26, 26] })
    (B : Nat) (v : Value) (xs : List Int) (hs : a.eval s = v) (h : PutR B v xs w) (b c : Nat) (y : Int) (hx : a.eval x = .slice (some ⟨b, 0, none⟩) 1 c) (h0 : w.cell? ⟨b, 0, none⟩ = some (.int .u64 y)) (hl : xs.length ≤ 1000000) (hB : B ≤ w.heap.size)
    (hK : ∀ g off r w', PutR B (.slice (some ⟨g, off, none⟩) (xs.length + 1) r) (xs ++ [y]) w' → Keeps (fun k => some k = v.ownBlock) w w' → (some g = v.ownBlock ∨ w.heap.size ≤ g) → wpList Try.prog ops Q rest (a.put o.dst (.slice (some ⟨g, off, none⟩) (xs.length + 1) r)) w') :
    wpList Try.prog ops Q (o :: rest) a w := by
  obtain ⟨i0, hi, hz0, hz1, hz2⟩ := info_parts info_w
  have hnews : ∀ j u, [Value.int .u64 y][j]? = some u → w.cell? ((⟨b, 0, none⟩ : Addr).add j) = some u := fun j u hj => by
    rw [addr_add_off, Nat.zero_add]
    match j, hj with
    | 0, hj => simp only [List.getElem?_cons_zero, Option.some.injEq] at hj; rw [← hj]; exact h0
  have h1c : ∀ u ∈ [Value.int .u64 y], u.oneCell' = true := fun u hu => by rw [List.mem_singleton.1 hu]; rfl
  have grown : ∀ {v' w'}, w'.ownsRow w.heap.size 23 1 v' (xs.length + 1) (xs.map (Value.int .u64) ++ [.int .u64 y]) → w.grownBy w' none → wpList Try.prog ops Q rest (a.put o.dst v') w' := fun {v' w'} r1 r2 => by
    have e : xs.map (Value.int .u64) ++ [.int .u64 y] = (xs ++ [y]).map (Value.int .u64) := by simp
    rw [e] at r1
    obtain ⟨g, c', rfl, hg, hp⟩ := putR_of_owns (B := B) r1 (by omega) hB
    exact hK g 0 c' w' hp ⟨r2.os, r2.tape, r2.output, r2.size, fun k hk _ => r2.block k hk (by simp)⟩ (.inr hg)
  rcases h with ⟨rfl, rfl⟩ | ⟨g, off, cp, cur, rfl, g1, g2, g3, g4, g5, g6⟩
  · refine wpList_append_own_at w hgd s x 26 ho w.heap.size 23 i0 (.int .u64 0) 1 8 Try.underlying26 hi hz0 hz1 hz2 rfl (by decide) (.slice none 0 0) 0 [] hs (World.ownsRow_nil _ _ _ _) ⟨b, 0, none⟩ 1 c [.int .u64 y] hx rfl hnews h1c (by unfold maxLen; omega) (by omega) (Nat.le_refl _) fun v' w' h2 h3 _ _ => grown h2 h3
  · have hcell : ∀ j, j < cp → (w.cell? ⟨g, off + j, none⟩).isSome = true := fun j hj => by
      simp only [World.cell?, g2]
      rw [Array.getElem?_eq_getElem (by omega)]; rfl
    refine wpList_append_arg w hgd s x 26 ho 23 i0 (.int .u64 0) 1 8 Try.underlying26 hi hz0 hz1 hz2 rfl (by decide) g off xs.length cp (xs.map (Value.int .u64)) hs (by simp) (fun j u hj => ?_) ⟨b, 0, none⟩ 1 c [.int .u64 y] hx rfl hnews h1c (fun hr j hj => ?_) (by unfold maxLen; omega) (by omega) (fun hr => ?_) (fun hr v' w' r1 r2 => grown r1 r2)
    · rw [List.getElem?_map] at hj
      obtain ⟨z, hz, rfl⟩ := Option.map_eq_some_iff.1 hj
      obtain ⟨hlt, hz'⟩ := List.getElem?_eq_some_iff.1 hz
      have := g6 j hlt
      rw [hz'] at this
      simp only [World.cell?, g2]
      exact this
    · have hj' : j = 0 := by simpa using hj
      subst hj'
      exact ⟨by simpa using hcell xs.length (by omega), by simp [World.frozen?, g2]⟩
    · have e : w.setCells g (off + xs.length * 1) [.int .u64 y] = w.setCell ⟨g, off + xs.length, none⟩ (.int .u64 y) := by rw [Nat.mul_one]; rfl
      rw [e]
      have hh := heap_setCell_same w g (off + xs.length) cur _ (.int .u64 y) g2
      refine hK g off cp _ (.inr ⟨g, off, cp, _, by simp, g1, hh, by simp; omega, g4, by simpa using g5, fun j hj => ?_⟩) ((Keeps.setCell w (S := (· = g)) (p := ⟨g, off + xs.length, none⟩) rfl _).sub fun k _ e => by rw [e]; rfl) (.inl rfl)
      rw [List.length_append, List.length_singleton] at hj
      by_cases hjx : j < xs.length
      · rw [Array.getElem?_setIfInBounds_ne (by omega), g6 j hjx, List.getElem_append_left hjx]
      · obtain rfl : j = xs.length := by omega
        rw [Array.getElem?_setIfInBounds_self_of_lt (by omega)]
        simp

/-! ## The map of the periods -/
open Classical in
noncomputable def elemG (v : Value) : Option (DataW Unit × List MemPlace) :=
  if h : ∃ g : Nat, v = .slice (some ⟨g, 0, none⟩) 1 1 then some (.lit (.int .i64 ((Classical.choose h : Nat) : Int)), []) else if v = .slice none 0 0 then some (.nil, []) else none
theorem elemG_mk (g : Nat) : elemG (.slice (some ⟨g, 0, none⟩) 1 1) = some (.lit (.int .i64 (g : Int)), []) := by
  have h : ∃ g' : Nat, Value.slice (some ⟨g, 0, none⟩) 1 1 = .slice (some ⟨g', 0, none⟩) 1 1 := ⟨g, rfl⟩
  unfold elemG
  rw [dif_pos h]
  have hs := Classical.choose_spec h
  injection hs with hs _ _
  injection hs with hs
  injection hs with hs _
  rw [← hs]
theorem elemG_nil : elemG (.slice none 0 0) = some (.nil, []) := by
  unfold elemG
  rw [dif_neg (by rintro ⟨g, e⟩; injection e with e; cases e), if_pos rfl]
theorem elemG_inv {v : Value} {g : Nat} {ps : List MemPlace} (h : elemG v = some (.lit (.int .i64 (g : Int)), ps)) : v = .slice (some ⟨g, 0, none⟩) 1 1 := by
  unfold elemG at h
  split at h
  · rename_i hex
    have hs := Classical.choose_spec hex
    injection h with h
    injection h with h _
    injection h with h
    injection h with _ h
    have h' : Classical.choose hex = g := by omega
    rw [hs, h']
  · split at h
    · injection h with h
      injection h with h _
      cases h
    · cases h
theorem u64Keyed : Keyed Try.prog 23 := int_keyed Try.underlying23
theorem wfU {x : Int} (h : 0 ≤ x ∧ x ≤ 1000) : (Lit.int .u64 x).wf = true := by simp [Lit.wf, IntKind.min, IntKind.max, IntKind.signed, IntKind.bits]; omega
def MapG (W : World) (mb k : Nat) (f : Int → Option Nat) : Prop := ∃ D : DataW Unit, W.ownsMap Try.prog 23 elemG mb k D ∧ ∀ (y : Int) (g : Nat), f y = some g → ∀ zd, D.atKey (.int .u64 y) zd = .lit (.int .i64 (g : Int))
theorem kB {w w' : World} (h : Below w.heap.size w w') : w.grownBy w' none := ⟨h.os, h.tape, h.output, h.size, fun i hi _ => h.block i hi⟩
theorem MapG.new (W : World) : MapG (W.alloc (.map #[] 0)) W.heap.size 0 (fun _ => none) := ⟨.map [], World.ownsMap_made W _ _ _, fun y g h => by cases h⟩
theorem MapG.below {W W' : World} {mb k : Nat} {f : Int → Option Nat} (h : MapG W mb k f) (hb : Below W.heap.size W W') : MapG W' mb k f := by
  obtain ⟨D, ho, hD⟩ := h
  exact ⟨D, ho.kept (kB hb) (by simp), hD⟩
theorem MapG.lt {W : World} {mb k : Nat} {f : Int → Option Nat} (h : MapG W mb k f) : mb < W.heap.size := by
  obtain ⟨D, ho, _⟩ := h
  exact ho.lt
theorem MapG.keeps {S : Nat → Prop} {W W' : World} {mb k : Nat} {f : Int → Option Nat} (h : MapG W mb k f) (hk : Keeps S W W') (hS : ¬ S mb) : MapG W' mb k f := by
  have hlt := h.lt
  obtain ⟨D, ⟨es, ck, h1, h2⟩, hD⟩ := h
  exact ⟨D, ⟨es, ck, (hk.block mb hlt hS).trans h1, h2⟩, hD⟩
theorem MapG.look {W : World} {mb k : Nat} {f : Int → Option Nat} (h : MapG W mb k f) {x : Int} {g : Nat} (hf : f x = some g) (hx : 0 ≤ x ∧ x ≤ 1000) : (Instr.lookup 50 (.map (some mb)) (.int .u64 x) false).run Try.prog W = .ok (.slice (some ⟨g, 0, none⟩) 1 1) W := by
  obtain ⟨D, ho, hD⟩ := h
  obtain ⟨v, ps, hrun, hv⟩ := ho.lookup u64Keyed Try.underlying50 (z := .slice none 0 0) (by kernel_rfl) elemG_nil (keyOf_int_mk Try.underlying23 (wfU hx))
  rw [hD x g hf] at hv
  rw [hrun, elemG_inv hv]
theorem MapG.put {W : World} {mb k : Nat} {f : Int → Option Nat} (h : MapG W mb k f) (x : Int) (g : Nat) (hx : 0 ≤ x ∧ x ≤ 1000) (hn : k ≤ 1000) :
    ∃ W', (Instr.mapUpdate 50 (.map (some mb)) (.int .u64 x) (.slice (some ⟨g, 0, none⟩) 1 1)).run Try.prog W = .ok () W' ∧ MapG W' mb (k + 1) (fun y => if y = x then some g else f y) ∧ Keeps (fun k => k = mb) W W' := by
  obtain ⟨D, ho, hD⟩ := h
  have hmap : IsMap D := ho.isMap
  have hkey := keyOf_int_mk (P := Try.prog) (k := 23) Try.underlying23 (wfU hx)
  obtain ⟨W', hrun, ho', hg⟩ := ho.update u64Keyed Try.underlying50 (by unfold maxLen; omega) hkey (elemG_mk g)
  refine ⟨W', hrun, ⟨_, ho', fun y g' hy zd => ?_⟩, ⟨hg.os, hg.tape, hg.output, hg.size, fun i hi hne => hg.block i hi (fun e => hne (by injection e))⟩⟩
  by_cases hz : y = x
  · subst hz
    have hy : (if y = y then some g else f y) = some g' := hy
    rw [if_pos rfl] at hy
    injection hy with hy
    subst hy
    rw [atKey_put_same hmap (u64Keyed.key hkey)]
  · have hy : (if y = x then some g else f y) = some g' := hy
    rw [if_neg hz] at hy
    rw [atKey_put_other (by intro e; injection e with _ e; exact hz e), hD y g' hy]

/-! ## What the loop keeps -/
structure WtI (W : World) (z mb k : Nat) (over : Int) (p : Option Addr) (n c : Nat) (l : List (Int × Int)) (u : Value) (f : Int → Option Nat) (w : World) : Prop where
  q : QBox w z (.slice p n c) over
  row : CbOut (fun b => b ≤ mb ∨ some b = u.ownBlock) w (.slice p n c) l
  put : PutR (mb + 1) u (whats l) w
  map : MapG w mb k f
  due : ∀ d ∈ l, ∃ g, f d.2 = some g ∧ mb < g ∧ some g ≠ u.ownBlock ∧ Boxed w g 23 (.int .u64 d.1)
  b : Below W.heap.size W w
  z1 : W.heap.size ≤ z ∧ z < mb
theorem WtI.below {W : World} {z mb k : Nat} {over : Int} {p : Option Addr} {n c : Nat} {l : List (Int × Int)} {u : Value} {f : Int → Option Nat} {w w' : World} (h : WtI W z mb k over p n c l u f w) (hb : Below w.heap.size w w') : WtI W z mb k over p n c l u f w' :=
  ⟨h.q.below hb, h.row.below hb, h.put.below hb, h.map.below hb, fun d hd => by
    obtain ⟨g, h1, h2, h3, h4⟩ := h.due d hd
    exact ⟨g, h1, h2, h3, boxed_under h4 hb⟩, below_then h.b h.b.size hb, h.z1⟩
/-- The queue's own box is written: another row, and number. -/
theorem WtI.setq {W : World} {z mb k : Nat} {over : Int} {p : Option Addr} {n c : Nat} {l : List (Int × Int)} {u : Value} {f : Int → Option Nat} {w w' : World} (h : WtI W z mb k over p n c l u f w) {p' : Option Addr} {n' c' : Nat} {over' : Int}
    (hw : w' = (w.setCell ⟨z, 0, none⟩ (.slice p' n' c')).setCell ⟨z, 1, none⟩ (.int .u64 over')) (hr : CbOut (fun b => b ≤ mb ∨ some b = u.ownBlock) w (.slice p' n' c') l) : WtI W z mb k over' p' n' c' l u f w' := by
  have hk : Keeps (fun b => b = z) w w' := by rw [hw]; exact QBox.putK _ _ _ _
  have hk2 : Keeps (fun b => b ≤ mb ∨ some b = u.ownBlock) w w' := hk.sub (fun b _ e => .inl (by have := h.z1; omega))
  refine ⟨by rw [hw]; exact h.q.put _ _, hr.keeps hk2, h.put.keeps hk (fun g e => by have := (h.put.lt e).1; have := h.z1; omega), h.map.keeps hk (by have := h.z1; omega), fun d hd => ?_, h.b.trans (hk.below h.b.size (fun b e => by have := h.z1; omega)), h.z1⟩
  obtain ⟨g, h1, h2, h3, h4⟩ := h.due d hd
  exact ⟨g, h1, h2, h3, bx_keeps h4 hk (by have := h.z1; omega)⟩
/-- The first one is taken: of the queue, and of what is put. -/
theorem WtI.take {W : World} {z mb k : Nat} {over : Int} {p : Option Addr} {n c : Nat} {d : Int × Int} {l : List (Int × Int)} {g off cp : Nat} {f : Int → Option Nat} {w w' : World} (h : WtI W z mb k over p n c (d :: l) (.slice (some ⟨g, off, none⟩) (l.length + 1) cp) f w) {p' : Option Addr} {n' c' : Nat}
    (hw : w' = (w.setCell ⟨z, 0, none⟩ (.slice p' n' c')).setCell ⟨z, 1, none⟩ (.int .u64 over)) (hr : CbOut (fun b => b ≤ mb ∨ b = g) w (.slice p' n' c') l) : WtI W z mb k over p' n' c' l (.slice (restA g off cp) l.length (cp - 1)) f w' := by
  have hk : Keeps (fun b => b = z) w w' := by rw [hw]; exact QBox.putK _ _ _ _
  have hk2 : Keeps (fun b => b ≤ mb ∨ b = g) w w' := hk.sub (fun b _ e => .inl (by have := h.z1; omega))
  have hob : ∀ b, some b = (Value.slice (restA g off cp) l.length (cp - 1)).ownBlock → b = g := fun b e => by
    unfold restA at e
    split at e <;> (injection e)
  have hpr : PutR (mb + 1) (.slice (restA g off cp) l.length (cp - 1)) (whats l) w := by
    have := PutR.rest (x := d.2) (xs := whats l) (g := g) (off := off) (c := cp) (by rw [whats_len]; exact h.put)
    rwa [whats_len] at this
  refine ⟨by rw [hw]; exact h.q.put _ _, (hr.keeps hk2).sub (fun b hb => hb.imp id (hob b)), hpr.keeps hk (fun g' e => by have := (hpr.lt e).1; have := h.z1; omega), h.map.keeps hk (by have := h.z1; omega), fun e he => ?_, h.b.trans (hk.below h.b.size (fun b e => by have := h.z1; omega)), h.z1⟩
  obtain ⟨g', h1, h2, h3, h4⟩ := h.due e (List.mem_cons_of_mem _ he)
  exact ⟨g', h1, h2, fun e' => h3 (by rw [hob g' e']; rfl), bx_keeps h4 hk (by have := h.z1; omega)⟩
/-- One more is put: the row of words, the map, the queue. -/
theorem WtI.app {W : World} {z mb k : Nat} {over : Int} {p : Option Addr} {n c : Nat} {l : List (Int × Int)} {u : Value} {f : Int → Option Nat} {w w1 w2 w3 w4 w5 : World} (h : WtI W z mb k over p n c l u f w) {d : Int × Int} {g off r gb cp : Nat} {p' : Option Addr} {n' c' : Nat}
    (hb1 : Below w.heap.size w w1) (hp : PutR (mb + 1) (.slice (some ⟨g, off, none⟩) r cp) (whats l ++ [d.2]) w2) (hk2 : Keeps (fun b => some b = u.ownBlock) w1 w2) (hg : some g = u.ownBlock ∨ w1.heap.size ≤ g)
    (hb3 : w3 = w2.alloc (.cells #[.int .u64 d.1] 23)) (hgb : gb = w2.heap.size) (hm : MapG w4 mb (k + 1) (fun y => if y = d.2 then some gb else f y)) (hk4 : Keeps (fun b => b = mb) w3 w4)
    (hw : w5 = (w4.setCell ⟨z, 0, none⟩ (.slice p' n' c')).setCell ⟨z, 1, none⟩ (.int .u64 over)) (hr : CbOut (fun b => b < w.heap.size) w1 (.slice p' n' c') (l ++ [d])) (hrb : CbOut (fun b => w1.heap.size ≤ b) w1 (.slice p' n' c') (l ++ [d])) (hd : ∀ e ∈ l, e.2 ≠ d.2) : WtI W z mb (k + 1) over p' n' c' (l ++ [d]) (.slice (some ⟨g, off, none⟩) r cp) (fun y => if y = d.2 then some gb else f y) w5 := by
  have hz := h.z1
  have hml := h.map.lt
  have hus : ∀ b, some b = u.ownBlock → mb < b ∧ b < w.heap.size := fun b e => by have := h.put.lt e.symm; omega
  have hs1 := hb1.size
  have hs2 := hk2.size
  have hb23 : Below w2.heap.size w2 w3 := by rw [hb3]; exact below1 _ _
  have hk5 : Keeps (fun b => b = z) w4 w5 := by rw [hw]; exact QBox.putK _ _ _ _
  have hs3 := hb23.size
  have hs4 := hk4.size
  have hgl := (hp.lt (g := g) rfl)
  have kall : Keeps (fun b => b = z ∨ b = mb ∨ some b = u.ownBlock) w w5 :=
    (((Keeps.of_below hb1).trans (hk2.sub fun _ _ h => .inr (.inr h))).trans ((Keeps.of_below hb23).trans (hk4.sub fun _ _ h => .inr (.inl h)))).trans (hk5.sub fun _ _ h => .inl h)
  have k15 : Keeps (fun b => b = z ∨ b = mb ∨ some b = u.ownBlock) w1 w5 :=
    ((hk2.sub fun _ _ h => .inr (.inr h)).trans ((Keeps.of_below hb23).trans (hk4.sub fun _ _ h => .inr (.inl h)))).trans (hk5.sub fun _ _ h => .inl h)
  have k25 : Keeps (fun b => b = z ∨ b = mb) w2 w5 := ((Keeps.of_below hb23).trans (hk4.sub fun _ _ h => .inr h)).trans (hk5.sub fun _ _ h => .inl h)
  have k35 : Keeps (fun b => b = z ∨ b = mb) w3 w5 := (hk4.sub fun _ _ h => .inr h).trans (hk5.sub fun _ _ h => .inl h)
  have hq4 : QBox w4 z (.slice p n c) over := (((((h.q.below hb1).keeps hk2 (fun e => by have := hus z e; omega)).below hb23)).keeps hk4 (by omega))
  refine ⟨by rw [hw]; exact hq4.put _ _, ?_, ?_, hm.keeps hk5 (by omega), fun e he => ?_, h.b.trans (kall.below h.b.size (fun b e => ?_)), hz⟩
  · have hr1 : CbOut (fun b => b < w.heap.size ∨ w1.heap.size ≤ b) w1 (.slice p' n' c') (l ++ [d]) := by
      obtain ⟨p0, cap, e0, a1, a2, hc⟩ := hr
      obtain ⟨p1, cap1, e1, a3, a4, hc1⟩ := hrb
      refine ⟨p0, cap, e0, a1, a2, fun hne => ?_⟩
      obtain ⟨b, o, rfl, hb, hcs⟩ := hc hne
      obtain ⟨b', o', rfl, hb', _⟩ := hc1 hne
      rw [e0] at e1
      injection e1 with e1 _ _
      injection e1 with e1
      injection e1 with e1 _
      subst e1
      exact ⟨b, o, rfl, by intro h; rcases h with h | h; exact hb h; exact hb' h, hcs⟩
    have hr5 := hr1.keeps (k15.sub (fun b _ e => .inl (by rcases e with e | e | e; omega; omega; exact (hus b e).2)))
    refine hr5.sub (fun b e => ?_)
    rcases e with e | e
    · exact .inl (by omega)
    · have e : some b = some g := e
      injection e with e
      subst e
      rcases hg with hg | hg
      · exact .inl (hus _ hg).2
      · exact .inr hg
  · have : whats (l ++ [d]) = whats l ++ [d.2] := by unfold whats; simp
    rw [this]
    refine hp.keeps k25 (fun g' e e2 => ?_)
    have e : some g = some g' := e
    injection e with e
    subst e
    omega
  · rcases List.mem_append.1 he with he | he
    · obtain ⟨g', h1, h2, h3, h4⟩ := h.due e he
      refine ⟨g', by rw [if_neg (hd e he)]; exact h1, h2, fun e' => ?_, bx_keeps h4 kall (fun h => by rcases h with h | h | h; omega; omega; exact h3 h)⟩
      have e' : some g' = some g := e'
      rcases hg with hg | hg
      · exact h3 (e'.trans hg)
      · injection e' with e'
        have := h4.lt
        omega
    · rw [List.mem_singleton.1 he]
      refine ⟨gb, if_pos rfl, by omega, fun e' => ?_, ?_⟩
      · have e' : some gb = some g := e'
        injection e' with e'
        omega
      · have hx : Boxed w3 gb 23 (.int .u64 d.1) := by rw [hb3, hgb]; exact Boxed.new _ _ _
        exact bx_keeps hx k35 (by omega)
  · rcases e with e | e | e
    · omega
    · omega
    · have := hus b e; omega

end Go.Proofs.Ytdagcimkajmkaaa
/-
  QueueWaits, called with any queue and row of words: it answers true.
  Conditions: the ranges of Go's types.
-/
namespace Go.Proofs.Ytdagcimkajmkaaa
set_option maxRecDepth 100000
open Go.RowKit Go.Shelf
attribute [local go_sem] Oper.semAt_some

theorem run_seg_zero (w : World) : (binOp .eql 48 (.agg #[.int .i64 0, .int .i64 0, .int .i64 0]) (.agg #[.int .i64 0, .int .i64 0, .int .i64 0])).run Try.prog w = .ok (.bool true) w := by kernel_rfl
theorem WtI.new {W w : World} {z : Nat} {over : Int} {v0 : Value} (hq : QBox w z v0 over) (hb : Below W.heap.size W w) (hz : W.heap.size ≤ z) {w5 : World} (h : w5 = (w.alloc (.map #[] 0)).setCell ⟨z, 0, none⟩ (.slice none 0 0)) :
    WtI W z w.heap.size 0 over none 0 0 [] (.slice none 0 0) (fun _ => none) w5 := by
  have hk : Keeps (fun b => b = z) (w.alloc (.map #[] 0)) w5 := by rw [h]; exact set1K _ _ _ _
  have hb1 : Below w.heap.size w (w.alloc (.map #[] 0)) := below1 _ _
  have hlt := hq.lt
  refine ⟨by rw [h]; exact (hq.below hb1).put0 _, ⟨none, 0, rfl, by simp, by omega, fun h => absurd rfl h⟩, .inl ⟨rfl, rfl⟩, (MapG.new w).keeps hk (by omega), fun d hd => by simp at hd, (below_then hb hb.size hb1).trans (hk.below (by have := hb.size; have := hb1.size; omega) (fun b e => by omega)), hz, hlt⟩
theorem mid_put {W : World} {z mb k : Nat} {over : Int} {p : Option Addr} {n c : Nat} {l : List (Int × Int)} {u : Value} {f : Int → Option Nat} {w wb w1 w2 : World} (h : WtI W z mb k over p n c l u f w) (hb1 : Below w.heap.size w w1) (hbb : Below wb.heap.size wb w1) {za : Nat} {va : Value} {oa : Int} (hx : QBox wb za va oa) (hza : w.heap.size ≤ za)
    (hk2 : Keeps (fun b => some b = u.ownBlock) w1 w2) (y i : Int) (hi : 0 ≤ i ∧ i ≤ 1000) (hk : k ≤ 1000) :
    QBox w2 z (.slice p n c) over ∧ QBox w2 za va oa ∧ ∃ w4, (Instr.mapUpdate 50 (.map (some mb)) (.int .u64 i) (.slice (some ⟨w2.heap.size, 0, none⟩) 1 1)).run Try.prog (w2.alloc (.cells #[.int .u64 y] 23)) = .ok () w4 ∧ MapG w4 mb (k + 1) (fun t => if t = i then some w2.heap.size else f t) ∧ Keeps (fun b => b = mb) (w2.alloc (.cells #[.int .u64 y] 23)) w4 ∧ QBox w4 z (.slice p n c) over ∧ QBox w4 za va oa := by
  have hz := h.z1
  have hml := h.map.lt
  have hus : ∀ b, some b = u.ownBlock → mb < b ∧ b < w.heap.size := fun b e => by have := h.put.lt e.symm; omega
  have hq2 := (h.q.below hb1).keeps hk2 (fun e => by have := hus z e; omega)
  have hx2 := (hx.below hbb).keeps hk2 (fun e => by have := hus za e; omega)
  have hb3 := below1 w2 (.cells #[.int .u64 y] 23)
  have hm3 := ((h.map.below hb1).keeps hk2 (fun e => by have := hus mb e; omega)).below hb3
  obtain ⟨w4, hupd, hM4, hk4⟩ := hm3.put i w2.heap.size hi hk
  exact ⟨hq2, hx2, w4, hupd, hM4, hk4, (hq2.below hb3).keeps hk4 (by omega), (hx2.below hb3).keeps hk4 (by omega)⟩
theorem take_cell {over : Int} {l : List (Int × Int)} {d : Int × Int} {m : List (Int × Int)} {x : Int} (hd : dones over l = d :: m) (h : whats ((dones over l).take 1) = [x]) : x = d.2 := by
  rw [hd] at h
  simp [whats] at h
  exact h.symm

set_option maxHeartbeats 64000000 in
theorem queueWaits_c (v : Value) (over : Int) (l : List (Int × Int)) (vw : Value) (ws : List Int) (W : World) (hv : CbOut NoS W v l) (hz : NilZ v) (ho : 0 ≤ over) (hg : ∀ c ∈ l, 0 ≤ c.1) (hw : NumsAt W .u64 vw ws) (hwl : ws.length ≤ 9223372036854775807) (hwr : ∀ w ∈ ws, 0 ≤ w ∧ w < 18446744073709551616) :
    Calls Try.prog 5 #[.agg #[v, .int .u64 over], vw] W fun e w' => e = .returned (.bool true) ∧ Below W.heap.size W w' := by
  obtain ⟨px, cx, rfl, -⟩ := id hv
  obtain ⟨pw, cw, rfl, -⟩ := id hw
  obtain ⟨nx, hnx⟩ : ∃ n, n = l.length := ⟨_, rfl⟩
  obtain ⟨m, hm⟩ : ∃ m, m = ws.length := ⟨_, rfl⟩
  rw [← hnx] at hv hz ⊢
  rw [← hm] at hw hwl ⊢
  have HL := Lib.hid (And.intro hv hz)
  have HG := Lib.hid hg
  have HWD := Lib.hid (show NumsAt W .u64 (.slice pw m cw) ws ∧ m = ws.length ∧ (∀ w ∈ ws, 0 ≤ w ∧ w < 18446744073709551616) from ⟨hw, hm, hwr⟩)
  obtain ⟨w0, hw0⟩ : ∃ X : World, X = W.alloc (.cells #[.slice px nx cx, .int .u64 over] 25) := ⟨_, rfl⟩
  have HF := Lib.hid (show QBox w0 W.heap.size (.slice px nx cx) over ∧ Below W.heap.size W w0 from ⟨by rw [hw0]; exact QBox.new W _ _, by rw [hw0]; exact below1 _ _⟩)
  have HW0 := Lib.hid hw0
  clear hv hz hg hw hm hwr hw0 hnx
  have hmm := @run_makeMap Try.prog
  go_enter Try.func5, Try.ntmps5
  go_wp2_with fail
  rw [← HW0.out]
  clear HW0
  (with_reducible refine (wakes_c w0).mono ?_)
  rintro e w1 ⟨rfl, hb1⟩
  have hx1 := HF.out.1.below hb1
  have hbw1 := below_then HF.out.2 HF.out.2.size hb1
  have HOW := Lib.hid (lown_c (.slice px nx cx) over l w1 ((HL.out.1.below hbw1)) HL.out.2)
  have HX1 := Lib.hid (And.intro hx1 hbw1)
  have HS1 := Lib.hid hb1
  obtain ⟨q0, q1⟩ := hx1.cells
  clear hx1 hbw1 hb1 HF
  go_wp2_with fail
  (with_reducible refine HOW.out.mono ?_)
  rintro e w2 ⟨⟨v2, rfl, o2⟩, hb2⟩
  obtain ⟨ls, hls⟩ : ∃ ls, ls = l.take 20 := ⟨_, rfl⟩
  rw [← hls] at o2
  obtain ⟨n, hn⟩ : ∃ n, n = ls.length := ⟨_, rfl⟩
  rw [← hn] at o2
  obtain ⟨p, c, rfl⟩ := owns_slice o2
  have hnz := nilZ_owns o2
  obtain ⟨z, hz⟩ : ∃ z, z = w2.heap.size := ⟨_, rfl⟩
  obtain ⟨w3, hw3⟩ : ∃ X : World, X = w2.alloc (.cells #[.slice p n c, .int .u64 over] 25) := ⟨_, rfl⟩
  have hb3 : Below w2.heap.size w2 w3 := by rw [hw3]; exact below1 _ _
  have hb13 := below_then hb2 hb2.size hb3
  obtain ⟨Z, hZ⟩ : ∃ Z, Z = z + 1 := ⟨_, rfl⟩
  have hrow : CbOut (fun k => Z ≤ k) w3 (.slice p n c) ls := ((cb_of_owns o2).apart (T := fun k => Z ≤ k) (fun k hk => .inr (by omega))).below hb3
  have HQ := Lib.hid (show QpI W (.slice px nx cx) over z Z p n c ls w3 from ⟨HX1.out.1.below hb13, by rw [hw3, hz]; exact QBox.new _ _ _, hrow, fun h => hnz _ _ _ rfl h, below_then HX1.out.2 HX1.out.2.size hb13, by rw [hw3, hZ, hz]; simp, by have := HX1.out.1.lt; have := hb2.size; omega, by omega, by have := HX1.out.1.lt; have := hb2.size; omega⟩)
  have HB13 := Lib.hid (below_then HS1.out HS1.out.size hb13)
  have HSZ := Lib.hid (show w0.heap.size ≤ z ∧ z < Z by have := HS1.out.size; have := hb2.size; omega)
  have HLS := Lib.hid (show ls = l.take 20 ∧ n = ls.length ∧ (∀ c ∈ ls, 0 ≤ c.1) ∧ n ≤ 20 from ⟨hls, hn, fun c hc => HG.out c (by rw [hls] at hc; exact List.mem_of_mem_take hc), by rw [hn, hls, List.length_take]; omega⟩)
  have HW3 := Lib.hid (And.intro hw3 hz)
  clear HS1 hls hn o2 hnz hz hw3 hb2 hb3 hb13 hZ hrow HX1 HOW q0 q1
  obtain ⟨q0, q1⟩ := HQ.out.q.cells
  have q0' := q0
  have q1' := q1
  rw [HW3.out.1, HW3.out.2] at q0 q1
  go_upto_region 4 with fail
  rw [← HW3.out.1, ← HW3.out.2]
  clear HW3 q0 q1
  have hcc := check_c (.slice p n c) over ls w3 (HQ.out.row.sub (fun _ h => False.elim h)) ho
  go_wp2_with fail
  (with_reducible refine hcc.mono ?_)
  rintro e w4 ⟨rfl, hb4⟩
  have HQ4 := Lib.hid (HQ.out.below hb4)
  clear hb4 HQ HB13 q0' q1' hcc HSZ
  obtain ⟨q0, q1⟩ := HQ4.out.q.cells
  by_cases hm0 : mayB over ls = true
  · have hE : chkE over ls = 0 := if_pos hm0
    rw [hE]
    obtain ⟨mb, hmb⟩ : ∃ b, b = w4.heap.size := ⟨_, rfl⟩
    obtain ⟨w5, hw5⟩ : ∃ X : World, X = (w4.alloc (.map #[] 0)).setCell ⟨z, 0, none⟩ (.slice none 0 0) := ⟨_, rfl⟩
    have hqm := HQ4.out.q.below (below1 w4 (.map #[] 0))
    have m0 := hqm.marks 0
    obtain ⟨t0, t1⟩ := hqm.cells
    have HI5 := Lib.hid (show WtI W z mb 0 over none 0 0 [] (.slice none 0 0) (fun _ => none) w5 ∧ mayB over [] = true from ⟨by rw [hmb]; exact WtI.new HQ4.out.q HQ4.out.b HQ4.out.z1.2.2 hw5, may_mk (may_split hm0).1 (by simp) rfl (fun c hc => by simp at hc)⟩)
    have HW5 := Lib.hid (And.intro hw5 hmb)
    clear hE hmb hw5 hqm hm0
    go_upto_block 0 with fail
    rw [← HW5.out.1, ← HW5.out.2]
    clear HW5 t0 t1 m0 q0 q1 HQ4
    go_cut [7] (fun s7 wc => ∃ (pu : Option Addr) (cu : Nat) (ov : Int) (p' : Option Addr) (n' c' k : Nat) (l' : List (Int × Int)) (f : Int → Option Nat), s7 = .slice pu n' cu ∧ Hid (WtI W z mb k ov p' n' c' l' (.slice pu n' cu) f wc ∧ mayB ov l' = true ∧ 0 ≤ ov ∧ k ≤ m ∧ n' = l'.length ∧ ∀ d ∈ l', 0 ≤ d.2 ∧ d.2 < 20))
    case first => as_aux_lemma =>
      go_wp2
      go_loopw [33, 7] (fun iv s7 wc => ∃ i : Nat, i ≤ m ∧ i ≤ 20 ∧ iv = .int .i64 (i : Int) ∧ ∃ (pu : Option Addr) (cu : Nat) (ov : Int) (p' : Option Addr) (n' c' k : Nat) (l' : List (Int × Int)) (f : Int → Option Nat), s7 = .slice pu n' cu ∧ Hid (WtI W z mb k ov p' n' c' l' (.slice pu n' cu) f wc ∧ mayB ov l' = true ∧ 0 ≤ ov ∧ k ≤ i ∧ n' = l'.length ∧ ∀ d ∈ l', 0 ≤ d.2 ∧ d.2 < i)) (fun iv _ _ => m - (intOf iv).toNat)
      case atStart => exact ⟨0, Nat.zero_le _, by omega, rfl, none, 0, over, none, 0, 0, 0, [], fun _ => none, rfl, HI5.out.1, HI5.out.2, ho, by omega, rfl, fun d hd => by simp at hd⟩
      case round =>
        clear HI5
        obtain ⟨i, hi, hi20, rfl, pu, cu, ov, p', n', c', k, l', f, rfl, HX⟩ := hrel
        by_cases hlt : i < m
        · have him : i < ws.length := by have := HWD.out.2.1; omega
          have hwr := nums_below HWD.out.1 HX.out.1.b
          obtain ⟨pw', cw', e, hcw⟩ := hwr
          injection e with e1 e2 e3
          subst e1 e3
          obtain ⟨bw, ow, rfl, hcs⟩ := hcw (by rintro e; rw [e] at him; simp at him)
          have hx := hcs i him
          have hxr := HWD.out.2.2 ws[i] (List.getElem_mem _)
          obtain ⟨x, hxe⟩ : ∃ x, x = ws[i] := ⟨_, rfl⟩
          rw [← hxe] at hx hxr
          clear hcs hcw hxe e2
          by_cases h20 : i = 20
          · subst h20
            go_wp2
            go_meet
            exact ⟨pu, cu, ov, p', n', c', k, l', f, rfl, HX.out.1, HX.out.2.1, HX.out.2.2.1, by have := HX.out.2.2.2.1; omega, HX.out.2.2.2.2.1, HX.out.2.2.2.2.2⟩
          · have h20' : ((i : Int) == 20) = false := by rw [beq_eq_false_iff_ne]; omega
            have h20n : ¬ (i : Int) = 20 := by omega
            have hi19 : i < 20 := by omega
            clear hi20 h20
            go_upto_block 2 with fail
            go_cut [7] (fun s7 wc => ∃ (pu : Option Addr) (cu : Nat) (ov : Int) (p' : Option Addr) (n' c' k : Nat) (l' : List (Int × Int)) (f : Int → Option Nat), s7 = .slice pu n' cu ∧ Hid (WtI W z mb k ov p' n' c' l' (.slice pu n' cu) f wc ∧ mayB ov l' = true ∧ 0 ≤ ov ∧ k ≤ i + 1 ∧ n' = l'.length ∧ ∀ d ∈ l', 0 ≤ d.2 ∧ d.2 < i + 1))
            case first => as_aux_lemma =>
              obtain ⟨q0, q1⟩ := HX.out.1.q.cells
              have hmax := (may_split HX.out.2.1).1
              have hov := HX.out.2.2.1
              by_cases h3 : x % 3 = 0
              · have h3' : (x % 3 == 0) = true := by rw [h3]; rfl
                have hwo : IntKind.u64.wrap (ov + x % 2) = ov + x % 2 := wrap_u64 _ (by omega) (by omega)
                have hpc := end_c (.slice p' n' c') ov l' (ov + x % 2) wr (HX.out.1.row.sub (fun _ h => False.elim h)) hov
                go_wp2_with fail
                (with_reducible refine hpc.mono ?_)
                rintro e wa ⟨hq, hba⟩
                clear hpc q0 q1 hwo h3' h3
                by_cases hlim : 9223372036854775806 < ov + x % 2
                · have hE : endE ov l' (ov + x % 2) = 2 := by unfold endE; rw [if_pos HX.out.2.1, if_pos (.inr hlim)]
                  rcases hq with ⟨hq, _⟩ | ⟨_, hq⟩
                  · rw [hE] at hq; cases hq
                  · rw [hE] at hq
                    obtain ⟨pa, ca, rfl, oa⟩ := ansQ_row hq
                    have hqq := (HX.out.1.q.below hba).below (below1 wa (.cells #[.slice pa 0 ca, .int .u64 0] 25))
                    obtain ⟨q0, q1⟩ := hqq.cells
                    have hge : 9223372036854775806 ≤ ov := by omega
                    have HBB := Lib.hid (below_then (below_then HX.out.1.b HX.out.1.b.size hba) (by have := HX.out.1.b.size; have := hba.size; omega) (below1 wa (.cells #[.slice pa 0 ca, .int .u64 0] 25)))
                    clear hq oa hba hqq hlim hE
                    go_wp2
                    go_ret
                    exact ⟨rfl, HBB.out⟩
                · have hE : endE ov l' (ov + x % 2) = 0 := by unfold endE; rw [if_pos HX.out.2.1, if_neg (by omega)]
                  rcases hq with ⟨_, hq⟩ | ⟨hq, _⟩
                  · obtain ⟨pa, ca, rfl, oa⟩ := ansQ_row hq
                    obtain ⟨za, hza⟩ : ∃ b, b = wa.heap.size := ⟨_, rfl⟩
                    obtain ⟨ov2, hov2⟩ : ∃ o, o = ov + x % 2 := ⟨_, rfl⟩
                    rw [← hov2]
                    have HO2 := Lib.hid (show ov ≤ ov2 ∧ ov2 ≤ 9223372036854775806 from by omega)
                    obtain ⟨na, hna⟩ : ∃ b, b = l'.length := ⟨_, rfl⟩
                    rw [← hna]
                    have hn' := HX.out.2.2.2.2.1
                    obtain ⟨wb, hwb⟩ : ∃ X : World, X = wa.alloc (.cells #[.slice pa na ca, .int .u64 ov2] 25) := ⟨_, rfl⟩
                    have hbb : Below wa.heap.size wa wb := by rw [hwb]; exact below1 _ _
                    have hab := below_then hba hba.size hbb
                    have hbx : QBox wb za (.slice pa na ca) ov2 := by rw [hwb, hza]; exact QBox.new _ _ _
                    have HB := Lib.hid (show WtI W z mb k ov p' n' c' l' (.slice pu n' cu) f wb ∧ QBox wb za (.slice pa na ca) ov2 ∧ CbOut (fun b => b ≤ mb ∨ some b = (Value.slice pu n' cu).ownBlock) wb (.slice pa na ca) l' from
                      ⟨HX.out.1.below hab, hbx, by
                        rw [hna]
                        refine ((cb_of_owns oa).below hbb).sub (fun b e => ?_)
                        have h1 := HX.out.1.map.lt
                        rcases e with e | e
                        · omega
                        · exact (HX.out.1.put.lt e.symm).2.1⟩)
                    have HWB := Lib.hid (And.intro hwb (And.intro hza (And.intro (show na = n' by omega) hn')))
                    clear hq oa hba hbb hab hbx hwb hza hna hE hlim hov2 hn'
                    go_upto_if 82 with fail
                    rw [← HWB.out.1, ← HWB.out.2.1]
                    obtain ⟨r0, r1⟩ := HB.out.2.1.cells
                    have m0 := HB.out.1.q.marks 0
                    have m1 := HB.out.1.q.marks 1
                    obtain ⟨q0, q1⟩ := HB.out.1.q.cells
                    obtain ⟨we, hwe⟩ : ∃ X : World, X = (wb.setCell ⟨z, 0, none⟩ (.slice pa na ca)).setCell ⟨z, 1, none⟩ (.int .u64 ov2) := ⟨_, rfl⟩
                    have HWE := Lib.hid hwe
                    have HFI := Lib.hid (HB.out.1.setq hwe HB.out.2.2)
                    clear hwe
                    go_wp2
                    go_meet
                    rw [← HWE.out]
                    exact ⟨pu, cu, ov2, pa, n', ca, k, l', f, rfl, by have h := HFI.out; rwa [HWB.out.2.2.1] at h, may_end HX.out.2.1 HO2.out.1 HO2.out.2, by have := HO2.out.1; omega, by have := HX.out.2.2.2.1; omega, HWB.out.2.2.2, fun d hd => by have := HX.out.2.2.2.2.2 d hd; omega⟩
                  · exact absurd hE hq
              · have h3' : (x % 3 == 0) = false := by rw [beq_eq_false_iff_ne]; exact h3
                have h3r : 1 ≤ x % 3 ∧ x % 3 ≤ 2 := by omega
                obtain ⟨a, ha⟩ : ∃ a, a = x % 3 := ⟨_, rfl⟩
                have hpc := put_c (.slice p' n' c') ov l' (i : Int) (x % 3) wr (HX.out.1.row.sub (fun _ h => False.elim h)) hov
                go_wp2_with fail
                (with_reducible refine hpc.mono ?_)
                rintro e wa ⟨hq, hba⟩
                rw [← ha] at h3r hq
                have HA := Lib.hid (And.intro ha h3r)
                clear hpc q0 q1 h3' h3
                rcases hq with ⟨hE, hq⟩ | ⟨hE, hq⟩
                · obtain ⟨pa, ca, rfl, oa⟩ := ansQ_row hq
                  obtain ⟨za, hza⟩ : ∃ b, b = wa.heap.size := ⟨_, rfl⟩
                  obtain ⟨na, hna⟩ : ∃ b, b = (l' ++ [(ov + a, (i : Int))]).length := ⟨_, rfl⟩
                  rw [← hna]
                  obtain ⟨wb, hwb⟩ : ∃ X : World, X = wa.alloc (.cells #[.slice pa na ca, .int .u64 ov] 25) := ⟨_, rfl⟩
                  have hbb : Below wa.heap.size wa wb := by rw [hwb]; exact below1 _ _
                  have hab := below_then hba hba.size hbb
                  have hbx : QBox wb za (.slice pa na ca) ov := by rw [hwb, hza]; exact QBox.new _ _ _
                  have hwa : IntKind.u64.wrap (ov + x % 3) = ov + x % 3 := wrap_u64 _ (by omega) (by omega)
                  have HB := Lib.hid (show Below wr.heap.size wr wb ∧ QBox wb za (.slice pa na ca) ov ∧ CbOut (fun b => b < wr.heap.size) wb (.slice pa na ca) (l' ++ [(ov + a, (i : Int))]) ∧ CbOut (fun b => wb.heap.size ≤ b) wb (.slice pa na ca) (l' ++ [(ov + a, (i : Int))]) ∧ wr.heap.size ≤ za ∧ za < wb.heap.size from
                    ⟨hab, hbx, by rw [hna]; exact (cb_of_owns oa).below hbb, by
                      rw [hna]
                      exact ((cb_of_owns oa).apart (T := fun b => wb.heap.size ≤ b) (fun b e => .inr (by have := hbb.size; omega))).below hbb, by have := hba.size; omega, hbx.lt⟩)
                  have HM := Lib.hid (show mayB ov (l' ++ [(ov + a, (i : Int))]) = true ∧ na = n' + 1 ∧ n' = l'.length ∧ n' ≤ 16 from ⟨may_put HX.out.2.1 hov hE, by rw [hna]; have := HX.out.2.2.2.2.1; simp; omega, HX.out.2.2.2.2.1, by have := HX.out.2.2.2.2.1; have := (may_split HX.out.2.1).2.1; omega⟩)
                  have HWB := Lib.hid (And.intro hwb hza)
                  clear hq oa hba hbb hab hbx hwb hza hna hE
                  go_upto_if 53 with fail
                  rw [← HWB.out.1, ← HWB.out.2]
                  clear HWB
                  obtain ⟨q0, q1⟩ := (HX.out.1.q.below HB.out.1).cells
                  obtain ⟨wc1, hwc1⟩ : ∃ X : World, X = wb.alloc (.cells #[.int .u64 (i : Int)] 23) := ⟨_, rfl⟩
                  have hbc : Below wb.heap.size wb wc1 := by rw [hwc1]; exact below1 _ _
                  have hbrc := below_then HB.out.1 HB.out.1.size hbc
                  have hcell : wc1.cell? ⟨wb.heap.size, 0, none⟩ = some (.int .u64 (i : Int)) := by rw [hwc1]; simp
                  have HPU := Lib.hid (show PutR (mb + 1) (.slice pu n' cu) (whats l') wc1 ∧ mb + 1 ≤ wc1.heap.size ∧ (whats l').length = n' from ⟨HX.out.1.put.below hbrc, by have := HX.out.1.map.lt; have := hbrc.size; omega, by rw [whats_len]; exact HM.out.2.2.1.symm⟩)
                  have HC1 := Lib.hid (And.intro hwc1 (And.intro hbrc (And.intro hbc hcell)))
                  clear hwc1 hbc hbrc hcell
                  go_upto_region 17 with (at_builtin; rw [← HC1.out.1]; refine wpList_app_put rfl _ _ rfl (mb + 1) (.slice pu n' cu) (whats l') rfl HPU.out.1 wb.heap.size 1 (i : Int) rfl HC1.out.2.2.2 (by have := HPU.out.2.2; have := HM.out.2.2.2; omega) HPU.out.2.1 ?_; intro g off r w2 hp hk2 hg; rw [HPU.out.2.2] at hp ⊢; obtain ⟨hq2, hx2, w4', hupd, hM4, hk4, hq4, hx4⟩ := mid_put HX.out.1 HC1.out.2.1 HC1.out.2.2.1 HB.out.2.1 HB.out.2.2.2.2.1 hk2 (ov + x % 3) (i : Int) (by omega) (by have := HX.out.2.2.2.1; omega); obtain ⟨q0', q1'⟩ := hq2.cells; have HMID := Lib.hid (And.intro hp (And.intro hk2 (And.intro hg (And.intro hM4 (And.intro hk4 (And.intro hq4 hx4)))))); clear hp hk2 hg hM4 hk4 hq2 hx2 hq4 hx4)
                  have m0 := HMID.out.2.2.2.2.2.1.marks 0
                  have m1 := HMID.out.2.2.2.2.2.1.marks 1
                  obtain ⟨r0, r1⟩ := HMID.out.2.2.2.2.2.2.cells
                  obtain ⟨z0, z1⟩ := HMID.out.2.2.2.2.2.1.cells
                  obtain ⟨we, hwe⟩ : ∃ X : World, X = (w4'.setCell ⟨z, 0, none⟩ (.slice pa na ca)).setCell ⟨z, 1, none⟩ (.int .u64 ov) := ⟨_, rfl⟩
                  go_wp2_with fail
                  go_meet
                  rw [← hwe]
                  have hfin := HX.out.1.app (d := (ov + a, (i : Int))) HC1.out.2.1 HMID.out.1 HMID.out.2.1 HMID.out.2.2.1 (by rw [HA.out.1]) rfl HMID.out.2.2.2.1 HMID.out.2.2.2.2.1 hwe (HB.out.2.2.1.below HC1.out.2.2.1) ((HB.out.2.2.2.1.below HC1.out.2.2.1).sub (fun b e => by have := HC1.out.2.2.1.size; omega)) (fun e he => by have := (HX.out.2.2.2.2.2 e he).2; show e.2 ≠ (i : Int); omega)
                  refine ⟨_, _, ov, pa, n' + 1, ca, k + 1, _, _, rfl, by have h := hfin; rwa [HM.out.2.1] at h, HM.out.1, HX.out.2.2.1, by have := HX.out.2.2.2.1; omega, by rw [List.length_append, ← HM.out.2.2.1]; rfl, fun d hd => ?_⟩
                  rcases List.mem_append.1 hd with hd | hd
                  · have := HX.out.2.2.2.2.2 d hd; omega
                  · rw [List.mem_singleton.1 hd]; show 0 ≤ (i : Int) ∧ (i : Int) < ((i + 1 : Nat) : Int); omega
                · obtain ⟨pa, ca, rfl, oa⟩ := ansQ_row hq
                  obtain ⟨E, hEe⟩ : ∃ E, E = putE ov l' a := ⟨_, rfl⟩
                  rw [← hEe] at hE ⊢
                  have hE' : (E == 0) = false := by rw [beq_eq_false_iff_ne]; exact hE
                  have HBB := Lib.hid (HX.out.1.below (below_then hba hba.size (below1 wa (.cells #[.slice pa 0 ca, .int .u64 0] 25))))
                  clear hq oa hba hEe
                  go_wp2
                  go_meet
                  exact ⟨pu, cu, ov, p', n', c', k, l', f, rfl, HBB.out, HX.out.2.1, HX.out.2.2.1, by have := HX.out.2.2.2.1; omega, HX.out.2.2.2.2.1, fun d hd => by have := HX.out.2.2.2.2.2 d hd; omega⟩
            case rest =>
              obtain ⟨pu, cu, ov, p', n', c', k, l', f, rfl, HX⟩ := hcut
              clear hx hxr h20' h20n
              obtain ⟨q0, q1⟩ := HX.out.1.q.cells
              have hov := HX.out.2.2.1
              have hsc := segments_c (.slice p' n' c') ov l' wc (HX.out.1.row.sub (fun _ h => False.elim h)) hov
              obtain ⟨s0, hs0⟩ : ∃ s, s = segN ov 0 l' := ⟨_, rfl⟩
              obtain ⟨s1, hs1⟩ : ∃ s, s = segN ov 1 l' := ⟨_, rfl⟩
              obtain ⟨s2, hs2⟩ : ∃ s, s = segN ov 2 l' := ⟨_, rfl⟩
              have hsv : segV ov l' = .agg #[.int .i64 (s0 : Int), .int .i64 (s1 : Int), .int .i64 (s2 : Int)] := by rw [hs0, hs1, hs2]; exact if_pos HX.out.2.1
              rw [hsv] at hsc
              have hsum : s0 + s1 + s2 = n' := by rw [hs0, hs1, hs2, segN_sum]; exact HX.out.2.2.2.2.1.symm
              have hn16 : n' ≤ 16 := by have := (may_split HX.out.2.1).2.1; have := HX.out.2.2.2.2.1; omega
              have HS := Lib.hid (And.intro hs0 (And.intro hsum hn16))
              clear hsv hs0 hs1 hs2
              go_wp2_with fail
              (with_reducible refine hsc.mono ?_)
              rintro e wd ⟨rfl, hbd⟩
              obtain ⟨zs, hzs⟩ : ∃ b, b = wd.heap.size := ⟨_, rfl⟩
              obtain ⟨we, hwe⟩ : ∃ X : World, X = wd.alloc (.cells #[.int .i64 (s0 : Int), .int .i64 (s1 : Int), .int .i64 (s2 : Int)] 48) := ⟨_, rfl⟩
              have hbe : Below wd.heap.size wd we := by rw [hwe]; exact below1 _ _
              have HI := Lib.hid (show WtI W z mb k ov p' n' c' l' (.slice pu n' cu) f we ∧ SgB we zs s0 s1 s2 from ⟨HX.out.1.below (below_then hbd hbd.size hbe), by rw [hwe, hzs]; exact SgB.new _ _ _ _⟩)
              have HWE := Lib.hid (And.intro hwe hzs)
              clear hsc hbd hbe hwe hzs q0 q1
              go_upto_region 25 with fail
              rw [← HWE.out.1, ← HWE.out.2]
              clear HWE
              obtain ⟨q0, q1⟩ := HI.out.1.q.cells
              obtain ⟨g0, g1, g2⟩ := HI.out.2.cells
              have hne : ((s0 : Int) + (s1 : Int) + (s2 : Int) != (n' : Int)) = false := by
                have : (s0 : Int) + (s1 : Int) + (s2 : Int) = (n' : Int) := by omega
                rw [this]; simp
              have hcc := check_c (.slice p' n' c') ov l' we (HI.out.1.row.sub (fun _ h => False.elim h)) hov
              have hck : chkE ov l' = 0 := if_pos HX.out.2.1
              rw [hck] at hcc
              clear hck
              go_wp2_with fail
              (with_reducible refine hcc.mono ?_)
              rintro e wf ⟨rfl, hbf⟩
              have HJ := Lib.hid (show WtI W z mb k ov p' n' c' l' (.slice pu n' cu) f wf ∧ SgB wf zs s0 s1 s2 from ⟨HI.out.1.below hbf, HI.out.2.below hbf⟩)
              clear hcc hbf HI q0 q1 g0 g1 g2 hne
              obtain ⟨q0, q1⟩ := HJ.out.1.q.cells
              have htc := take1_c (.slice p' n' c') ov l' wf (HJ.out.1.row.sub (fun _ h => False.elim h)) hov
              go_wp2_with fail
              (with_reducible refine htc.mono ?_)
              rintro e wg ⟨hq, hbg⟩
              clear htc q0 q1
              rcases take_case HX.out.2.1 with ⟨h0, hd⟩ | ⟨d, l2, rfl, hdo, h0, hdn⟩
              · have hE : takeE ov l' = 4 := by unfold takeE; rw [if_pos HX.out.2.1, if_pos hd]
                have hs0 : s0 = 0 := HS.out.1.trans h0
                rcases hq with ⟨hq, _⟩ | ⟨_, rfl⟩
                · rw [hE] at hq; cases hq
                · rw [hE]
                  have hb2 := below_then hbg hbg.size (below1 wg (.cells #[.slice none 0 0, .int .u64 0] 25))
                  have HK := Lib.hid (HJ.out.1.below hb2)
                  obtain ⟨g0, g1, g2⟩ := (HJ.out.2.below hb2).cells
                  subst hs0
                  clear hE h0 hd hbg hb2
                  go_wp2
                  go_roundw
                  case rel => exact ⟨i + 1, by omega, by omega, by go_num, pu, cu, ov, p', n', c', k, l', f, rfl, HK.out, HX.out.2⟩
                  case measure => simp [intOf]; omega
              · have hE : takeE ov (d :: l2) = 0 := by unfold takeE; rw [if_pos HX.out.2.1, if_neg (by rw [hdn]; simp)]
                rcases hq with ⟨_, v1, y, rfl, ho1, hy⟩ | ⟨hq, _⟩
                · obtain rfl := take_cell hdn hy
                  obtain ⟨p1, c1, rfl, -⟩ := id ho1.1
                  obtain ⟨n1, hn1⟩ : ∃ b, b = (List.drop 1 (d :: l2)).length := ⟨_, rfl⟩
                  rw [← hn1] at ho1 ⊢
                  have hd1 : List.drop 1 (d :: l2) = l2 := rfl
                  rw [hd1] at ho1 hn1
                  obtain ⟨zt, hzt⟩ : ∃ b, b = wg.heap.size := ⟨_, rfl⟩
                  obtain ⟨wh, hwh⟩ : ∃ X : World, X = wg.alloc (.cells #[.slice p1 n1 c1, .int .u64 ov] 25) := ⟨_, rfl⟩
                  have hbh : Below wg.heap.size wg wh := by rw [hwh]; exact below1 _ _
                  have hgh := below_then hbg hbg.size hbh
                  have HK := Lib.hid (show WtI W z mb k ov p' n' c' (d :: l2) (.slice pu n' cu) f wh ∧ SgB wh zs s0 s1 s2 ∧ QBox wh zt (.slice p1 n1 c1) ov ∧ CbOut (fun b => b < wf.heap.size) wh (.slice p1 n1 c1) l2 from
                    ⟨HJ.out.1.below hgh, HJ.out.2.below hgh, by rw [hwh, hzt]; exact QBox.new _ _ _, ho1.1.below hbh⟩)
                  have HWH := Lib.hid (And.intro hwh hzt)
                  have hs0 : (0 : Int) < (s0 : Int) := by have := HS.out.1; omega
                  have HN1 := Lib.hid (show n1 = l2.length ∧ n' = l2.length + 1 from ⟨hn1, HX.out.2.2.2.2.1⟩)
                  clear hE h0 hdn hbg hbh hgh hwh hzt ho1 hy hd1 hn1
                  go_upto_region 28 with fail
                  rw [← HWH.out.1, ← HWH.out.2]
                  clear HWH
                  obtain ⟨g0, g1, g2⟩ := HK.out.2.1.cells
                  have hs0b : decide (0 < s0) = true := decide_eq_true (by omega)
                  go_upto_region 31 with fail
                  clear g0 g1 g2 hs0 hs0b
                  obtain ⟨g, off, cp, hu, hcp1, hcp2, hgc⟩ := PutR.first (x := d.2) (xs := whats l2) HK.out.1.put
                  rw [whats_len] at hu hcp1
                  have hnl := HN1.out.2
                  subst hnl
                  injection hu with hu1 _ hu3
                  subst hu1 hu3
                  obtain ⟨gd, hfd, hgd1, hgd2, hbd⟩ := HK.out.1.due d (List.mem_cons_self ..)
                  have hlk := fun nq => (HK.out.1.map.below (below_drewN (Below.refl _ wh) nq)).look hfd (by have := HX.out.2.2.2.2.2 d (List.mem_cons_self ..); omega)
                  have hbdc := hbd.cell
                  obtain ⟨q0, q1⟩ := HK.out.1.q.cells
                  have hz0 : (((l2.length + 1 : Nat) : Int) == 0) = false := by rw [beq_eq_false_iff_ne]; omega
                  have hdd : (d.2 != d.2) = false := by simp
                  have hlt2 : decide (ov < d.1) = false := by rw [decide_eq_false_iff_not]; omega
                  have hpos : (0 : Int) < ((l2.length + 1 : Nat) : Int) := by omega
                  clear hfd hgd1 hgd2 hbd
                  go_quiet (fail)
                  clear hlk hbdc q0 q1 hz0 hdd hlt2 hpos hgc
                  go_upto_region 33 with fail
                  obtain ⟨wy, hwy⟩ : ∃ X : World, X = wh.drewN nq := ⟨_, rfl⟩
                  rw [← hwy]
                  have hby : Below wh.heap.size wh wy := by rw [hwy]; exact below_drewN (Below.refl _ _) _
                  have HY := Lib.hid (show WtI W z mb k ov p' (l2.length + 1) c' (d :: l2) (.slice (some ⟨g, off, none⟩) (l2.length + 1) cu) f wy ∧ QBox wy zt (.slice p1 n1 c1) ov ∧ CbOut (fun b => b ≤ mb ∨ b = g) wy (.slice p1 n1 c1) l2 from
                    ⟨HK.out.1.below hby, HK.out.2.2.1.below hby, (HK.out.2.2.2.below hby).sub (fun b e => by
                      rcases e with e | e
                      · have := HJ.out.1.map.lt; omega
                      · rw [e]; exact (HJ.out.1.put.lt (g := g) rfl).2.1)⟩)
                  clear hwy hby HK
                  obtain ⟨r0, r1⟩ := HY.out.2.1.cells
                  obtain ⟨z0, z1⟩ := HY.out.1.q.cells
                  have m0 := HY.out.1.q.marks 0
                  have m1 := HY.out.1.q.marks 1
                  have hsl := run_rest g off (l2.length + 1) cu (by omega) hcp1 hcp2
                  go_region
                  obtain ⟨wz, hwz⟩ : ∃ X : World, X = (wy.setCell ⟨z, 0, none⟩ (.slice p1 n1 c1)).setCell ⟨z, 1, none⟩ (.int .u64 ov) := ⟨_, rfl⟩
                  rw [← hwz]
                  have hfi := (HY.out.1.take hwz HY.out.2.2).below ((Below.refl _ wz).drew)
                  have hnl2 := HN1.out.1
                  subst hnl2
                  have HFI := Lib.hid hfi
                  clear hwz hfi r0 r1 z0 z1 m0 m1 hsl
                  go_wp2
                  go_roundw
                  case rel => exact ⟨i + 1, by omega, by omega, by go_num, restA g off cu, cu - 1, ov, p1, l2.length, c1, k, l2, f, rfl, HFI.out, may_drop HX.out.2.1, hov, HX.out.2.2.2.1, rfl, fun e he => HX.out.2.2.2.2.2 e (List.mem_cons_of_mem _ he)⟩
                  case measure => simp [intOf]; omega
                · exact absurd hE hq
        · go_wp2
          go_meet
          exact ⟨pu, cu, ov, p', n', c', k, l', f, rfl, HX.out.1, HX.out.2.1, HX.out.2.2.1, by have := HX.out.2.2.2.1; omega, HX.out.2.2.2.2.1, fun d hd => by have := HX.out.2.2.2.2.2 d hd; omega⟩
    case rest =>
      obtain ⟨pu, cu, ov, p', n', c', k, l', f, rfl, HX⟩ := hcut
      obtain ⟨q0, q1⟩ := HX.out.1.q.cells
      have hnn : ((n' : Int) == (n' : Int)) = true := by simp
      go_wp2
      go_ret
      exact ⟨rfl, HX.out.1.b⟩
  · have hE : chkE over ls = 230 := if_neg hm0
    rw [hE]
    have hsc := segments_c (.slice p n c) over ls w4 (HQ4.out.row.sub (fun _ h => False.elim h)) ho
    have hsv : segV over ls = .agg #[.int .i64 0, .int .i64 0, .int .i64 0] := if_neg hm0
    rw [hsv] at hsc
    have hz3 := run_seg_zero
    clear hsv hE hm0
    go_wp2_with fail
    (with_reducible refine hsc.mono ?_)
    rintro e w5 ⟨rfl, hb5⟩
    go_wp2
    go_ret
    exact ⟨rfl, below_then HQ4.out.b HQ4.out.b.size hb5⟩

end Go.Proofs.Ytdagcimkajmkaaa
namespace Go.Proofs.Ytdagcimkajmkaaa
open Go.RowKit Go.Shelf
open Go.ChangeShapes Go.WideShapes Go.ChangeAt Go.Deep
open Go.ChangeMaps (open_string shut_string)

set_option maxRecDepth 100000 in
theorem queueWaits_lifted (os : Os) (started : os.Started) (H : Type) (enc : TypeId × Value → H) :
    ReturnsInHanded {} Try.checked os 5 .any (Rows.queueWaitsSpec.pre6 enc Try.prog Try.f5 Rows.queueWaitsRow.domain false) (Rows.queueWaitsSpec.post enc Try.prog Try.f5 false true false false) := by
  refine returnsInHanded_of_change (C := Try.checked) own started (by kernel_rfl) Try.func5
    (ChangeSpec.witness6 (enc := enc) (C := Try.checked) false ⟨#[], #[.agg #[.slice none 0 0, .int .u64 0], .slice none 0 0], []⟩ 8 (by kernel_rfl) (by kernel_rfl) (by kernel_rfl) (by kernel_rfl)) ?_
  intro W base args ds gs before hval0 hW hcnd _
  have hval : ∀ (j : Nat) t v, Try.f5.params[j]? = some t → args[j]? = some v → Value.okWide Try.prog W .any base t v := hval0
  have hW' := hW
  obtain ⟨p, q, hA0, hV, rfl, hfz, hnd⟩ := hW
  have hA : DataW.TrodAll enc Try.prog W 0 (fun _ => true) true Try.f5.params.toList args.toList ds p := hA0
  rw [Try.params5] at hA hval
  have hA2 := hA
  obtain ⟨v0, vs0, d0, ds0, pp0, qq0, hargs, rfl, rfl, h0, r0⟩ := trodAll_cons hA
  obtain ⟨v1, vs1, d1, ds1, pp1, qq1, rfl, rfl, rfl, h1, r1⟩ := trodAll_cons r0
  obtain ⟨rfl, rfl, rfl⟩ := trodAll_nil r1
  obtain rfl : args = #[v0, v1] := by cases args; simp_all
  obtain ⟨rfl, rfl⟩ := trodVars_none hV
  obtain ⟨u0, k0, x0, rfl, a0, z0, g0, i0, s0⟩ := queue_open (hval 0 25 v0 rfl rfl) h0
  obtain ⟨x1, a1, g1, l1⟩ := nums_open Try.underlying26 Try.underlying23 (by kernel_rfl) (hval 1 26 v1 rfl rfl) h1
  clear hA0 hval0
  simp only [List.append_nil] at hW'
  refine (queueWaits_c u0 k0 x0 v1 x1 W a0 z0 i0 (fun c hc => (g0 c hc).1) a1 l1 (rg_u64 g1)).mono fun e W' ⟨he, hb⟩ => ?_
  subst he
  exact ⟨_, rfl, _, _, _, [], _, [], hW', trodAll_cons_mk (shut_bool Try.underlying4 _) trodAll_mk0, trodAll_stays laidOut hb (by kernel_rfl) hA2 (fun x hx => by simpa using hW'.lt x (by simpa using hx)), rfl, hb.frame _, fun h => by cases h⟩

theorem queueWaits_holds : Rows.QueueWaitsSaid :=
  OpenClaim.holds_of_wide 5 Try.f5 rfl rfl rfl rfl rfl rfl rfl ⟨rfl, rfl, rfl, rfl, rfl⟩ rfl rfl rfl rfl rfl (by kernel_rfl) Try.func5 (by kernel_rfl)
    (of_decide_eq_true (by kernel_rfl)) (by unfold Func.isWrapper; first | (rw [if_pos (by decide +kernel)]; kernel_rfl) | (rw [if_neg (by decide +kernel)]; exact ⟨rfl, rfl⟩))
    (fun os started H enc _ => queueWaits_lifted os started H enc)

end Go.Proofs.Ytdagcimkajmkaaa
