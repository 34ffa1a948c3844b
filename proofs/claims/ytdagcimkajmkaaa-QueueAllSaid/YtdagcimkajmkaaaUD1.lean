/-
  Package queue: Join.
  Conditions: the ranges of Go's types.
-/
import Derived.Test.YtdagcimkajmkaaaUA4
import Derived.Test.YtdagcimkajmkaaaUA2
import Derived.Maps.OwnSet
import Derived.Maps.OwnIn
import Derived.Maps.OwnOps
import Derived.ArgAppend
import Derived.Deep.Upon
import Derived.Deep.DeepCutAuto
import Derived.BigQuiet
import Derived.Deep.QuietTactic
/-
  The reference of layer 13: Drain.
  Conditions: the queue may be.
-/
namespace Go.Proofs.Ytdagcimkajmkaaa
set_option maxRecDepth 100000
open Go.RowKit Go.Shelf
attribute [local go_sem] Oper.semAt_some

/-- append of one word that has just been laid. -/
theorem wpList_app_word {ops : Array Oper} {rest : List Oper} {o : Oper} {a : Act} {Q : Exit → Act → World → Prop} {w : World} (hgd : o.guard = none) (s x : Operand)
    (ho : o.op = .call { callee := .builtin .append, args := #[s, x], argTypes := #[26, 26] })
    (B : Nat) (v : Value) (n : Nat) (l : List Int) (hs : a.eval s = v) (hown : w.ownsRow B 23 1 v n (l.map (Value.int .u64)))
    (b c : Nat) (y : Int) (hx : a.eval x = .slice (some ⟨b, 0, none⟩) 1 c) (h0 : w.cell? ⟨b, 0, none⟩ = some (.int .u64 y)) (hl : n ≤ 1000000) (hB : B ≤ w.heap.size)
    (h : ∀ q r w', w'.ownsRow B 23 1 (.slice q (n + 1) r) (n + 1) ((l ++ [y]).map (Value.int .u64)) → Keeps (fun k => some k = v.ownBlock) w w' → wpList Try.prog ops Q rest (a.put o.dst (.slice q (n + 1) r)) w') :
    wpList Try.prog ops Q (o :: rest) a w := by
  obtain ⟨i0, hi, hz0, hz1, hz2⟩ := info_parts info_w
  refine wpList_append_own w hgd s x 26 ho B 23 i0 (.int .u64 0) 1 8 Try.underlying26 hi hz0 hz1 hz2 rfl (by decide) v n _ hs hown ⟨b, 0, none⟩ 1 c [.int .u64 y] hx rfl (fun j u hj => ?_) (fun u hu => by rw [List.mem_singleton.1 hu]; rfl) (by unfold maxLen; omega) (by omega) hB fun v' w' h2 h3 _ => ?_
  · rw [addr_add_off, Nat.zero_add]
    match j, hj with
    | 0, hj => simp only [List.getElem?_cons_zero, Option.some.injEq] at hj; rw [← hj]; exact h0
  · have e : l.map (Value.int .u64) ++ [.int .u64 y] = (l ++ [y]).map (Value.int .u64) := by simp
    rw [e] at h2
    obtain ⟨q, r, rfl⟩ := owns_slice h2
    exact h q r w' h2 ⟨h3.os, h3.tape, h3.output, h3.size, fun k hk hn => h3.block k hk (fun e => hn e)⟩

theorem dones_prefix (over : Int) : ∀ l, dones over l = l.take (dones over l).length
  | [] => rfl
  | c :: l => by
    unfold dones
    split
    · have := dones_prefix over l
      simp only [List.length_cons, List.take_succ_cons]
      rw [← this]
    · rfl
theorem dones_in (over : Int) : ∀ (l : List (Int × Int)) (i : Nat) (h : i < l.length), i < (dones over l).length → l[i].1 ≤ over
  | c :: l, i, h, hd => by
    unfold dones at hd
    split at hd
    · rename_i hc
      cases i with
      | zero => exact hc
      | succ i => exact dones_in over l i (by simpa using h) (by simpa using hd)
    · simp at hd
theorem dones_out (over : Int) : ∀ (l : List (Int × Int)) (least : Int), srtB least l = true → ∀ (i : Nat) (h : i < l.length), (dones over l).length ≤ i → over < l[i].1
  | c :: l, least, hs, i, h, hd => by
    have hs' : least ≤ c.1 ∧ srtB c.1 l = true := by
      have : (decide (least ≤ c.1) && srtB c.1 l) = true := hs
      simpa using this
    unfold dones at hd
    split at hd
    · rename_i hc
      cases i with
      | zero => simp at hd
      | succ i => exact dones_out over l c.1 hs'.2 i (by simpa using h) (by simpa using hd)
    · rename_i hc
      cases i with
      | zero => simp only [List.getElem_cons_zero]; omega
      | succ i =>
        simp only [List.getElem_cons_succ]
        have := (srt_last l c.1 hs'.2 (l[i]'(by simpa using h)) (List.getElem_mem _)).1
        omega
theorem rd_in {over : Int} {l : List (Int × Int)} {mo k i : Nat} (hk : k = ((dones over l).take mo).length) (h : i < l.length) (hi : i < k) : l[i].1 ≤ over ∧ i < mo := by
  rw [List.length_take] at hk
  exact ⟨dones_in over l i h (by omega), by omega⟩
theorem rd_out {over : Int} {l : List (Int × Int)} {mo k i : Nat} (hs : srtB 0 l = true) (hk : k = ((dones over l).take mo).length) (h : i < l.length) (hi : k ≤ i) : over < l[i].1 ∨ mo ≤ k := by
  rw [List.length_take] at hk
  by_cases hm : mo ≤ k
  · exact .inr hm
  · exact .inl (dones_out over l 0 hs i h (by omega))
theorem rd_take {over : Int} {l : List (Int × Int)} {mo k : Nat} (hk : k = ((dones over l).take mo).length) : l.take k = (dones over l).take mo := by
  have h1 := dones_prefix over l
  rw [List.length_take] at hk
  have h2 : (dones over l).take mo = (l.take (dones over l).length).take mo := by rw [← h1]
  rw [h2, List.take_take, ← hk]

/-- Between two rounds. -/
structure RdI (W : World) (v : Value) (over : Int) (l : List (Int × Int)) (k i : Nat) (pl : Option Addr) (nl cl : Nat) (po : Option Addr) (no co : Nat) (w : World) : Prop where
  q : QBox w W.heap.size v over
  r : QBox w (W.heap.size + 1) (.slice none 0 0) 0
  cb : CbOut (fun q => W.heap.size ≤ q) w v l
  lf : w.ownsRow (W.heap.size + 2) 53 2 (.slice pl nl cl) nl (cvs ((l.take i).drop (min i k)))
  ow : w.ownsRow (W.heap.size + 2) 23 1 (.slice po no co) no ((whats (l.take (min i k))).map (Value.int .u64))
  b : Below W.heap.size W w
  z : W.heap.size + 2 ≤ w.heap.size
  no : no = min i k ∧ no + nl = i
theorem RdI.below {W : World} {v : Value} {over : Int} {l : List (Int × Int)} {k i : Nat} {pl : Option Addr} {nl cl : Nat} {po : Option Addr} {no co : Nat} {w w' : World} (h : RdI W v over l k i pl nl cl po no co w) (hb : Below w.heap.size w w') : RdI W v over l k i pl nl cl po no co w' :=
  ⟨h.q.below hb, h.r.below hb, h.cb.below hb, owns_below h.lf hb, owns_below h.ow hb, below_then h.b h.b.size hb, Nat.le_trans h.z hb.size, h.no⟩
theorem RdI.took {W : World} {v : Value} {over : Int} {l : List (Int × Int)} {k i : Nat} {pl : Option Addr} {nl cl : Nat} {po : Option Addr} {no co : Nat} {w w' : World} {q : Option Addr} {r : Nat} {x y : Int} (h : RdI W v over l k i pl nl cl po no co w) (hil : i < l.length) (hik : i < k) (hxy : l[i] = (x, y))
    (ho : w'.ownsRow (W.heap.size + 2) 23 1 (.slice q (no + 1) r) (no + 1) ((whats (l.take (min i k)) ++ [y]).map (Value.int .u64))) (hk : Keeps (fun b => some b = (Value.slice po no co).ownBlock) w w') : RdI W v over l k (i + 1) pl nl cl q (no + 1) r w' := by
  have hs : ∀ b, some b = (Value.slice po no co).ownBlock → W.heap.size + 2 ≤ b := fun b e => (h.ow.lt b e.symm).1
  have hno := h.no
  have hz := h.z
  have e1 : min i k = i := by omega
  have e2 : min (i + 1) k = i + 1 := by omega
  have htk := List.take_succ_eq_append_getElem hil
  refine ⟨h.q.keeps hk (fun e => by have := hs _ e; omega), h.r.keeps hk (fun e => by have := hs _ e; omega), h.cb.keeps (hk.sub (fun b _ e => by have := hs b e; omega)), ?_, ?_, h.b.trans (hk.below h.b.size (fun b e => by have := hs b e; omega)), Nat.le_trans h.z hk.size, by omega⟩
  · have := hk.row h.lf (fun g hg hgs => owns_ne h.lf h.ow (by decide) hg hgs.symm rfl)
    rw [e2]
    rw [e1] at this
    have n0 : nl = 0 := by omega
    subst n0
    have d1 : (l.take (i + 1)).drop (i + 1) = [] := List.drop_eq_nil_of_le (by rw [List.length_take]; omega)
    have d2 : (l.take i).drop i = [] := List.drop_eq_nil_of_le (by rw [List.length_take]; omega)
    rw [d1]; rw [d2] at this; exact this
  · rw [e2, htk, hxy]
    rw [e1] at ho
    have : whats (l.take i ++ [(x, y)]) = whats (l.take i) ++ [y] := by simp [whats]
    rw [this]
    exact ho
theorem RdI.left {W : World} {v : Value} {over : Int} {l : List (Int × Int)} {k i : Nat} {pl : Option Addr} {nl cl : Nat} {po : Option Addr} {no co : Nat} {w w' : World} {q : Option Addr} {r : Nat} {x y : Int} (h : RdI W v over l k i pl nl cl po no co w) (hil : i < l.length) (hik : k ≤ i) (hxy : l[i] = (x, y))
    (ho : w'.ownsRow (W.heap.size + 2) 53 2 (.slice q (nl + 1) r) (nl + 1) (cvs ((l.take i).drop (min i k) ++ [(x, y)]))) (hk : Keeps (fun b => some b = (Value.slice pl nl cl).ownBlock) w w') : RdI W v over l k (i + 1) q (nl + 1) r po no co w' := by
  have hs : ∀ b, some b = (Value.slice pl nl cl).ownBlock → W.heap.size + 2 ≤ b := fun b e => (h.lf.lt b e.symm).1
  have hno := h.no
  have hz := h.z
  have e1 : min i k = k := by omega
  have e2 : min (i + 1) k = k := by omega
  have htk := List.take_succ_eq_append_getElem hil
  refine ⟨h.q.keeps hk (fun e => by have := hs _ e; omega), h.r.keeps hk (fun e => by have := hs _ e; omega), h.cb.keeps (hk.sub (fun b _ e => by have := hs b e; omega)), ?_, ?_, h.b.trans (hk.below h.b.size (fun b e => by have := hs b e; omega)), Nat.le_trans h.z hk.size, by omega⟩
  · rw [e2, htk, hxy, List.drop_append_of_le_length (by rw [List.length_take]; omega)]
    rw [e1] at ho
    exact ho
  · have := hk.row h.ow (fun g hg hgs => owns_ne h.ow h.lf (by decide) hg hgs.symm rfl)
    rw [e2]; rw [e1] at this; exact this
/-- What it answers. -/
def RDrainQ (B : Nat) (over : Int) (l : List (Int × Int)) (mo : Nat) (e : Ending) (w' : World) : Prop := ∃ k p n c po co, k = ((dones over l).take mo).length ∧ e = .returned (.tuple #[.agg #[.slice p n c, .int .u64 over], .slice po k co]) ∧ w'.ownsRow B 53 2 (.slice p n c) n (cvs (l.drop k)) ∧ w'.ownsRow B 23 1 (.slice po k co) k ((whats ((dones over l).take mo)).map (Value.int .u64))

set_option maxHeartbeats 16000000 in
theorem rdrain_c (v : Value) (over : Int) (l : List (Int × Int)) (mo : Nat) (W : World) (hv : CbOut NoS W v l) (ho : 0 ≤ over) (hm : mayB over l = true) (hmo : mo ≤ 9223372036854775807) :
    Calls Try.prog 16 #[.agg #[v, .int .u64 over], .int .i64 (mo : Int)] W fun e w' => RDrainQ W.heap.size over l mo e w' ∧ Below W.heap.size W w' := by
  have hsr : srtB 0 l = true := by
    rw [may_srt over l ho] at hm
    simp only [Bool.and_eq_true] at hm
    exact hm.1.1.1
  obtain ⟨hg1, hg2, -⟩ := may_parts hm
  obtain ⟨K, hK⟩ : ∃ K, K = ((dones over l).take mo).length := ⟨_, rfl⟩
  have hKl : K ≤ l.length := by rw [hK, List.length_take]; have := dones_len over l; omega
  obtain ⟨w0, hw0⟩ : ∃ X : World, X = (W.alloc (.cells #[v, .int .u64 over] 25)).alloc (.cells #[.slice none 0 0, .int .u64 0] 25) := ⟨_, rfl⟩
  have hb0 : Below W.heap.size W w0 := by rw [hw0]; exact below2 _ _ _
  have HI0 := Lib.hid (show RdI W v over l K 0 none 0 0 none 0 0 w0 from ⟨by rw [hw0]; exact (QBox.new W _ _).below (below1 _ _), by
      rw [hw0]
      have := QBox.new (W.alloc (.cells #[v, .int .u64 over] 25)) (.slice none 0 0) 0
      rwa [World.size_alloc] at this, (hv.apart (T := fun q => W.heap.size ≤ q) (fun q h => .inr h)).below hb0, by simpa [cvs] using World.ownsRow_nil _ _ _ _, by simpa [whats] using World.ownsRow_nil _ _ _ _, hb0, by rw [hw0]; simp, by simp⟩)
  obtain ⟨p, c, rfl, hlc, hcm, -⟩ := hv
  obtain ⟨n, hn⟩ : ∃ n, n = l.length := ⟨_, rfl⟩
  rw [← hn] at HI0 hlc hg2 hKl hw0 ⊢
  have HW0 := Lib.hid hw0
  have HN := Lib.hid (And.intro hn (And.intro hK hsr))
  have HKL := Lib.hid hKl
  obtain ⟨q0, q1⟩ := HI0.out.q.cells
  rw [hw0] at q0 q1
  clear hw0 hb0 hn hK hsr hm hKl
  go_enter Try.func16, Try.ntmps16
  go_wp2
  rw [← HW0.out]
  clear HW0 q0 q1
  go_loopw [6, 7, 13] (fun vl vo iv wr => ∃ (i : Nat) (pl : Option Addr) (nl cl : Nat) (po : Option Addr) (no co : Nat), i ≤ n ∧ iv = .int .i64 (i : Int) ∧ vl = .slice pl nl cl ∧ vo = .slice po no co ∧ no + nl = i ∧ Hid (RdI W (.slice p n c) over l K i pl nl cl po no co wr)) (fun _ _ iv _ => n - (intOf iv).toNat)
  case atStart => exact ⟨0, none, 0, 0, none, 0, 0, Nat.zero_le _, rfl, rfl, rfl, rfl, HI0⟩
  case round =>
    clear HI0
    obtain ⟨i, pl, nl, cl, po, no, co, hi, rfl, rfl, rfl, hsum, HX⟩ := hrel
    by_cases hlt : i < n
    · have hil : i < l.length := by have := HN.out.1; omega
      have hne : l ≠ [] := by rintro rfl; simp at hil
      obtain ⟨p', cap', e, -, -, hc⟩ := HX.out.cb
      injection e with e1 e2 e3
      subst e1 e3
      obtain ⟨b, off, rfl, -, hcs⟩ := hc hne
      obtain ⟨hx, hy⟩ := hcs i hil
      obtain ⟨x, hxe⟩ : ∃ x, x = l[i].1 := ⟨_, rfl⟩
      obtain ⟨y, hye⟩ : ∃ y, y = l[i].2 := ⟨_, rfl⟩
      have hxy : l[i] = (x, y) := by rw [hxe, hye]
      have hin := fun h : i < K => rd_in HN.out.2.1 hil h
      have hout := fun h : K ≤ i => rd_out HN.out.2.2 HN.out.2.1 hil h
      rw [← hxe] at hx hin hout
      rw [← hye] at hy
      have hbl := World.block_lt_of_cell? wr _ hx
      obtain ⟨w1, hw1⟩ : ∃ X : World, X = wr.alloc (.cells #[.int .u64 x, .int .u64 y] 53) := ⟨_, rfl⟩
      have hb1 : Below wr.heap.size wr w1 := by rw [hw1]; exact below1 _ _
      have HX1 := Lib.hid (HX.out.below hb1)
      have HC1 := Lib.hid (show CBox w1 wr.heap.size x y by rw [hw1]; exact CBox.new _ _ _)
      have HW1 := Lib.hid hw1
      have HXY := Lib.hid hxy
      have HII := Lib.hid (And.intro hin hout)
      have hi0 : (0 : Int) ≤ (i : Int) := by omega
      have hlt' : (i : Int) < (n : Int) := by omega
      clear hc hcs hxe hye hxy hne e2 hb1 hw1 hin hout
      go_upto_region 6 with fail
      rw [← HW1.out]
      clear HW1 hx hy hbl
      obtain ⟨cz, hcz⟩ : ∃ z, z = wr.heap.size := ⟨_, rfl⟩
      rw [← hcz] at HC1 ⊢
      clear hcz
      obtain ⟨q0, q1⟩ := HX1.out.q.cells
      obtain ⟨k0, k1⟩ := HC1.out.cells
      have hno := HX1.out.no
      by_cases hik : i < K
      · obtain ⟨h1, h2⟩ := HII.out.1 hik
        have h3 : (no : Int) < (mo : Int) := by omega
        have HIK := Lib.hid hik
        clear hik hno h2
        go_upto_region 9 with (at_builtin; refine wpList_app_word rfl _ _ rfl (W.heap.size + 2) (.slice po no co) no (whats (l.take (min i K))) rfl (owns_below HX1.out.ow (below1 _ _)) w1.heap.size 1 y rfl (by simp) (by omega) (by have := HX1.out.z; rw [World.size_alloc]; omega) ?_; intro q r w2 ho2 hk2; have HX2 := Lib.hid ((HX1.out.below (below1 w1 (.cells #[.int .u64 y] 23))).took hil HIK.out HXY.out ho2 hk2); clear ho2 hk2)
        go_wp2
        go_roundw
        case rel => exact ⟨i + 1, pl, nl, cl, _, no + 1, _, by omega, by go_num, rfl, rfl, by omega, HX2⟩
        case measure => simp [intOf]; omega
      · have hki : K ≤ i := by omega
        have HKI := Lib.hid hki
        have hcase : over < x ∨ (x ≤ over ∧ (mo : Int) ≤ (no : Int)) := by
          rcases HII.out.2 hki with h | h
          · exact .inl h
          · by_cases hx : over < x
            · exact .inl hx
            · exact .inr ⟨by omega, by omega⟩
        clear hik hno hki
        rcases hcase with h1 | ⟨h1, h2⟩
        all_goals
          go_upto_region 9 with (at_builtin; refine wpList_app_one rfl _ _ rfl (W.heap.size + 2) (.slice pl nl cl) nl ((l.take i).drop (min i K)) (by have := HX1.out.lf.1; rw [cvs_len] at this; omega) rfl (owns_below HX1.out.lf (below1 _ _)) w1.heap.size 1 x y rfl (by simp) (by simp) (by omega) (by have := HX1.out.z; rw [World.size_alloc]; omega) ?_; intro q r w2 ho2 hk2; have HX2 := Lib.hid ((HX1.out.below (below1 w1 (.cells #[.int .u64 x, .int .u64 y] 53))).left hil HKI.out HXY.out ho2 hk2); clear ho2 hk2)
          go_wp2
          go_roundw
          case rel => exact ⟨i + 1, _, nl + 1, _, po, no, co, by omega, by go_num, rfl, rfl, by omega, HX2⟩
          case measure => simp [intOf]; omega
    · have hin : i = n := by omega
      have hno := HX.out.no
      have hmk : min i K = K := by have := HKL.out; omega
      have hlf := HX.out.lf
      have how := HX.out.ow
      rw [hmk, show l.take i = l by rw [hin, HN.out.1, List.take_length]] at hlf
      rw [hmk, rd_take HN.out.2.1] at how
      have hnk : no = K := by omega
      subst hnk
      obtain ⟨q0, q1⟩ := HX.out.q.cells
      have m0 := HX.out.q.marks 0
      obtain ⟨w1, hw1⟩ : ∃ X : World, X = wr.setCell ⟨W.heap.size, 0, none⟩ (.slice pl nl cl) := ⟨_, rfl⟩
      have hk1 : Keeps (fun q => q = W.heap.size) wr w1 := by rw [hw1]; exact set1K _ _ 0 _
      have hq1 : QBox w1 W.heap.size (.slice pl nl cl) over := by rw [hw1]; exact HX.out.q.put0 _
      have hr1 := HX.out.r.keeps hk1 (by omega)
      have hb1 : Below W.heap.size W w1 := HX.out.b.trans (hk1.below HX.out.b.size (fun k e => by omega))
      have hl1 := hk1.row hlf (fun g e => by have := (hlf.lt g e).1; omega)
      have ho1 := hk1.row how (fun g e => by have := (how.lt g e).1; omega)
      obtain ⟨w2, hw2⟩ : ∃ X : World, X = (w1.setCell ⟨W.heap.size + 1, 0, none⟩ (.slice pl nl cl)).setCell ⟨W.heap.size + 1, 1, none⟩ (.int .u64 over) := ⟨_, rfl⟩
      have hk2 : Keeps (fun q => q = W.heap.size + 1) w1 w2 := by rw [hw2]; exact QBox.putK _ _ _ _
      have H2 := Lib.hid (show QBox w2 (W.heap.size + 1) (.slice pl nl cl) over ∧ w2.ownsRow (W.heap.size + 2) 53 2 (.slice pl nl cl) nl (cvs (l.drop no)) ∧ w2.ownsRow (W.heap.size + 2) 23 1 (.slice po no co) no ((whats ((dones over l).take mo)).map (Value.int .u64)) ∧ Below W.heap.size W w2 from ⟨by rw [hw2]; exact hr1.put _ _, hk2.row hl1 (fun g e => by have := (hl1.lt g e).1; omega), hk2.row ho1 (fun g e => by have := (ho1.lt g e).1; omega), hb1.trans (hk2.below hb1.size (fun k e => by omega))⟩)
      have HQ1 := Lib.hid hq1
      have HR1 := Lib.hid hr1
      have HW1 := Lib.hid hw1
      have HW2 := Lib.hid hw2
      clear hin hno hmk hlf how hw1 hk1 hq1 hr1 hb1 hl1 ho1 hw2 hk2
      go_upto_region 11 with fail
      rw [← HW1.out]
      clear HW1 q0 q1 m0
      obtain ⟨q0, q1⟩ := HQ1.out.cells
      obtain ⟨r0, r1⟩ := HR1.out.cells
      have m0 := HR1.out.marks 0
      have m1 := HR1.out.marks 1
      go_wp2
      rw [← HW2.out]
      exact bodyPost_ret (results_ct rfl _ _ _ rfl rfl (queue_load H2.out.1)) rfl ⟨⟨no, pl, nl, cl, po, co, HN.out.2.1, rfl, H2.out.2.1.mono (by omega), H2.out.2.2.1.mono (by omega)⟩, H2.out.2.2.2⟩

end Go.Proofs.Ytdagcimkajmkaaa
/-
  What QueueWaits keeps: the row of what is put, the map of the periods, and mathematics of queues.
  Conditions: as each has them.
-/
namespace Go.Proofs.Ytdagcimkajmkaaa
set_option maxRecDepth 100000
open Go.RowKit Go.Shelf Go.Maps

/-! ## Mathematics -/
theorem srt_snoc (c : Int × Int) : ∀ (l : List (Int × Int)) (least : Int), srtB least l = true → (∀ d ∈ l, d.1 ≤ c.1) → least ≤ c.1 → srtB least (l ++ [c]) = true
  | [], least, _, _, h => by simp [srtB, h]
  | d :: l, least, h, hall, hc => by
    have h' : (decide (least ≤ d.1) && srtB d.1 l) = true := h
    rw [Bool.and_eq_true] at h'
    show (decide (least ≤ d.1) && srtB d.1 (l ++ [c])) = true
    rw [h'.1, Bool.true_and]
    exact srt_snoc c l d.1 h'.2 (fun e he => hall e (List.mem_cons_of_mem _ he)) (hall d (List.mem_cons_self ..))
theorem srt_weak {m least : Int} {l : List (Int × Int)} (h : srtB least l = true) (hm : m ≤ least) : srtB m l = true := by
  cases l with
  | nil => rfl
  | cons d l =>
    have h' : (decide (least ≤ d.1) && srtB d.1 l) = true := h
    rw [Bool.and_eq_true, decide_eq_true_eq] at h'
    show (decide (m ≤ d.1) && srtB d.1 l) = true
    rw [decide_eq_true (by omega), h'.2]; rfl
theorem may_mk {over : Int} {l : List (Int × Int)} (h1 : over ≤ 9223372036854775806) (h2 : l.length ≤ 16) (h3 : srtB 0 l = true) (h4 : ∀ c ∈ l, c.1 ≤ over + 2) : mayB over l = true := by
  unfold mayB
  rw [decide_eq_true h1, decide_eq_true h2, (up_iff over l 0).2 ⟨h3, h4⟩]; rfl
theorem may_split {over : Int} {l : List (Int × Int)} (h : mayB over l = true) : over ≤ 9223372036854775806 ∧ l.length ≤ 16 ∧ srtB 0 l = true ∧ ∀ c ∈ l, c.1 ≤ over + 2 := by
  obtain ⟨h1, h2, h3⟩ := may_parts h
  exact ⟨h1, h2, (up_iff over l 0).1 h3⟩
theorem may_end {over x : Int} {l : List (Int × Int)} (h : mayB over l = true) (h1 : over ≤ x) (h2 : x ≤ 9223372036854775806) : mayB x l = true := by
  obtain ⟨a, b, c, d⟩ := may_split h
  exact may_mk h2 b c (fun e he => by have := d e he; omega)
theorem may_put {over a x : Int} {l : List (Int × Int)} (h : mayB over l = true) (ho : 0 ≤ over) (hp : putE over l a = 0) : mayB over (l ++ [(over + a, x)]) = true := by
  obtain ⟨h1, h2, h3, h4⟩ := may_split h
  unfold putE at hp
  rw [if_pos h] at hp
  split at hp
  · cases hp
  · rename_i ha
    split at hp
    · rename_i hal
      split at hp
      · cases hp
      · rename_i hl
        unfold allowsB at hal
        simp only [Bool.and_eq_true, decide_eq_true_eq] at hal
        refine may_mk h1 (by simp; omega) (srt_snoc _ l 0 h3 (fun d hd => Int.le_trans (srt_last l 0 h3 d hd).2 hal.1) (by show 0 ≤ over + a; omega)) (fun c hc => ?_)
        rcases List.mem_append.1 hc with hc | hc
        · exact h4 c hc
        · rw [List.mem_singleton.1 hc]; exact hal.2
    · cases hp
theorem may_drop {over : Int} {l : List (Int × Int)} (h : mayB over l = true) : mayB over (l.drop 1) = true := by
  obtain ⟨h1, h2, h3, h4⟩ := may_split h
  cases l with
  | nil => exact h
  | cons d l =>
    have h' : (decide ((0 : Int) ≤ d.1) && srtB d.1 l) = true := h3
    rw [Bool.and_eq_true, decide_eq_true_eq] at h'
    exact may_mk h1 (by simp at h2 ⊢; omega) (srt_weak h'.2 h'.1) (fun c hc => h4 c (List.mem_cons_of_mem _ hc))
theorem segB_cases (over p : Int) : segB over p = 0 ∨ segB over p = 1 ∨ segB over p = 2 := by unfold segB; split; simp; split <;> simp
theorem segN_cons (over : Int) (j : Nat) (c : Int × Int) (l : List (Int × Int)) : segN over j (c :: l) = (if segB over c.1 = j then 1 else 0) + segN over j l := by
  unfold segN
  by_cases h : segB over c.1 = j
  · rw [List.filter_cons_of_pos (by simp [h]), if_pos h, List.length_cons]; omega
  · rw [List.filter_cons_of_neg (by simp [h]), if_neg h]; omega
theorem segN_sum (over : Int) : ∀ l, segN over 0 l + segN over 1 l + segN over 2 l = l.length
  | [] => rfl
  | c :: l => by
    have := segN_sum over l
    rw [segN_cons, segN_cons, segN_cons, List.length_cons]
    rcases segB_cases over c.1 with h | h | h <;> rw [h] <;> simp <;> omega
theorem segN_zero (over : Int) : ∀ l : List (Int × Int), (∀ c ∈ l, over < c.1) → segN over 0 l = 0
  | [], _ => rfl
  | c :: l, h => by
    rw [segN_cons, segN_zero over l (fun d hd => h d (List.mem_cons_of_mem _ hd))]
    have := h c (List.mem_cons_self ..)
    have hs : ¬ segB over c.1 = 0 := by
      unfold segB
      split
      · simp
      · first | (rw [if_pos this]; simp) | simp_all
    rw [if_neg hs]
theorem take_case {over : Int} {l : List (Int × Int)} (h : mayB over l = true) : (segN over 0 l = 0 ∧ dones over l = []) ∨ ∃ c m, l = c :: m ∧ c.1 ≤ over ∧ 0 < segN over 0 l ∧ dones over l = c :: dones over m := by
  obtain ⟨h1, h2, h3, h4⟩ := may_split h
  cases l with
  | nil => exact .inl ⟨rfl, rfl⟩
  | cons c m =>
    have h' : (decide ((0 : Int) ≤ c.1) && srtB c.1 m) = true := h3
    rw [Bool.and_eq_true, decide_eq_true_eq] at h'
    by_cases hc : c.1 ≤ over
    · refine .inr ⟨c, m, rfl, hc, ?_, if_pos hc⟩
      have hs : segB over c.1 = 0 := by unfold segB; rw [if_neg (by omega), if_neg (by omega)]
      rw [segN_cons, if_pos hs]; omega
    · refine .inl ⟨segN_zero over _ (fun d hd => ?_), if_neg hc⟩
      rcases List.mem_cons.1 hd with rfl | hd
      · omega
      · have := (srt_last m c.1 h'.2 d hd).1; omega

/-! ## The row of what is put -/
def PutR (B : Nat) (v : Value) (xs : List Int) (w : World) : Prop :=
  (v = .slice none 0 0 ∧ xs = []) ∨ ∃ g off c cur, v = .slice (some ⟨g, off, none⟩) xs.length c ∧ B ≤ g ∧ w.heap[g]? = some (.cells cur 23 (0, 0)) ∧ xs.length ≤ c ∧ c ≤ 9223372036854775807 ∧ off + c ≤ cur.size ∧ ∀ j (h : j < xs.length), cur[off + j]? = some (.int .u64 xs[j])
theorem PutR.kept {B : Nat} {v : Value} {xs : List Int} {w w' : World} (h : PutR B v xs w) (hk : ∀ g, v.ownBlock = some g → w'.heap[g]? = w.heap[g]?) : PutR B v xs w' := by
  rcases h with h | ⟨g, off, c, cur, rfl, h1, h2, h3, h4, h5⟩
  · exact .inl h
  · exact .inr ⟨g, off, c, cur, rfl, h1, (hk g rfl).trans h2, h3, h4, h5⟩
theorem PutR.lt {B : Nat} {v : Value} {xs : List Int} {w : World} (h : PutR B v xs w) {g : Nat} (hg : v.ownBlock = some g) : B ≤ g ∧ g < w.heap.size ∧ ∃ cur, w.heap[g]? = some (.cells cur 23 (0, 0)) := by
  rcases h with ⟨rfl, _⟩ | ⟨g', off, c, cur, rfl, h1, h2, _⟩
  · cases hg
  · have hg' : some g' = some g := hg
    injection hg' with hg'
    subst hg'
    exact ⟨h1, (Array.getElem?_eq_some_iff.1 h2).1, cur, h2⟩
theorem PutR.below {B : Nat} {v : Value} {xs : List Int} {w w' : World} (h : PutR B v xs w) (hb : Below w.heap.size w w') : PutR B v xs w' := h.kept (fun g e => hb.block g (h.lt e).2.1)
theorem PutR.keeps {S : Nat → Prop} {B : Nat} {v : Value} {xs : List Int} {w w' : World} (h : PutR B v xs w) (hk : Keeps S w w') (hS : ∀ g, v.ownBlock = some g → ¬ S g) : PutR B v xs w' := h.kept (fun g e => hk.block g (h.lt e).2.1 (hS g e))
theorem putR_of_owns {B C : Nat} {v : Value} {xs : List Int} {n : Nat} {w : World} (h : w.ownsRow C 23 1 v n (xs.map (Value.int .u64))) (hn : 0 < n) (hC : B ≤ C) : ∃ g c, v = .slice (some ⟨g, 0, none⟩) n c ∧ C ≤ g ∧ PutR B (.slice (some ⟨g, 0, none⟩) n c) xs w := by
  have hl := h.1
  rw [List.length_map] at hl
  obtain rfl : xs.length = n := by omega
  rcases id h.2 with ⟨_, h0⟩ | ⟨g, cap, cur, rfl, hB, hg, hcp, hmx, hsz, _⟩
  · omega
  · refine ⟨g, cap, rfl, hB, .inr ⟨g, 0, cap, cur, rfl, by omega, hg, hcp, by unfold maxLen at hmx; omega, by omega, fun j hj => ?_⟩⟩
    have h1 := h.cellAt j (by omega)
    simp only [World.cell?, hg] at h1
    rw [Nat.zero_add]
    simpa [hj] using h1
/-- The first one of it; the row behind it. -/
theorem PutR.first {B : Nat} {v : Value} {x : Int} {xs : List Int} {w : World} (h : PutR B v (x :: xs) w) : ∃ g off c, v = .slice (some ⟨g, off, none⟩) (xs.length + 1) c ∧ xs.length + 1 ≤ c ∧ c ≤ 9223372036854775807 ∧ w.cell? ⟨g, off, none⟩ = some (.int .u64 x) := by
  rcases h with ⟨_, h⟩ | ⟨g, off, c, cur, rfl, h1, h2, h3, h4, h5, h6⟩
  · cases h
  · have := h6 0 (by simp)
    exact ⟨g, off, c, rfl, h3, h4, by simp [World.cell?, h2]; simpa using this⟩
def restA (g off c : Nat) : Option Addr := if c = 1 then some ⟨g, off, none⟩ else some ⟨g, off + 1, none⟩
theorem PutR.rest {B g off c : Nat} {x : Int} {xs : List Int} {w : World} (h : PutR B (.slice (some ⟨g, off, none⟩) (xs.length + 1) c) (x :: xs) w) : PutR B (.slice (restA g off c) xs.length (c - 1)) xs w := by
  rcases h with ⟨_, h⟩ | ⟨g', off', c', cur, e, h1, h2, h3, h4, h5, h6⟩
  · cases h
  · injection e with e1 _ e3
    injection e1 with e1
    injection e1 with e1 e2
    subst e1 e2 e3
    have h3' : xs.length + 1 ≤ c := h3
    unfold restA
    by_cases hc : c = 1
    · rw [if_pos hc]
      exact .inr ⟨g, off, c - 1, cur, rfl, h1, h2, by omega, by omega, by omega, fun j hj => by omega⟩
    · rw [if_neg hc]
      refine .inr ⟨g, off + 1, c - 1, cur, rfl, h1, h2, by omega, by omega, by omega, fun j hj => ?_⟩
      have := h6 (j + 1) (by simp; omega)
      rw [show off + 1 + j = off + (j + 1) by omega, this]; rfl
theorem run_rest (g off n c : Nat) (h1 : 1 ≤ n) (_ : n ≤ c) (_ : c ≤ 9223372036854775807) (wx : World) :
    (Instr.slice 26 (.slice (some ⟨g, off, none⟩) n c) (some (.int .i64 1)) none none).run Try.prog wx = .ok (.slice (restA g off c) (n - 1) (c - 1)) wx := by
  rw [run_slice_l wx 26 (some ⟨g, off, none⟩) n c Try.underlying26 .i64 1 (by omega) (by omega)]
  have hE : (sizeOf (Try.prog.elem 26)).run Try.prog wx = .ok 1 wx := by go_simp
  rw [hE]
  simp only [sliced, Result.andThen, restA]
  by_cases hc1 : c = 1
  · rw [if_pos (by simpa using hc1), if_pos hc1]; rfl
  · rw [if_neg (by simpa using hc1), if_neg hc1]; rfl
theorem wpList_app_put {ops : Array Oper} {rest : List Oper} {o : Oper} {a : Act} {Q : Exit → Act → World → Prop} {w : World} (hgd : o.guard = none) (s x : Operand)
    (ho : o.op = .call { callee := .builtin .append, args := #[s, x], argTypes := #[26, 26] })
    (B : Nat) (v : Value) (xs : List Int) (hs : a.eval s = v) (h : PutR B v xs w) (b c : Nat) (y : Int) (hx : a.eval x = .slice (some ⟨b, 0, none⟩) 1 c) (h0 : w.cell? ⟨b, 0, none⟩ = some (.int .u64 y)) (hl : xs.length ≤ 1000000) (hB : B ≤ w.heap.size)
    (hK : ∀ g off r w', PutR B (.slice (some ⟨g, off, none⟩) (xs.length + 1) r) (xs ++ [y]) w' → Keeps (fun k => some k = v.ownBlock) w w' → (some g = v.ownBlock ∨ w.heap.size ≤ g) → wpList Try.prog ops Q rest (a.put o.dst (.slice (some ⟨g, off, none⟩) (xs.length + 1) r)) w') :
    wpList Try.prog ops Q (o :: rest) a w := by
  obtain ⟨i0, hi, hz0, hz1, hz2⟩ := info_parts info_w
  have hnews : ∀ j u, [Value.int .u64 y][j]? = some u → w.cell? ((⟨b, 0, none⟩ : Addr).add j) = some u := fun j u hj => by
    rw [addr_add_off, Nat.zero_add]
    match j, hj with
    | 0, hj => simp only [List.getElem?_cons_zero, Option.some.injEq] at hj; rw [← hj]; exact h0
  have h1c : ∀ u ∈ [Value.int .u64 y], u.oneCell' = true := fun u hu => by rw [List.mem_singleton.1 hu]; rfl
  have grown : ∀ {v' w'}, w'.ownsRow w.heap.size 23 1 v' (xs.length + 1) (xs.map (Value.int .u64) ++ [.int .u64 y]) → w.grownBy w' none → wpList Try.prog ops Q rest (a.put o.dst v') w' := fun {v' w'} r1 r2 => by
    have e : xs.map (Value.int .u64) ++ [.int .u64 y] = (xs ++ [y]).map (Value.int .u64) := by simp
    rw [e] at r1
    obtain ⟨g, c', rfl, hg, hp⟩ := putR_of_owns (B := B) r1 (by omega) hB
    exact hK g 0 c' w' hp ⟨r2.os, r2.tape, r2.output, r2.size, fun k hk _ => r2.block k hk (by simp)⟩ (.inr hg)
  rcases h with ⟨rfl, rfl⟩ | ⟨g, off, cp, cur, rfl, g1, g2, g3, g4, g5, g6⟩
  · refine wpList_append_own_at w hgd s x 26 ho w.heap.size 23 i0 (.int .u64 0) 1 8 Try.underlying26 hi hz0 hz1 hz2 rfl (by decide) (.slice none 0 0) 0 [] hs (World.ownsRow_nil _ _ _ _) ⟨b, 0, none⟩ 1 c [.int .u64 y] hx rfl hnews h1c (by unfold maxLen; omega) (by omega) (Nat.le_refl _) fun v' w' h2 h3 _ _ => grown h2 h3
  · have hcell : ∀ j, j < cp → (w.cell? ⟨g, off + j, none⟩).isSome = true := fun j hj => by
      simp only [World.cell?, g2]
      rw [Array.getElem?_eq_getElem (by omega)]; rfl
    refine wpList_append_arg w hgd s x 26 ho 23 i0 (.int .u64 0) 1 8 Try.underlying26 hi hz0 hz1 hz2 rfl (by decide) g off xs.length cp (xs.map (Value.int .u64)) hs (by simp) (fun j u hj => ?_) ⟨b, 0, none⟩ 1 c [.int .u64 y] hx rfl hnews h1c (fun hr j hj => ?_) (by unfold maxLen; omega) (by omega) (fun hr => ?_) (fun hr v' w' r1 r2 => grown r1 r2)
    · rw [List.getElem?_map] at hj
      obtain ⟨z, hz, rfl⟩ := Option.map_eq_some_iff.1 hj
      obtain ⟨hlt, hz'⟩ := List.getElem?_eq_some_iff.1 hz
      have := g6 j hlt
      rw [hz'] at this
      simp only [World.cell?, g2]
      exact this
    · have hj' : j = 0 := by simpa using hj
      subst hj'
      exact ⟨by simpa using hcell xs.length (by omega), by simp [World.frozen?, g2]⟩
    · have e : w.setCells g (off + xs.length * 1) [.int .u64 y] = w.setCell ⟨g, off + xs.length, none⟩ (.int .u64 y) := by rw [Nat.mul_one]; rfl
      rw [e]
      have hh := heap_setCell_same w g (off + xs.length) cur _ (.int .u64 y) g2
      refine hK g off cp _ (.inr ⟨g, off, cp, _, by simp, g1, hh, by simp; omega, g4, by simpa using g5, fun j hj => ?_⟩) ((Keeps.setCell w (S := (· = g)) (p := ⟨g, off + xs.length, none⟩) rfl _).sub fun k _ e => by rw [e]; rfl) (.inl rfl)
      rw [List.length_append, List.length_singleton] at hj
      by_cases hjx : j < xs.length
      · rw [Array.getElem?_setIfInBounds_ne (by omega), g6 j hjx, List.getElem_append_left hjx]
      · obtain rfl : j = xs.length := by omega
        rw [Array.getElem?_setIfInBounds_self_of_lt (by omega)]
        simp

/-! ## The map of the periods -/
open Classical in
noncomputable def elemG (v : Value) : Option (DataW Unit × List MemPlace) :=
  if h : ∃ g : Nat, v = .slice (some ⟨g, 0, none⟩) 1 1 then some (.lit (.int .i64 ((Classical.choose h : Nat) : Int)), []) else if v = .slice none 0 0 then some (.nil, []) else none
theorem elemG_mk (g : Nat) : elemG (.slice (some ⟨g, 0, none⟩) 1 1) = some (.lit (.int .i64 (g : Int)), []) := by
  have h : ∃ g' : Nat, Value.slice (some ⟨g, 0, none⟩) 1 1 = .slice (some ⟨g', 0, none⟩) 1 1 := ⟨g, rfl⟩
  unfold elemG
  rw [dif_pos h]
  have hs := Classical.choose_spec h
  injection hs with hs _ _
  injection hs with hs
  injection hs with hs _
  rw [← hs]
theorem elemG_nil : elemG (.slice none 0 0) = some (.nil, []) := by
  unfold elemG
  rw [dif_neg (by rintro ⟨g, e⟩; injection e with e; cases e), if_pos rfl]
theorem elemG_inv {v : Value} {g : Nat} {ps : List MemPlace} (h : elemG v = some (.lit (.int .i64 (g : Int)), ps)) : v = .slice (some ⟨g, 0, none⟩) 1 1 := by
  unfold elemG at h
  split at h
  · rename_i hex
    have hs := Classical.choose_spec hex
    injection h with h
    injection h with h _
    injection h with h
    injection h with _ h
    have h' : Classical.choose hex = g := by omega
    rw [hs, h']
  · split at h
    · injection h with h
      injection h with h _
      cases h
    · cases h
theorem u64Keyed : Keyed Try.prog 23 := int_keyed Try.underlying23
theorem wfU {x : Int} (h : 0 ≤ x ∧ x ≤ 1000) : (Lit.int .u64 x).wf = true := by simp [Lit.wf, IntKind.min, IntKind.max, IntKind.signed, IntKind.bits]; omega
def MapG (W : World) (mb k : Nat) (f : Int → Option Nat) : Prop := ∃ D : DataW Unit, W.ownsMap Try.prog 23 elemG mb k D ∧ ∀ (y : Int) (g : Nat), f y = some g → ∀ zd, D.atKey (.int .u64 y) zd = .lit (.int .i64 (g : Int))
theorem kB {w w' : World} (h : Below w.heap.size w w') : w.grownBy w' none := ⟨h.os, h.tape, h.output, h.size, fun i hi _ => h.block i hi⟩
theorem MapG.new (W : World) : MapG (W.alloc (.map #[] 0)) W.heap.size 0 (fun _ => none) := ⟨.map [], World.ownsMap_made W _ _ _, fun y g h => by cases h⟩
theorem MapG.below {W W' : World} {mb k : Nat} {f : Int → Option Nat} (h : MapG W mb k f) (hb : Below W.heap.size W W') : MapG W' mb k f := by
  obtain ⟨D, ho, hD⟩ := h
  exact ⟨D, ho.kept (kB hb) (by simp), hD⟩
theorem MapG.lt {W : World} {mb k : Nat} {f : Int → Option Nat} (h : MapG W mb k f) : mb < W.heap.size := by
  obtain ⟨D, ho, _⟩ := h
  exact ho.lt
theorem MapG.keeps {S : Nat → Prop} {W W' : World} {mb k : Nat} {f : Int → Option Nat} (h : MapG W mb k f) (hk : Keeps S W W') (hS : ¬ S mb) : MapG W' mb k f := by
  have hlt := h.lt
  obtain ⟨D, ⟨es, ck, h1, h2⟩, hD⟩ := h
  exact ⟨D, ⟨es, ck, (hk.block mb hlt hS).trans h1, h2⟩, hD⟩
theorem MapG.look {W : World} {mb k : Nat} {f : Int → Option Nat} (h : MapG W mb k f) {x : Int} {g : Nat} (hf : f x = some g) (hx : 0 ≤ x ∧ x ≤ 1000) : (Instr.lookup 50 (.map (some mb)) (.int .u64 x) false).run Try.prog W = .ok (.slice (some ⟨g, 0, none⟩) 1 1) W := by
  obtain ⟨D, ho, hD⟩ := h
  obtain ⟨v, ps, hrun, hv⟩ := ho.lookup u64Keyed Try.underlying50 (z := .slice none 0 0) (by kernel_rfl) elemG_nil (keyOf_int_mk Try.underlying23 (wfU hx))
  rw [hD x g hf] at hv
  rw [hrun, elemG_inv hv]
theorem MapG.put {W : World} {mb k : Nat} {f : Int → Option Nat} (h : MapG W mb k f) (x : Int) (g : Nat) (hx : 0 ≤ x ∧ x ≤ 1000) (hn : k ≤ 1000) :
    ∃ W', (Instr.mapUpdate 50 (.map (some mb)) (.int .u64 x) (.slice (some ⟨g, 0, none⟩) 1 1)).run Try.prog W = .ok () W' ∧ MapG W' mb (k + 1) (fun y => if y = x then some g else f y) ∧ Keeps (fun k => k = mb) W W' := by
  obtain ⟨D, ho, hD⟩ := h
  have hmap : IsMap D := ho.isMap
  have hkey := keyOf_int_mk (P := Try.prog) (k := 23) Try.underlying23 (wfU hx)
  obtain ⟨W', hrun, ho', hg⟩ := ho.update u64Keyed Try.underlying50 (by unfold maxLen; omega) hkey (elemG_mk g)
  refine ⟨W', hrun, ⟨_, ho', fun y g' hy zd => ?_⟩, ⟨hg.os, hg.tape, hg.output, hg.size, fun i hi hne => hg.block i hi (fun e => hne (by injection e))⟩⟩
  by_cases hz : y = x
  · subst hz
    have hy : (if y = y then some g else f y) = some g' := hy
    rw [if_pos rfl] at hy
    injection hy with hy
    subst hy
    rw [atKey_put_same hmap (u64Keyed.key hkey)]
  · have hy : (if y = x then some g else f y) = some g' := hy
    rw [if_neg hz] at hy
    rw [atKey_put_other (by intro e; injection e with _ e; exact hz e), hD y g' hy]

/-! ## What the loop keeps -/
structure WtI (W : World) (z mb k : Nat) (over : Int) (p : Option Addr) (n c : Nat) (l : List (Int × Int)) (u : Value) (f : Int → Option Nat) (w : World) : Prop where
  q : QBox w z (.slice p n c) over
  row : CbOut (fun b => b ≤ mb ∨ some b = u.ownBlock) w (.slice p n c) l
  put : PutR (mb + 1) u (whats l) w
  map : MapG w mb k f
  due : ∀ d ∈ l, ∃ g, f d.2 = some g ∧ mb < g ∧ some g ≠ u.ownBlock ∧ Boxed w g 23 (.int .u64 d.1)
  b : Below W.heap.size W w
  z1 : W.heap.size ≤ z ∧ z < mb
theorem WtI.below {W : World} {z mb k : Nat} {over : Int} {p : Option Addr} {n c : Nat} {l : List (Int × Int)} {u : Value} {f : Int → Option Nat} {w w' : World} (h : WtI W z mb k over p n c l u f w) (hb : Below w.heap.size w w') : WtI W z mb k over p n c l u f w' :=
  ⟨h.q.below hb, h.row.below hb, h.put.below hb, h.map.below hb, fun d hd => by
    obtain ⟨g, h1, h2, h3, h4⟩ := h.due d hd
    exact ⟨g, h1, h2, h3, boxed_under h4 hb⟩, below_then h.b h.b.size hb, h.z1⟩
/-- The queue's own box is written: another row, and number. -/
theorem WtI.setq {W : World} {z mb k : Nat} {over : Int} {p : Option Addr} {n c : Nat} {l : List (Int × Int)} {u : Value} {f : Int → Option Nat} {w w' : World} (h : WtI W z mb k over p n c l u f w) {p' : Option Addr} {n' c' : Nat} {over' : Int}
    (hw : w' = (w.setCell ⟨z, 0, none⟩ (.slice p' n' c')).setCell ⟨z, 1, none⟩ (.int .u64 over')) (hr : CbOut (fun b => b ≤ mb ∨ some b = u.ownBlock) w (.slice p' n' c') l) : WtI W z mb k over' p' n' c' l u f w' := by
  have hk : Keeps (fun b => b = z) w w' := by rw [hw]; exact QBox.putK _ _ _ _
  have hk2 : Keeps (fun b => b ≤ mb ∨ some b = u.ownBlock) w w' := hk.sub (fun b _ e => .inl (by have := h.z1; omega))
  refine ⟨by rw [hw]; exact h.q.put _ _, hr.keeps hk2, h.put.keeps hk (fun g e => by have := (h.put.lt e).1; have := h.z1; omega), h.map.keeps hk (by have := h.z1; omega), fun d hd => ?_, h.b.trans (hk.below h.b.size (fun b e => by have := h.z1; omega)), h.z1⟩
  obtain ⟨g, h1, h2, h3, h4⟩ := h.due d hd
  exact ⟨g, h1, h2, h3, bx_keeps h4 hk (by have := h.z1; omega)⟩
/-- The first one is taken: of the queue, and of what is put. -/
theorem WtI.take {W : World} {z mb k : Nat} {over : Int} {p : Option Addr} {n c : Nat} {d : Int × Int} {l : List (Int × Int)} {g off cp : Nat} {f : Int → Option Nat} {w w' : World} (h : WtI W z mb k over p n c (d :: l) (.slice (some ⟨g, off, none⟩) (l.length + 1) cp) f w) {p' : Option Addr} {n' c' : Nat}
    (hw : w' = (w.setCell ⟨z, 0, none⟩ (.slice p' n' c')).setCell ⟨z, 1, none⟩ (.int .u64 over)) (hr : CbOut (fun b => b ≤ mb ∨ b = g) w (.slice p' n' c') l) : WtI W z mb k over p' n' c' l (.slice (restA g off cp) l.length (cp - 1)) f w' := by
  have hk : Keeps (fun b => b = z) w w' := by rw [hw]; exact QBox.putK _ _ _ _
  have hk2 : Keeps (fun b => b ≤ mb ∨ b = g) w w' := hk.sub (fun b _ e => .inl (by have := h.z1; omega))
  have hob : ∀ b, some b = (Value.slice (restA g off cp) l.length (cp - 1)).ownBlock → b = g := fun b e => by
    unfold restA at e
    split at e <;> (injection e)
  have hpr : PutR (mb + 1) (.slice (restA g off cp) l.length (cp - 1)) (whats l) w := by
    have := PutR.rest (x := d.2) (xs := whats l) (g := g) (off := off) (c := cp) (by rw [whats_len]; exact h.put)
    rwa [whats_len] at this
  refine ⟨by rw [hw]; exact h.q.put _ _, (hr.keeps hk2).sub (fun b hb => hb.imp id (hob b)), hpr.keeps hk (fun g' e => by have := (hpr.lt e).1; have := h.z1; omega), h.map.keeps hk (by have := h.z1; omega), fun e he => ?_, h.b.trans (hk.below h.b.size (fun b e => by have := h.z1; omega)), h.z1⟩
  obtain ⟨g', h1, h2, h3, h4⟩ := h.due e (List.mem_cons_of_mem _ he)
  exact ⟨g', h1, h2, fun e' => h3 (by rw [hob g' e']; rfl), bx_keeps h4 hk (by have := h.z1; omega)⟩
/-- One more is put: the row of words, the map, the queue. -/
theorem WtI.app {W : World} {z mb k : Nat} {over : Int} {p : Option Addr} {n c : Nat} {l : List (Int × Int)} {u : Value} {f : Int → Option Nat} {w w1 w2 w3 w4 w5 : World} (h : WtI W z mb k over p n c l u f w) {d : Int × Int} {g off r gb cp : Nat} {p' : Option Addr} {n' c' : Nat}
    (hb1 : Below w.heap.size w w1) (hp : PutR (mb + 1) (.slice (some ⟨g, off, none⟩) r cp) (whats l ++ [d.2]) w2) (hk2 : Keeps (fun b => some b = u.ownBlock) w1 w2) (hg : some g = u.ownBlock ∨ w1.heap.size ≤ g)
    (hb3 : w3 = w2.alloc (.cells #[.int .u64 d.1] 23)) (hgb : gb = w2.heap.size) (hm : MapG w4 mb (k + 1) (fun y => if y = d.2 then some gb else f y)) (hk4 : Keeps (fun b => b = mb) w3 w4)
    (hw : w5 = (w4.setCell ⟨z, 0, none⟩ (.slice p' n' c')).setCell ⟨z, 1, none⟩ (.int .u64 over)) (hr : CbOut (fun b => b < w.heap.size) w1 (.slice p' n' c') (l ++ [d])) (hrb : CbOut (fun b => w1.heap.size ≤ b) w1 (.slice p' n' c') (l ++ [d])) (hd : ∀ e ∈ l, e.2 ≠ d.2) : WtI W z mb (k + 1) over p' n' c' (l ++ [d]) (.slice (some ⟨g, off, none⟩) r cp) (fun y => if y = d.2 then some gb else f y) w5 := by
  have hz := h.z1
  have hml := h.map.lt
  have hus : ∀ b, some b = u.ownBlock → mb < b ∧ b < w.heap.size := fun b e => by have := h.put.lt e.symm; omega
  have hs1 := hb1.size
  have hs2 := hk2.size
  have hb23 : Below w2.heap.size w2 w3 := by rw [hb3]; exact below1 _ _
  have hk5 : Keeps (fun b => b = z) w4 w5 := by rw [hw]; exact QBox.putK _ _ _ _
  have hs3 := hb23.size
  have hs4 := hk4.size
  have hgl := (hp.lt (g := g) rfl)
  have kall : Keeps (fun b => b = z ∨ b = mb ∨ some b = u.ownBlock) w w5 :=
    (((Keeps.of_below hb1).trans (hk2.sub fun _ _ h => .inr (.inr h))).trans ((Keeps.of_below hb23).trans (hk4.sub fun _ _ h => .inr (.inl h)))).trans (hk5.sub fun _ _ h => .inl h)
  have k15 : Keeps (fun b => b = z ∨ b = mb ∨ some b = u.ownBlock) w1 w5 :=
    ((hk2.sub fun _ _ h => .inr (.inr h)).trans ((Keeps.of_below hb23).trans (hk4.sub fun _ _ h => .inr (.inl h)))).trans (hk5.sub fun _ _ h => .inl h)
  have k25 : Keeps (fun b => b = z ∨ b = mb) w2 w5 := ((Keeps.of_below hb23).trans (hk4.sub fun _ _ h => .inr h)).trans (hk5.sub fun _ _ h => .inl h)
  have k35 : Keeps (fun b => b = z ∨ b = mb) w3 w5 := (hk4.sub fun _ _ h => .inr h).trans (hk5.sub fun _ _ h => .inl h)
  have hq4 : QBox w4 z (.slice p n c) over := (((((h.q.below hb1).keeps hk2 (fun e => by have := hus z e; omega)).below hb23)).keeps hk4 (by omega))
  refine ⟨by rw [hw]; exact hq4.put _ _, ?_, ?_, hm.keeps hk5 (by omega), fun e he => ?_, h.b.trans (kall.below h.b.size (fun b e => ?_)), hz⟩
  · have hr1 : CbOut (fun b => b < w.heap.size ∨ w1.heap.size ≤ b) w1 (.slice p' n' c') (l ++ [d]) := by
      obtain ⟨p0, cap, e0, a1, a2, hc⟩ := hr
      obtain ⟨p1, cap1, e1, a3, a4, hc1⟩ := hrb
      refine ⟨p0, cap, e0, a1, a2, fun hne => ?_⟩
      obtain ⟨b, o, rfl, hb, hcs⟩ := hc hne
      obtain ⟨b', o', rfl, hb', _⟩ := hc1 hne
      rw [e0] at e1
      injection e1 with e1 _ _
      injection e1 with e1
      injection e1 with e1 _
      subst e1
      exact ⟨b, o, rfl, by intro h; rcases h with h | h; exact hb h; exact hb' h, hcs⟩
    have hr5 := hr1.keeps (k15.sub (fun b _ e => .inl (by rcases e with e | e | e; omega; omega; exact (hus b e).2)))
    refine hr5.sub (fun b e => ?_)
    rcases e with e | e
    · exact .inl (by omega)
    · have e : some b = some g := e
      injection e with e
      subst e
      rcases hg with hg | hg
      · exact .inl (hus _ hg).2
      · exact .inr hg
  · have : whats (l ++ [d]) = whats l ++ [d.2] := by unfold whats; simp
    rw [this]
    refine hp.keeps k25 (fun g' e e2 => ?_)
    have e : some g = some g' := e
    injection e with e
    subst e
    omega
  · rcases List.mem_append.1 he with he | he
    · obtain ⟨g', h1, h2, h3, h4⟩ := h.due e he
      refine ⟨g', by rw [if_neg (hd e he)]; exact h1, h2, fun e' => ?_, bx_keeps h4 kall (fun h => by rcases h with h | h | h; omega; omega; exact h3 h)⟩
      have e' : some g' = some g := e'
      rcases hg with hg | hg
      · exact h3 (e'.trans hg)
      · injection e' with e'
        have := h4.lt
        omega
    · rw [List.mem_singleton.1 he]
      refine ⟨gb, if_pos rfl, by omega, fun e' => ?_, ?_⟩
      · have e' : some gb = some g := e'
        injection e' with e'
        omega
      · have hx : Boxed w3 gb 23 (.int .u64 d.1) := by rw [hb3, hgb]; exact Boxed.new _ _ _
        exact bx_keeps hx k35 (by omega)
  · rcases e with e | e | e
    · omega
    · omega
    · have := hus b e; omega

end Go.Proofs.Ytdagcimkajmkaaa
/-
  Package queue: Join; what it joins by.
  Conditions: the ranges of Go's types.
-/
namespace Go.Proofs.Ytdagcimkajmkaaa
set_option maxRecDepth 100000
open Go.RowKit Go.Shelf
attribute [local go_sem] Oper.semAt_some

/-- Two rows as one. -/
def joinL : List (Int × Int) → List (Int × Int) → List (Int × Int)
  | a, [] => a
  | [], o :: b => o :: b
  | x :: a, o :: b => if x.1 ≤ o.1 then x :: joinL a (o :: b) else o :: joinL (x :: a) b
termination_by a b => a.length + b.length
theorem joinL_nil (a : List (Int × Int)) : joinL a [] = a := by cases a <;> rw [joinL]
theorem joinL_none : ∀ b : List (Int × Int), joinL [] b = b
  | [] => by rw [joinL]
  | o :: b => by rw [joinL]
theorem joinL_first {x o : Int × Int} (a b : List (Int × Int)) (h : x.1 ≤ o.1) : joinL (x :: a) (o :: b) = x :: joinL a (o :: b) := by rw [joinL, if_pos h]
theorem joinL_other {x o : Int × Int} (a b : List (Int × Int)) (h : ¬ x.1 ≤ o.1) : joinL (x :: a) (o :: b) = o :: joinL (x :: a) b := by rw [joinL, if_neg h]
theorem joinL_done (o : Int × Int) (b : List (Int × Int)) : joinL [] (o :: b) = o :: joinL [] b := by rw [joinL_none, joinL_none]
theorem joinL_len : ∀ (n : Nat) (a b : List (Int × Int)), a.length + b.length ≤ n → (joinL a b).length = a.length + b.length
  | _, a, [], _ => by rw [joinL_nil]; rfl
  | _, [], o :: b, _ => by rw [joinL_none]; simp
  | 0, x :: a, o :: b, h => by simp at h
  | n + 1, x :: a, o :: b, h => by
    simp only [List.length_cons] at h
    by_cases hx : x.1 ≤ o.1
    · have := joinL_len n a (o :: b) (by simp; omega)
      rw [joinL_first a b hx, List.length_cons, this]; simp; omega
    · have := joinL_len n (x :: a) b (by simp; omega)
      rw [joinL_other a b hx, List.length_cons, this]; simp; omega

def slLen : Value → Nat
  | .slice _ n _ => n
  | _ => 0
/-- Between two steps. -/
structure JnI (W : World) (va vb : Value) (la lb : List (Int × Int)) (j : Nat) (pa : Option Addr) (na ca : Nat) (ra : List (Int × Int)) (pl : Option Addr) (nl cl : Nat) (acc : List (Int × Int)) (w : World) : Prop where
  a : CbOut (fun k => W.heap.size ≤ k) w (.slice pa na ca) ra
  nz : pa = none → ca = 0
  b : CbOut (fun k => W.heap.size ≤ k) w vb lb
  o : w.ownsRow W.heap.size 53 2 (.slice pl nl cl) nl (cvs acc)
  len : nl = acc.length
  bl : Below W.heap.size W w
  eq : acc ++ joinL ra (lb.drop j) = joinL la lb
theorem JnI.below {W : World} {va vb : Value} {la lb : List (Int × Int)} {j : Nat} {pa : Option Addr} {na ca : Nat} {ra : List (Int × Int)} {pl : Option Addr} {nl cl : Nat} {acc : List (Int × Int)} {w w' : World} (h : JnI W va vb la lb j pa na ca ra pl nl cl acc w) (hb : Below w.heap.size w w') : JnI W va vb la lb j pa na ca ra pl nl cl acc w' :=
  ⟨h.a.below hb, h.nz, h.b.below hb, owns_below h.o hb, h.len, below_then h.bl h.bl.size hb, h.eq⟩
theorem JnI.size {W : World} {va vb : Value} {la lb : List (Int × Int)} {j : Nat} {pa : Option Addr} {na ca : Nat} {ra : List (Int × Int)} {pl : Option Addr} {nl cl : Nat} {acc : List (Int × Int)} {w : World} (h : JnI W va vb la lb j pa na ca ra pl nl cl acc w) : acc.length ≤ la.length + lb.length := by
  have := congrArg List.length h.eq
  rw [List.length_append, joinL_len _ la lb (Nat.le_refl _)] at this
  omega
/-- One more is appended. -/
theorem JnI.app {W : World} {va vb : Value} {la lb : List (Int × Int)} {j : Nat} {pa : Option Addr} {na ca : Nat} {ra : List (Int × Int)} {pl : Option Addr} {nl cl : Nat} {acc : List (Int × Int)} {w w' : World} (h : JnI W va vb la lb j pa na ca ra pl nl cl acc w) {q : Option Addr} {r : Nat} {c : Int × Int} {k : Nat} {p' : Option Addr} {n' c' : Nat} {ra' : List (Int × Int)}
    (ho : w'.ownsRow W.heap.size 53 2 (.slice q (nl + 1) r) (nl + 1) (cvs (acc ++ [c]))) (hk : Keeps (fun k => some k = (Value.slice pl nl cl).ownBlock) w w') (ha : CbOut (fun k => W.heap.size ≤ k) w (.slice p' n' c') ra') (hn : p' = none → c' = 0) (he : joinL ra (lb.drop j) = c :: joinL ra' (lb.drop k)) :
    JnI W va vb la lb k p' n' c' ra' q (nl + 1) r (acc ++ [c]) w' := by
  have hk' : Keeps (fun k => W.heap.size ≤ k) w w' := hk.sub (fun k _ e => (h.o.lt k e.symm).1)
  exact ⟨ha.keeps hk', hn, h.b.keeps hk', ho, by rw [List.length_append, ← h.len]; rfl, h.bl.trans (hk'.below h.bl.size (fun k e => e)), by rw [← h.eq, he]; simp⟩
/-- A row behind its first one. -/
def restC (b off c : Nat) : Option Addr := if c = 1 then some ⟨b, off, none⟩ else some ⟨b, off + 2, none⟩
theorem run_restC (b off n c : Nat) (h1 : 1 ≤ n) (_ : n ≤ c) (_ : c ≤ 9223372036854775807) (wx : World) :
    (Instr.slice 22 (.slice (some ⟨b, off, none⟩) n c) (some (.int .i64 1)) none none).run Try.prog wx = .ok (.slice (restC b off c) (n - 1) (c - 1)) wx := by
  unfold restC
  rw [run_slice_l wx 22 (some ⟨b, off, none⟩) n c Try.underlying22 .i64 1 (by omega) (by omega)]
  have hE : (sizeOf (Try.prog.elem 22)).run Try.prog wx = .ok 2 wx := by go_simp
  rw [hE]
  simp only [sliced, Result.andThen]
  by_cases hc1 : c = 1
  · rw [if_pos (by simpa using hc1), if_pos hc1]; rfl
  · rw [if_neg (by simpa using hc1), if_neg hc1]; rfl
theorem CbOut.rest {S : Nat → Prop} {W : World} {b off n c : Nat} {x : Int × Int} {l : List (Int × Int)} (h : CbOut S W (.slice (some ⟨b, off, none⟩) n c) (x :: l)) : CbOut S W (.slice (restC b off c) (n - 1) (c - 1)) l := by
  obtain ⟨p, cap, e, h1, h2, hc⟩ := h
  injection e with e1 e2 e3
  subst e1 e2 e3
  obtain ⟨b', off', e, hS, hcs⟩ := hc (by simp)
  injection e with e
  injection e with e1 e2
  subst e1 e2
  have h1' : l.length + 1 ≤ c := h1
  refine ⟨restC b off c, c - 1, rfl, by omega, by omega, fun hne => ?_⟩
  have hp := List.length_pos_iff.2 hne
  unfold restC
  rw [if_neg (by omega)]
  refine ⟨b, off + 2, rfl, hS, fun i hi => ?_⟩
  have := hcs (i + 1) (by simp; omega)
  rw [show off + (i + 1) * 2 = off + 2 + i * 2 by omega] at this
  exact this
theorem run_makeJ (n : Nat) (hn : n ≤ 1099511627776) (w : World) : (Instr.makeSlice 22 (.int .i64 0) (.int .i64 (n : Int))).run Try.prog w = .ok (.slice (some ⟨w.heap.size, 0, none⟩) 0 n) (w.alloc (.cells (madeCells #[.int .u64 0, .int .u64 0] (n * 2)) 53)) := by
  obtain ⟨i0, hi, hz0, hz1, hz2⟩ := info_parts info_cb
  have := run_make (P := Try.prog) w 22 53 i0 (.agg #[.int .u64 0, .int .u64 0]) Try.underlying22 hi hz0 .i64 .i64 0 (n : Int) (by omega) (by omega) (by rw [hz2]; omega) (by omega)
  rw [this, hz1, Int.toNat_natCast]
  rfl
theorem owns_made (w : World) (n : Nat) (hn : n ≤ 1000000) : (w.alloc (.cells (madeCells #[.int .u64 0, .int .u64 0] (n * 2)) 53)).ownsRow w.heap.size 53 2 (.slice (some ⟨w.heap.size, 0, none⟩) 0 n) 0 (cvs []) :=
  ⟨rfl, .inr ⟨w.heap.size, n, _, rfl, Nat.le_refl _, World.alloc_heap_new w _, Nat.zero_le _, by unfold maxLen; omega, by first | simp [madeCells] | exact madeCells_size _ _, by simp [cvs]⟩⟩

/-- append of one callback that has just been laid; where it then lies. -/
theorem wpList_app_oneA {ops : Array Oper} {rest : List Oper} {o : Oper} {a : Act} {Q : Exit → Act → World → Prop} {w : World} (hgd : o.guard = none) (s x : Operand)
    (ho : o.op = .call { callee := .builtin .append, args := #[s, x], argTypes := #[22, 22] })
    (B : Nat) (v : Value) (n : Nat) (l : List (Int × Int)) (hn : l.length = n) (hs : a.eval s = v) (hown : w.ownsRow B 53 2 v n (cvs l))
    (b c : Nat) (p y : Int) (hx : a.eval x = .slice (some ⟨b, 0, none⟩) 1 c) (h0 : w.cell? ⟨b, 0, none⟩ = some (.int .u64 p)) (h1 : w.cell? ⟨b, 1, none⟩ = some (.int .u64 y)) (hl : n ≤ 1000000) (hB : B ≤ w.heap.size)
    (h : ∀ q r w', w'.ownsRow B 53 2 (.slice q (n + 1) r) (n + 1) (cvs (l ++ [(p, y)])) → Keeps (fun k => some k = v.ownBlock) w w' → ((Value.slice q (n + 1) r).ownBlock = v.ownBlock ∨ (Value.slice q (n + 1) r).ownBlock = some w.heap.size) → wpList Try.prog ops Q rest (a.put o.dst (.slice q (n + 1) r)) w') :
    wpList Try.prog ops Q (o :: rest) a w := by
  obtain ⟨i0, hi, hz0, hz1, hz2⟩ := info_parts info_cb
  refine wpList_append_own_at w hgd s x 22 ho B 53 i0 (.agg #[.int .u64 0, .int .u64 0]) 2 16 Try.underlying22 hi hz0 hz1 hz2 rfl (by decide) v n (cvs l) hs hown ⟨b, 0, none⟩ 1 c [.int .u64 p, .int .u64 y] hx rfl (fun j u hj => ?_) (fun u hu => ?_) (by unfold maxLen; omega) (by omega) hB fun v' w' h2 h3 _ hl3 => ?_
  · rw [addr_add_off, Nat.zero_add]
    match j, hj with
    | 0, hj => simp only [List.getElem?_cons_zero, Option.some.injEq] at hj; rw [← hj]; exact h0
    | 1, hj => simp only [List.getElem?_cons_succ, List.getElem?_cons_zero, Option.some.injEq] at hj; rw [← hj]; exact h1
  · simp only [List.mem_cons, List.not_mem_nil, or_false] at hu
    rcases hu with rfl | rfl <;> rfl
  · have e : cvs l ++ [.int .u64 p, .int .u64 y] = cvs (l ++ [(p, y)]) := by rw [cvs_append]; rfl
    rw [e] at h2
    obtain ⟨q, r, rfl⟩ := owns_slice h2
    exact h q r w' h2 ⟨h3.os, h3.tape, h3.output, h3.size, fun k hk hn => h3.block k hk (fun e => hn e)⟩ hl3

set_option maxHeartbeats 4000000 in
theorem join1_c (p1 x1 p2 x2 : Int) (W : World) : Calls Try.prog 30 #[.agg #[.int .u64 p1, .int .u64 x1], .agg #[.int .u64 p2, .int .u64 x2]] W fun e w' => e = .returned (.bool (decide (p1 < p2))) ∧ Below W.heap.size W w' := by
  go_enter Try.func30, Try.ntmps30
  go_wp2
  go_ret
  exact ⟨rfl, below2 _ _ _⟩

set_option maxHeartbeats 32000000 in
theorem joined_c (va vb : Value) (la lb : List (Int × Int)) (W : World) (ha : CbOut NoS W va la) (hz : NilZ va) (hb : CbOut NoS W vb lb) (hla : la.length ≤ 1000) (hlb : lb.length ≤ 1000) :
    Calls Try.prog 31 #[va, vb, .func (.func 30) #[] #[]] W fun e w' => (∃ p c, e = .returned (.slice p (joinL la lb).length c) ∧ w'.ownsRow W.heap.size 53 2 (.slice p (joinL la lb).length c) (joinL la lb).length (cvs (joinL la lb))) ∧ Below W.heap.size W w' := by
  obtain ⟨pa0, ca0, rfl, -⟩ := id ha
  obtain ⟨pb, cb, rfl, hcb1, hcb2, -⟩ := id hb
  obtain ⟨n0, hn0⟩ : ∃ n, n = la.length := ⟨_, rfl⟩
  obtain ⟨m, hm⟩ : ∃ m, m = lb.length := ⟨_, rfl⟩
  rw [← hn0] at ha hz hla ⊢
  rw [← hm] at hb hlb hcb1 ⊢
  obtain ⟨N, hN⟩ : ∃ N, N = n0 + m := ⟨_, rfl⟩
  have HA := Lib.hid (show CbOut (fun k => W.heap.size ≤ k) W (.slice pa0 n0 ca0) la ∧ (pa0 = none → ca0 = 0) ∧ CbOut (fun k => W.heap.size ≤ k) W (.slice pb m cb) lb from ⟨ha.apart (fun q hq => .inr hq), fun h => hz _ _ _ rfl h, hb.apart (fun q hq => .inr hq)⟩)
  have hNi : (n0 : Int) + (m : Int) = (N : Int) := by omega
  have hmk := run_makeJ N (by omega)
  obtain ⟨w1, hw1⟩ : ∃ X : World, X = W.alloc (.cells (madeCells #[.int .u64 0, .int .u64 0] (N * 2)) 53) := ⟨_, rfl⟩
  have hb1 : Below W.heap.size W w1 := by rw [hw1]; exact below1 _ _
  have HI := Lib.hid (show JnI W (.slice pa0 n0 ca0) (.slice pb m cb) la lb 0 pa0 n0 ca0 la (some ⟨W.heap.size, 0, none⟩) 0 N [] w1 from
    ⟨HA.out.1.below hb1, HA.out.2.1, HA.out.2.2.below hb1, by rw [hw1]; exact owns_made W N (by omega), rfl, hb1, rfl⟩)
  have HW1 := Lib.hid hw1
  have HM := Lib.hid (And.intro hm (And.intro hn0 hN))
  clear ha hz hb hw1 hb1 hN HA hn0 hm
  go_enter Try.func31, Try.ntmps31
  go_upto_region 2 with (first | (rw [hNi]) | fail)
  rw [← HW1.out]
  clear HW1 hmk hNi
  go_wp2
  go_loopw [0, 7, 18] (fun sa sl iv wr => ∃ (j : Nat) (pa : Option Addr) (na ca : Nat) (ra : List (Int × Int)) (pl : Option Addr) (nl cl : Nat) (acc : List (Int × Int)), j ≤ m ∧ iv = .int .i64 (j : Int) ∧ sa = .slice pa na ca ∧ sl = .slice pl nl cl ∧ Hid (JnI W (.slice pa0 n0 ca0) (.slice pb m cb) la lb j pa na ca ra pl nl cl acc wr)) (fun _ _ iv _ => m - (intOf iv).toNat)
  case atStart => exact ⟨0, pa0, n0, ca0, la, _, 0, N, [], Nat.zero_le _, rfl, rfl, rfl, HI⟩
  case round =>
    clear HI
    obtain ⟨j, pa, na, ca, ra, pl, nl, cl, acc, hj, rfl, rfl, rfl, HX⟩ := hrel
    by_cases hlt : j < m
    · have hjl : j < lb.length := by have := HM.out.1; omega
      obtain ⟨pb', cb', e, -, -, hc⟩ := HX.out.b
      injection e with e1 e2 e3
      subst e1 e3
      obtain ⟨bb, ob, rfl, -, hcs⟩ := hc (by rintro rfl; simp at hjl)
      obtain ⟨hy, ht⟩ := hcs j hjl
      obtain ⟨y, hye⟩ : ∃ x, x = lb[j].1 := ⟨_, rfl⟩
      obtain ⟨t, hte⟩ : ∃ x, x = lb[j].2 := ⟨_, rfl⟩
      rw [← hye] at hy
      rw [← hte] at ht
      have HO := Lib.hid (show lb.drop j = (y, t) :: lb.drop (j + 1) by rw [List.drop_eq_getElem_cons hjl, hye, hte])
      obtain ⟨zt, hzt⟩ : ∃ z, z = wr.heap.size := ⟨_, rfl⟩
      obtain ⟨w2, hw2⟩ : ∃ X : World, X = wr.alloc (.cells #[.int .u64 y, .int .u64 t] 53) := ⟨_, rfl⟩
      have hb2 : Below wr.heap.size wr w2 := by rw [hw2]; exact below1 _ _
      have H2 := Lib.hid (show JnI W (.slice pa0 n0 ca0) (.slice (some ⟨bb, ob, none⟩) m cb) la lb j pa na ca ra pl nl cl acc w2 ∧ CBox w2 zt y t ∧ W.heap.size ≤ zt ∧ ((Value.slice pl nl cl).ownBlock ≠ some zt) from
        ⟨HX.out.below hb2, by rw [hw2, hzt]; exact CBox.new _ _ _, by rw [hzt]; exact HX.out.bl.size, fun e => by have := HX.out.o.lt zt e; omega⟩)
      have HW2 := Lib.hid (And.intro hw2 hzt)
      clear hc hcs hye hte e2 hw2 hzt hb2 HX
      go_upto_block 2 with fail
      rw [← HW2.out.1, ← HW2.out.2]
      clear HW2 hy ht
      go_cut [0, 7] (fun sa sl wc => ∃ (pa : Option Addr) (na ca : Nat) (ra : List (Int × Int)) (pl : Option Addr) (nl cl : Nat) (acc : List (Int × Int)), sa = .slice pa na ca ∧ sl = .slice pl nl cl ∧ Hid (JnI W (.slice pa0 n0 ca0) (.slice (some ⟨bb, ob, none⟩) m cb) la lb j pa na ca ra pl nl cl acc wc ∧ CBox wc zt y t ∧ W.heap.size ≤ zt ∧ ((Value.slice pl nl cl).ownBlock ≠ some zt) ∧ joinL ra (lb.drop j) = (y, t) :: joinL ra (lb.drop (j + 1))))
      case first => as_aux_lemma =>
        go_wp2
        go_loopw [0, 7] (fun sa sl wc => ∃ (pa : Option Addr) (na ca : Nat) (ra : List (Int × Int)) (pl : Option Addr) (nl cl : Nat) (acc : List (Int × Int)), sa = .slice pa na ca ∧ sl = .slice pl nl cl ∧ Hid (JnI W (.slice pa0 n0 ca0) (.slice (some ⟨bb, ob, none⟩) m cb) la lb j pa na ca ra pl nl cl acc wc ∧ CBox wc zt y t ∧ W.heap.size ≤ zt ∧ ((Value.slice pl nl cl).ownBlock ≠ some zt))) (fun sa _ _ => slLen sa)
        case atStart => exact ⟨pa, na, ca, ra, pl, nl, cl, acc, rfl, rfl, H2⟩
        case round =>
          clear H2
          obtain ⟨pa, na, ca, ra, pl, nl, cl, acc, rfl, rfl, HX⟩ := hrel
          obtain ⟨hna, hnc, hcx⟩ := HX.out.1.a.len
          cases ra with
          | nil =>
            have h0 : na = 0 := hna
            subst h0
            clear hna hnc hcx
            go_upto_region 5 with fail
            go_quiet (fail)
            have HD := Lib.hid (show JnI W (.slice pa0 n0 ca0) (.slice (some ⟨bb, ob, none⟩) m cb) la lb j pa 0 ca [] pl nl cl acc (wr.drewN nq) ∧ CBox (wr.drewN nq) zt y t from ⟨HX.out.1.below (below_drewN (Below.refl _ _) nq), HX.out.2.1.below (below_drewN (Below.refl _ _) nq)⟩)
            go_wp2
            go_meet
            exact ⟨pa, 0, ca, [], pl, nl, cl, acc, rfl, rfl, HD.out.1, HD.out.2, HX.out.2.2.1, HX.out.2.2.2, by rw [HO.out, joinL_done]⟩
          | cons x ra =>
            obtain ⟨x1, x2⟩ := x
            obtain ⟨p', cap', e, -, -, hc⟩ := id HX.out.1.a
            injection e with e1 e2 e3
            subst e1 e3
            obtain ⟨b, off, rfl, -, hcs⟩ := hc (by simp)
            have hx := hcs 0 (by simp)
            rw [Nat.zero_mul, Nat.add_zero] at hx
            have hx : wr.cell? ⟨b, off, none⟩ = some (.int .u64 x1) ∧ wr.cell? ⟨b, off + 1, none⟩ = some (.int .u64 x2) := hx
            have hpos : (0 : Int) < (na : Int) := by have : na = ra.length + 1 := hna; omega
            have hposn : 0 < na := by omega
            have hne0 : ¬ na = 0 := by omega
            have hdec : decide (0 < na) = true := decide_eq_true hposn
            have HNA := Lib.hid (show na = ra.length + 1 from hna)
            clear hc hcs e2 hna
            go_upto_region 5 with fail
            refine wpTwo_begin (T := fun w' => CBox w' zt y t ∧ w'.cell? ⟨b, off, none⟩ = some (.int .u64 x1) ∧ w'.cell? ⟨b, off + 1, none⟩ = some (.int .u64 x2)) (S := fun _ => True) (late := fun _ => false) (by kernel_rfl) ?_
            obtain ⟨X, hX⟩ : ∃ Y : World, Y = wr.drew := ⟨_, rfl⟩
            rw [← hX]
            have hbx : Below wr.heap.size wr X := by rw [hX]; exact (Below.refl _ _).drew
            clear hX
            have HXX := Lib.hid (show JnI W (.slice pa0 n0 ca0) (.slice (some ⟨bb, ob, none⟩) m cb) la lb j (some ⟨b, off, none⟩) na ca ((x1, x2) :: ra) pl nl cl acc X ∧ CBox X zt y t ∧ X.cell? ⟨b, off, none⟩ = some (.int .u64 x1) ∧ X.cell? ⟨b, off + 1, none⟩ = some (.int .u64 x2) from ⟨HX.out.1.below hbx, HX.out.2.1.below hbx, below_cell hbx hx.1, below_cell hbx hx.2⟩)
            have hT0 := HXX.out.2
            have HC := Lib.hid (join1_c y t x1 x2 X)
            clear hbx hx
            refine wpTwo_takeT (i := 0) (v := .slice (some ⟨b, off, none⟩) na ca) rfl (by kernel_rfl) (by kernel_rfl) (by kernel_rfl) (fun _ _ _ h => h) ⟨by rfl, ?_⟩ hT0 ?_
            · rintro w ⟨hw1, hw2, hw3⟩
              go_simp
            (try simp only [Act.put, List.getElem_toArray, List.getElem_cons_zero, List.setIfInBounds_toArray, List.set_cons_succ, List.set_cons_zero])
            refine wpTwo_takeT (i := 1) (v := .int .i64 (na : Int)) rfl (by kernel_rfl) (by kernel_rfl) (by kernel_rfl) (fun _ _ _ h => h) ⟨by rfl, ?_⟩ hT0 ?_
            · rintro w ⟨hw1, hw2, hw3⟩
              go_simp
            (try simp only [Act.put, List.getElem_toArray, List.getElem_cons_succ, List.getElem_cons_zero, List.setIfInBounds_toArray, List.set_cons_succ, List.set_cons_zero])
            refine wpTwo_takeT (i := 2) (v := .bool true) rfl (by kernel_rfl) (by kernel_rfl) (by kernel_rfl) (fun _ _ _ h => h) ⟨by rfl, ?_⟩ hT0 ?_
            · rintro w ⟨hw1, hw2, hw3⟩
              go_simp
            (try simp only [Act.put, List.getElem_toArray, List.getElem_cons_succ, List.getElem_cons_zero, List.setIfInBounds_toArray, List.set_cons_succ, List.set_cons_zero])
            refine wpTwo_takeT (i := 3) (v := .bool true) rfl (by kernel_rfl) (by kernel_rfl) (by kernel_rfl) (fun _ _ _ h => h) ⟨by rfl, ?_⟩ hT0 ?_
            · rintro w ⟨hw1, hw2, hw3⟩
              go_simp
            (try simp only [Act.put, List.getElem_toArray, List.getElem_cons_succ, List.getElem_cons_zero, List.setIfInBounds_toArray, List.set_cons_succ, List.set_cons_zero])
            refine wpTwo_takeT (i := 4) (v := .func (.func 30) #[] #[]) rfl (by kernel_rfl) (by kernel_rfl) (by kernel_rfl) (fun _ _ _ h => h) ⟨by rfl, ?_⟩ hT0 ?_
            · rintro w ⟨hw1, hw2, hw3⟩
              go_simp
            (try simp only [Act.put, List.getElem_toArray, List.getElem_cons_succ, List.getElem_cons_zero, List.setIfInBounds_toArray, List.set_cons_succ, List.set_cons_zero])
            refine wpTwo_takeT (i := 5) (v := .agg #[.int .u64 y, .int .u64 t]) rfl (by kernel_rfl) (by kernel_rfl) (by kernel_rfl) (fun _ _ _ h => h) ⟨by rfl, ?_⟩ hT0 ?_
            · rintro w ⟨hw1, hw2, hw3⟩
              obtain ⟨c0, c1⟩ := hw1.cells
              go_simp
            (try simp only [Act.put, List.getElem_toArray, List.getElem_cons_succ, List.getElem_cons_zero, List.setIfInBounds_toArray, List.set_cons_succ, List.set_cons_zero])
            refine wpTwo_takeT (i := 6) (v := .slice (some ⟨b, off, none⟩) na ca) rfl (by kernel_rfl) (by kernel_rfl) (by kernel_rfl) (fun _ _ _ h => h) ⟨by rfl, ?_⟩ hT0 ?_
            · rintro w ⟨hw1, hw2, hw3⟩
              go_simp
            (try simp only [Act.put, List.getElem_toArray, List.getElem_cons_succ, List.getElem_cons_zero, List.setIfInBounds_toArray, List.set_cons_succ, List.set_cons_zero])
            refine wpTwo_takeT (i := 7) (v := .pointer (some ⟨b, off, none⟩)) rfl (by kernel_rfl) (by kernel_rfl) (by kernel_rfl) (fun _ _ _ h => h) ⟨by rfl, ?_⟩ hT0 ?_
            · rintro w ⟨hw1, hw2, hw3⟩
              go_simp
            (try simp only [Act.put, List.getElem_toArray, List.getElem_cons_succ, List.getElem_cons_zero, List.setIfInBounds_toArray, List.set_cons_succ, List.set_cons_zero])
            refine wpTwo_takeT (i := 8) (v := .agg #[.int .u64 x1, .int .u64 x2]) rfl (by kernel_rfl) (by kernel_rfl) (by kernel_rfl) (fun _ _ _ h => h) ⟨by rfl, ?_⟩ hT0 ?_
            · rintro w ⟨hw1, hw2, hw3⟩
              go_simp
            (try simp only [Act.put, List.getElem_toArray, List.getElem_cons_succ, List.getElem_cons_zero, List.setIfInBounds_toArray, List.set_cons_succ, List.set_cons_zero])
            refine wpTwo_ready (rs := [9]) (by kernel_rfl) (by simp) ?_
            refine (AllTwo.cons rfl (fun K hK => ?_) AllTwo.nil)
            go_simp
            (with_reducible refine HC.out.mono ?_)
            rintro e X1 ⟨rfl, hb1⟩
            have HX1 := Lib.hid (show JnI W (.slice pa0 n0 ca0) (.slice (some ⟨bb, ob, none⟩) m cb) la lb j (some ⟨b, off, none⟩) na ca ((x1, x2) :: ra) pl nl cl acc X1 ∧ CBox X1 zt y t ∧ X1.cell? ⟨b, off, none⟩ = some (.int .u64 x1) ∧ X1.cell? ⟨b, off + 1, none⟩ = some (.int .u64 x2) from ⟨HXX.out.1.below hb1, HXX.out.2.1.below hb1, below_cell hb1 HXX.out.2.2.1, below_cell hb1 HXX.out.2.2.2⟩)
            have hT1 := HX1.out.2
            clear hb1 HXX HC hT0
            go_wp2_with fail
            refine hK.out _ _ ⟨hT1, fun _ _ => trivial⟩ ?_
            clear hK K
            (try simp only [Act.put, List.getElem_toArray, List.getElem_cons_succ, List.getElem_cons_zero, List.setIfInBounds_toArray, List.set_cons_succ, List.set_cons_zero])
            obtain ⟨R, hR⟩ : ∃ R, R = decide (y < x1) := ⟨_, rfl⟩
            rw [← hR]
            refine wpTwo_takeT (i := 10) (v := .bool (!R)) rfl (by kernel_rfl) (by kernel_rfl) (by kernel_rfl) (fun _ _ _ h => h) ⟨by rfl, ?_⟩ hT1 ?_
            · rintro w ⟨hw1, hw2, hw3⟩
              go_simp
            (try simp only [Act.put, List.getElem_toArray, List.getElem_cons_succ, List.getElem_cons_zero, List.setIfInBounds_toArray, List.set_cons_succ, List.set_cons_zero])
            refine wpTwo_takeT (i := 11) (v := .bool (!R)) rfl (by kernel_rfl) (by kernel_rfl) (by kernel_rfl) (fun _ _ _ h => h) ⟨by rfl, ?_⟩ hT1 ?_
            · rintro w ⟨hw1, hw2, hw3⟩
              go_simp
            (try simp only [Act.put, List.getElem_toArray, List.getElem_cons_succ, List.getElem_cons_zero, List.setIfInBounds_toArray, List.set_cons_succ, List.set_cons_zero])
            refine wpTwo_end (by kernel_rfl) ?_ _
            cases R with
            | true =>
              have HE := Lib.hid (show joinL ((x1, x2) :: ra) (lb.drop j) = (y, t) :: joinL ((x1, x2) :: ra) (lb.drop (j + 1)) by rw [HO.out]; exact joinL_other _ _ (by have := of_decide_eq_true hR.symm; show ¬ x1 ≤ y; omega))
              clear hR
              go_wp2
              go_meet
              exact ⟨_, na, ca, _, pl, nl, cl, acc, rfl, rfl, HX1.out.1, HX1.out.2.1, HX.out.2.2.1, HX.out.2.2.2, HE.out⟩
            | false =>
              have HE := Lib.hid (show joinL ((x1, x2) :: ra) (lb.drop j) = (x1, x2) :: joinL ra (lb.drop j) by rw [HO.out]; exact joinL_first _ _ (by have := of_decide_eq_false hR.symm; show x1 ≤ y; omega))
              have hsl := run_restC b off na ca (by have := HNA.out; omega) hnc hcx
              obtain ⟨w3, hw3⟩ : ∃ Y : World, Y = X1.alloc (.cells #[.int .u64 x1, .int .u64 x2] 53) := ⟨_, rfl⟩
              have hb3 : Below X1.heap.size X1 w3 := by rw [hw3]; exact below1 _ _
              have H3 := Lib.hid (show JnI W (.slice pa0 n0 ca0) (.slice (some ⟨bb, ob, none⟩) m cb) la lb j (some ⟨b, off, none⟩) na ca ((x1, x2) :: ra) pl nl cl acc w3 ∧ CBox w3 zt y t ∧ CBox w3 X1.heap.size x1 x2 ∧ W.heap.size ≤ w3.heap.size ∧ acc.length ≤ 2000 from
                ⟨HX1.out.1.below hb3, HX1.out.2.1.below hb3, by rw [hw3]; exact CBox.new _ _ _, by have := HX1.out.1.bl.size; have := hb3.size; omega, by have := HX1.out.1.size; have := HM.out; omega⟩)
              have HW3 := Lib.hid hw3
              obtain ⟨d0, d1⟩ := HX1.out.2.2
              clear hR hw3 hb3
              go_wp2_with (first | (at_builtin; rw [← HW3.out]; refine wpList_app_oneA rfl _ _ rfl W.heap.size (.slice pl nl cl) nl acc H3.out.1.len.symm rfl H3.out.1.o X1.heap.size 1 x1 x2 rfl H3.out.2.2.1.cells.1 H3.out.2.2.1.cells.2 (by rw [H3.out.1.len]; have := H3.out.2.2.2.2; omega) H3.out.2.2.2.1 ?_; intro q r w4 ho4 hk4 hl4) | fail)
              have hz4 := H3.out.2.1.keeps hk4 (fun e => HX.out.2.2.2 e.symm)
              have hob : (Value.slice q (nl + 1) r).ownBlock ≠ some zt := fun e => by
                rcases hl4 with h | h
                · exact HX.out.2.2.2 (h.symm.trans e)
                · have e2 := h.symm.trans e
                  injection e2 with e2
                  have := H3.out.2.1.lt
                  omega
              have H4 := Lib.hid (show JnI W (.slice pa0 n0 ca0) (.slice (some ⟨bb, ob, none⟩) m cb) la lb j (restC b off ca) (na - 1) (ca - 1) ra q (nl + 1) r (acc ++ [(x1, x2)]) w4 ∧ CBox w4 zt y t ∧ (Value.slice q (nl + 1) r).ownBlock ≠ some zt from
                ⟨H3.out.1.app ho4 hk4 H3.out.1.a.rest (fun h => by unfold restC at h; split at h <;> cases h) HE.out, hz4, hob⟩)
              clear ho4 hk4 hz4 hob d0 d1 hl4
              go_roundw
              case rel => exact ⟨_, na - 1, ca - 1, ra, q, nl + 1, r, _, rfl, rfl, H4.out.1, H4.out.2.1, HX.out.2.2.1, H4.out.2.2⟩
              case measure => have := HNA.out; simp [slLen]; omega
      case rest =>
        clear H2
        obtain ⟨pa, na, ca, ra, pl, nl, cl, acc, rfl, rfl, HX⟩ := hcut
        obtain ⟨c0, c1⟩ := HX.out.2.1.cells
        obtain ⟨w3, hw3⟩ : ∃ Y : World, Y = wc.alloc (.cells #[.int .u64 y, .int .u64 t] 53) := ⟨_, rfl⟩
        have hb3 : Below wc.heap.size wc w3 := by rw [hw3]; exact below1 _ _
        have H3 := Lib.hid (show JnI W (.slice pa0 n0 ca0) (.slice (some ⟨bb, ob, none⟩) m cb) la lb j pa na ca ra pl nl cl acc w3 ∧ CBox w3 wc.heap.size y t ∧ W.heap.size ≤ w3.heap.size ∧ acc.length ≤ 2000 from
          ⟨HX.out.1.below hb3, by rw [hw3]; exact CBox.new _ _ _, by have := HX.out.1.bl.size; have := hb3.size; omega, by have := HX.out.1.size; have := HM.out; omega⟩)
        have HW3 := Lib.hid hw3
        clear hw3 hb3
        go_wp2_with (first | (at_builtin; rw [← HW3.out]; refine wpList_app_one rfl _ _ rfl W.heap.size (.slice pl nl cl) nl acc H3.out.1.len.symm rfl H3.out.1.o wc.heap.size 1 y t rfl H3.out.2.1.cells.1 H3.out.2.1.cells.2 (by rw [H3.out.1.len]; have := H3.out.2.2.2; omega) H3.out.2.2.1 ?_; intro q r w4 ho4 hk4) | fail)
        have H4 := Lib.hid (H3.out.1.app (c := (y, t)) (k := j + 1) (ra' := ra) ho4 hk4 H3.out.1.a H3.out.1.nz HX.out.2.2.2.2)
        clear ho4 hk4 c0 c1
        go_roundw
        case rel => exact ⟨j + 1, pa, na, ca, ra, q, nl + 1, r, _, by omega, by go_num, rfl, rfl, H4.out⟩
        case measure => simp [intOf]; omega
    · have hjm : j = m := by omega
      subst hjm
      have HEQ := Lib.hid (show acc ++ ra = joinL la lb by have h := HX.out.eq; rwa [HM.out.1, List.drop_length, joinL_nil] at h)
      have HLL := Lib.hid (show na = ra.length ∧ nl = acc.length ∧ nl + na ≤ 2000 from by have h1 := HX.out.a.len; have h2 := HX.out.len; have h3 := congrArg List.length HEQ.out; rw [List.length_append, joinL_len _ la lb (Nat.le_refl _)] at h3; have := HM.out; exact ⟨h1.1, h2, by omega⟩)
      go_wp2_with (first | (at_builtin; refine wpList_app_row rfl _ _ rfl W.heap.size (.slice pl nl cl) nl acc rfl HX.out.o pa na ca ra rfl (HX.out.a.sub (fun _ h => False.elim h)) HX.out.nz (by have := HLL.out.2.2; omega) HX.out.bl.size ?_; intro q r w4 ho4 hk4) | fail)
      have hb4 : Below W.heap.size W w4 := HX.out.bl.trans (hk4.below HX.out.bl.size (fun k e => (HX.out.o.lt k e.symm).1))
      have hnn : nl + na = (joinL la lb).length := by rw [← HEQ.out, List.length_append]; have := HLL.out; omega
      rw [HEQ.out, hnn] at ho4
      rw [hnn]
      clear hnn hk4
      go_wp2
      go_ret
      exact ⟨⟨q, r, rfl, ho4⟩, hb4⟩

end Go.Proofs.Ytdagcimkajmkaaa
namespace Go.Proofs.Ytdagcimkajmkaaa
set_option maxRecDepth 100000
open Go.RowKit Go.Shelf
attribute [local go_sem] Oper.semAt_some

/-- What Join answers. -/
def joinE (oa : Int) (la : List (Int × Int)) (ob : Int) (lb : List (Int × Int)) : Int :=
  if mayB oa la = true ∧ mayB ob lb = true then (if oa = ob then (if 16 < la.length + lb.length then 6 else 0) else 2) else 230
def JoinQ (B : Nat) (oa : Int) (la : List (Int × Int)) (ob : Int) (lb : List (Int × Int)) (e : Ending) (w' : World) : Prop :=
  (joinE oa la ob lb = 0 ∧ AnsQ B 0 oa (joinL la lb) e w') ∨ (joinE oa la ob lb ≠ 0 ∧ AnsQ B (joinE oa la ob lb) 0 [] e w')
theorem wQ3_facts (W : World) (v : Value) (o : Int) (v' : Value) (o' : Int) (w0 : World) (h : w0 = ((W.alloc (.cells #[v, .int .u64 o] 25)).alloc (.cells #[v', .int .u64 o'] 25)).alloc (.cells #[.slice none 0 0, .int .u64 0] 25)) : QBox w0 W.heap.size v o ∧ QBox w0 (W.heap.size + 1) v' o' ∧ QBox w0 (W.heap.size + 2) (.slice none 0 0) 0 ∧ Below W.heap.size W w0 ∧ w0.heap.size = W.heap.size + 3 := by
  obtain ⟨h1, h2, h3, h4⟩ := wQ2_facts W v o v' o'
  unfold wQ2 at h1 h2 h3 h4
  have h5 := below1 ((W.alloc (.cells #[v, .int .u64 o] 25)).alloc (.cells #[v', .int .u64 o'] 25)) (.cells #[.slice none 0 0, .int .u64 0] 25)
  have h6 := QBox.new ((W.alloc (.cells #[v, .int .u64 o] 25)).alloc (.cells #[v', .int .u64 o'] 25)) (.slice none 0 0) 0
  rw [h4] at h6
  rw [h]
  exact ⟨h1.below h5, h2.below h5, h6, below3 _ _ _ _, by simp⟩

set_option maxHeartbeats 16000000 in
theorem join_c (va vb : Value) (oa ob : Int) (la lb : List (Int × Int)) (W : World) (ha : CbOut NoS W va la) (hz : NilZ va) (hb : CbOut NoS W vb lb) (hoa : 0 ≤ oa) (hob : 0 ≤ ob) :
    Calls Try.prog 22 #[.agg #[va, .int .u64 oa], .agg #[vb, .int .u64 ob]] W fun e w' => JoinQ W.heap.size oa la ob lb e w' ∧ Below W.heap.size W w' := by
  obtain ⟨z, hzz⟩ : ∃ z, z = W.heap.size := ⟨_, rfl⟩
  obtain ⟨w0, hw0⟩ : ∃ X : World, X = ((W.alloc (.cells #[va, .int .u64 oa] 25)).alloc (.cells #[vb, .int .u64 ob] 25)).alloc (.cells #[.slice none 0 0, .int .u64 0] 25) := ⟨_, rfl⟩
  have hf := wQ3_facts W va oa vb ob w0 hw0
  have HF := Lib.hid (show QBox w0 z va oa ∧ QBox w0 (z + 1) vb ob ∧ QBox w0 (z + 2) (.slice none 0 0) 0 ∧ Below W.heap.size W w0 ∧ w0.heap.size = z + 3 ∧ CbOut NoS w0 va la ∧ CbOut NoS w0 vb lb ∧ W.heap.size ≤ z from by rw [hzz]; exact ⟨hf.1, hf.2.1, hf.2.2.1, hf.2.2.2.1, hf.2.2.2.2, ha.below hf.2.2.2.1, hb.below hf.2.2.2.1, Nat.le_refl _⟩)
  have HMA := Lib.hid (may_c va oa la w0 HF.out.2.2.2.2.2.1 hoa)
  obtain ⟨pa, ca, rfl, hlca, hlcm, -⟩ := id ha
  obtain ⟨pb, cb, rfl, hlcb, hlcn, -⟩ := id hb
  have HNZ := Lib.hid hz
  have HW0 := Lib.hid (And.intro hw0 hzz)
  obtain ⟨q0, q1⟩ := HF.out.1.cells
  rw [hw0, hzz] at q0 q1
  clear hw0 hf ha hb hz hzz
  go_enter Try.func22, Try.ntmps22
  go_wp2_with fail
  rw [← HW0.out.1]
  clear q0 q1
  (with_reducible refine HMA.out.mono ?_)
  rintro e w1 ⟨rfl, hb1⟩
  rw [← HW0.out.2]
  clear HW0
  have HG1 := Lib.hid (show QBox w1 z (.slice pa la.length ca) oa ∧ QBox w1 (z + 1) (.slice pb lb.length cb) ob ∧ QBox w1 (z + 2) (.slice none 0 0) 0 ∧ Below W.heap.size W w1 ∧ z + 3 ≤ w1.heap.size ∧ CbOut NoS w1 (.slice pa la.length ca) la ∧ CbOut NoS w1 (.slice pb lb.length cb) lb ∧ W.heap.size ≤ z from
    ⟨HF.out.1.below hb1, HF.out.2.1.below hb1, HF.out.2.2.1.below hb1, below_then HF.out.2.2.2.1 HF.out.2.2.2.1.size hb1, by have := hb1.size; have := HF.out.2.2.2.2.1; omega, HF.out.2.2.2.2.2.1.below hb1, HF.out.2.2.2.2.2.2.1.below hb1, HF.out.2.2.2.2.2.2.2⟩)
  clear hb1 HF HMA
  have HP := Lib.hid (fun (E : Int) (wx : World) (hx : QBox wx (z + 2) (.slice none 0 0) 0 ∧ Below W.heap.size W wx ∧ z + 3 ≤ wx.heap.size) => (show AnsQ W.heap.size E 0 [] (.returned (.tuple #[.agg #[.slice none 0 0, .int .u64 0], .int .i64 E])) ((wx.setCell ⟨z + 2, 0, none⟩ (.slice none 0 0)).setCell ⟨z + 2, 1, none⟩ (.int .u64 0)) ∧ QBox ((wx.setCell ⟨z + 2, 0, none⟩ (.slice none 0 0)).setCell ⟨z + 2, 1, none⟩ (.int .u64 0)) (z + 2) (.slice none 0 0) 0 ∧ Below W.heap.size W ((wx.setCell ⟨z + 2, 0, none⟩ (.slice none 0 0)).setCell ⟨z + 2, 1, none⟩ (.int .u64 0)) from
    ⟨ansQ_none _ _ _, hx.1.put _ _, hx.2.1.trans ((QBox.putK wx _ _ _).below hx.2.1.size (fun k e => by have := HG1.out.2.2.2.2.2.2.2; omega))⟩))
  cases hma : mayB oa la with
  | false =>
    have HE := Lib.hid (show joinE oa la ob lb = 230 by unfold joinE; rw [hma]; rfl)
    obtain ⟨r0, r1⟩ := HG1.out.2.2.1.cells
    have m0 := HG1.out.2.2.1.marks 0
    have m1 := HG1.out.2.2.1.marks 1
    have HPE := Lib.hid (HP.out 230 w1 ⟨HG1.out.2.2.1, HG1.out.2.2.2.1, HG1.out.2.2.2.2.1⟩)
    go_wp2
    exact bodyPost_ret (results_ct rfl _ _ _ rfl rfl (queue_load HPE.out.2.1)) rfl ⟨.inr ⟨by rw [HE.out]; decide, by rw [HE.out]; exact HPE.out.1⟩, HPE.out.2.2⟩
  | true =>
    obtain ⟨b0, b1⟩ := HG1.out.2.1.cells
    have HMB := Lib.hid (may_c (.slice pb lb.length cb) ob lb w1 HG1.out.2.2.2.2.2.2.1 hob)
    go_wp2_with fail
    (with_reducible refine HMB.out.mono ?_)
    rintro e w2 ⟨rfl, hb2⟩
    have HG := Lib.hid (show QBox w2 z (.slice pa la.length ca) oa ∧ QBox w2 (z + 1) (.slice pb lb.length cb) ob ∧ QBox w2 (z + 2) (.slice none 0 0) 0 ∧ Below W.heap.size W w2 ∧ z + 3 ≤ w2.heap.size ∧ CbOut NoS w2 (.slice pa la.length ca) la ∧ CbOut NoS w2 (.slice pb lb.length cb) lb ∧ W.heap.size ≤ z from
      ⟨HG1.out.1.below hb2, HG1.out.2.1.below hb2, HG1.out.2.2.1.below hb2, below_then HG1.out.2.2.2.1 HG1.out.2.2.2.1.size hb2, by have := hb2.size; have := HG1.out.2.2.2.2.1; omega, HG1.out.2.2.2.2.2.1.below hb2, HG1.out.2.2.2.2.2.2.1.below hb2, HG1.out.2.2.2.2.2.2.2⟩)
    clear hb2 HMB b0 b1
    obtain ⟨q0, q1⟩ := HG.out.1.cells
    obtain ⟨b0, b1⟩ := HG.out.2.1.cells
    obtain ⟨r0, r1⟩ := HG.out.2.2.1.cells
    have m0 := HG.out.2.2.1.marks 0
    have m1 := HG.out.2.2.1.marks 1
    have HPE := Lib.hid (fun E => HP.out E w2 ⟨HG.out.2.2.1, HG.out.2.2.2.1, HG.out.2.2.2.2.1⟩)
    clear HP HG1
    cases hmb : mayB ob lb with
    | false =>
      have HE := Lib.hid (show joinE oa la ob lb = 230 by unfold joinE; rw [hmb]; simp)
      go_wp2
      exact bodyPost_ret (results_ct rfl _ _ _ rfl rfl (queue_load (HPE.out 230).2.1)) rfl ⟨.inr ⟨by rw [HE.out]; decide, by rw [HE.out]; exact (HPE.out 230).1⟩, (HPE.out 230).2.2⟩
    | true =>
      obtain ⟨-, hla, -⟩ := may_parts hma
      obtain ⟨-, hlb, -⟩ := may_parts hmb
      have HE0 := Lib.hid (show joinE oa la ob lb = if oa = ob then (if 16 < la.length + lb.length then 6 else 0) else 2 from if_pos ⟨hma, hmb⟩)
      clear hma hmb
      by_cases hoo : oa = ob
      · have hoo' : (oa != ob) = false := by rw [hoo]; simp
        have HE1 := Lib.hid (HE0.out.trans (if_pos hoo))
        by_cases hfl : 16 < la.length + lb.length
        · have HE := Lib.hid (HE1.out.trans (if_pos hfl))
          have hfl' : (16 : Int) < (la.length : Int) + (lb.length : Int) := by omega
          subst hoo
          go_wp2
          exact bodyPost_ret (results_ct rfl _ _ _ rfl rfl (queue_load (HPE.out 6).2.1)) rfl ⟨.inr ⟨by rw [HE.out]; decide, by rw [HE.out]; exact (HPE.out 6).1⟩, (HPE.out 6).2.2⟩
        · have HE := Lib.hid (HE1.out.trans (if_neg hfl))
          have hfl' : (la.length : Int) + (lb.length : Int) ≤ 16 := by omega
          have HJ := Lib.hid (fun (X : World) (hbx : Below w2.heap.size w2 X) => joined_c (.slice pa la.length ca) (.slice pb lb.length cb) la lb X (HG.out.2.2.2.2.2.1.below hbx) HNZ.out (HG.out.2.2.2.2.2.2.1.below hbx) (by omega) (by omega))
          subst hoo
          clear HPE HE0 HE1 hfl r0 r1 m0 m1
          go_upto_region 8 with fail
          clear q0 q1 b0 b1 hfl' hoo'
          refine wpTwo_begin (T := fun w' => QBox w' z (.slice pa la.length ca) oa ∧ QBox w' (z + 1) (.slice pb lb.length cb) oa) (S := fun _ => True) (late := fun _ => false) (by kernel_rfl) ?_
          obtain ⟨X, hX⟩ : ∃ Y : World, Y = w2.drew := ⟨_, rfl⟩
          rw [← hX]
          have hbx : Below w2.heap.size w2 X := by rw [hX]; exact (Below.refl _ _).drew
          clear hX
          have HX := Lib.hid (show QBox X (z + 2) (.slice none 0 0) 0 ∧ Below W.heap.size W X ∧ z + 3 ≤ X.heap.size from ⟨HG.out.2.2.1.below hbx, below_then HG.out.2.2.2.1 HG.out.2.2.2.1.size hbx, by have := hbx.size; have := HG.out.2.2.2.2.1; omega⟩)
          have hT0 : QBox X z (.slice pa la.length ca) oa ∧ QBox X (z + 1) (.slice pb lb.length cb) oa := ⟨HG.out.1.below hbx, HG.out.2.1.below hbx⟩
          have HC := Lib.hid (HJ.out X hbx)
          clear hbx
          refine wpTwo_takeT (i := 0) (v := .pointer (some ⟨z, 0, none⟩)) rfl (by kernel_rfl) (by kernel_rfl) (by kernel_rfl) (fun _ _ _ h => h) ⟨by rfl, ?_⟩ hT0 ?_
          · rintro w ⟨hx1, hx2⟩
            obtain ⟨c0, c1⟩ := hx1.cells
            obtain ⟨c2, c3⟩ := hx2.cells
            go_simp
          (try simp only [Act.put, List.getElem_toArray, List.getElem_cons_zero, List.setIfInBounds_toArray, List.set_cons_succ, List.set_cons_zero])
          refine wpTwo_takeT (i := 1) (v := .slice pa la.length ca) rfl (by kernel_rfl) (by kernel_rfl) (by kernel_rfl) (fun _ _ _ h => h) ⟨by rfl, ?_⟩ hT0 ?_
          · rintro w ⟨hx1, hx2⟩
            obtain ⟨c0, c1⟩ := hx1.cells
            obtain ⟨c2, c3⟩ := hx2.cells
            go_simp
          (try simp only [Act.put, List.getElem_toArray, List.getElem_cons_succ, List.getElem_cons_zero, List.setIfInBounds_toArray, List.set_cons_succ, List.set_cons_zero])
          refine wpTwo_takeT (i := 2) (v := .pointer (some ⟨z + 1, 0, none⟩)) rfl (by kernel_rfl) (by kernel_rfl) (by kernel_rfl) (fun _ _ _ h => h) ⟨by rfl, ?_⟩ hT0 ?_
          · rintro w ⟨hx1, hx2⟩
            obtain ⟨c0, c1⟩ := hx1.cells
            obtain ⟨c2, c3⟩ := hx2.cells
            go_simp
          (try simp only [Act.put, List.getElem_toArray, List.getElem_cons_succ, List.getElem_cons_zero, List.setIfInBounds_toArray, List.set_cons_succ, List.set_cons_zero])
          refine wpTwo_takeT (i := 3) (v := .slice pb lb.length cb) rfl (by kernel_rfl) (by kernel_rfl) (by kernel_rfl) (fun _ _ _ h => h) ⟨by rfl, ?_⟩ hT0 ?_
          · rintro w ⟨hx1, hx2⟩
            obtain ⟨c0, c1⟩ := hx1.cells
            obtain ⟨c2, c3⟩ := hx2.cells
            go_simp
          (try simp only [Act.put, List.getElem_toArray, List.getElem_cons_succ, List.getElem_cons_zero, List.setIfInBounds_toArray, List.set_cons_succ, List.set_cons_zero])
          refine wpTwo_takeT (i := 4) (v := .func (.func 30) #[] #[]) rfl (by kernel_rfl) (by kernel_rfl) (by kernel_rfl) (fun _ _ _ h => h) ⟨by rfl, ?_⟩ hT0 ?_
          · rintro w ⟨hx1, hx2⟩
            obtain ⟨c0, c1⟩ := hx1.cells
            obtain ⟨c2, c3⟩ := hx2.cells
            go_simp
          (try simp only [Act.put, List.getElem_toArray, List.getElem_cons_succ, List.getElem_cons_zero, List.setIfInBounds_toArray, List.set_cons_succ, List.set_cons_zero])
          refine wpTwo_takeT (i := 6) (v := .pointer (some ⟨z, 1, none⟩)) rfl (by kernel_rfl) (by kernel_rfl) (by kernel_rfl) (fun _ _ _ h => h) ⟨by rfl, ?_⟩ hT0 ?_
          · rintro w ⟨hx1, hx2⟩
            obtain ⟨c0, c1⟩ := hx1.cells
            obtain ⟨c2, c3⟩ := hx2.cells
            go_simp
          (try simp only [Act.put, List.getElem_toArray, List.getElem_cons_succ, List.getElem_cons_zero, List.setIfInBounds_toArray, List.set_cons_succ, List.set_cons_zero])
          refine wpTwo_takeT (i := 7) (v := .int .u64 oa) rfl (by kernel_rfl) (by kernel_rfl) (by kernel_rfl) (fun _ _ _ h => h) ⟨by rfl, ?_⟩ hT0 ?_
          · rintro w ⟨hx1, hx2⟩
            obtain ⟨c0, c1⟩ := hx1.cells
            obtain ⟨c2, c3⟩ := hx2.cells
            go_simp
          (try simp only [Act.put, List.getElem_toArray, List.getElem_cons_succ, List.getElem_cons_zero, List.setIfInBounds_toArray, List.set_cons_succ, List.set_cons_zero])
          refine wpTwo_ready (rs := [5]) (by kernel_rfl) (by simp) ?_
          refine (AllTwo.cons rfl (fun K hK => ?_) AllTwo.nil)
          go_simp
          (with_reducible refine HC.out.mono ?_)
          rintro e X1 ⟨⟨p1, c1, rfl, o1⟩, hb1⟩
          obtain ⟨n1, hn1⟩ : ∃ n, n = (joinL la lb).length := ⟨_, rfl⟩
          rw [← hn1] at o1 ⊢
          have HX1 := Lib.hid (show QBox X1 (z + 2) (.slice none 0 0) 0 ∧ Below W.heap.size W X1 ∧ z + 3 ≤ X.heap.size ∧ X.heap.size ≤ X1.heap.size ∧ X1.ownsRow X.heap.size 53 2 (.slice p1 n1 c1) n1 (cvs (joinL la lb)) ∧ n1 = (joinL la lb).length from ⟨HX.out.1.below hb1, below_then HX.out.2.1 HX.out.2.1.size hb1, HX.out.2.2, hb1.size, o1, hn1⟩)
          have hT1 : QBox X1 z (.slice pa la.length ca) oa ∧ QBox X1 (z + 1) (.slice pb lb.length cb) oa := ⟨hT0.1.below hb1, hT0.2.below hb1⟩
          clear hb1 HX HC hT0 o1 hn1
          go_wp2_with fail
          refine hK.out _ _ ⟨hT1, fun _ _ => trivial⟩ ?_
          clear hK K
          (try simp only [Act.put, List.getElem_toArray, List.getElem_cons_succ, List.getElem_cons_zero, List.setIfInBounds_toArray, List.set_cons_succ, List.set_cons_zero])
          refine wpTwo_takeT (i := 8) (v := .agg #[.slice p1 n1 c1, .int .u64 oa]) rfl (by kernel_rfl) (by kernel_rfl) (by kernel_rfl) (fun _ _ _ h => h) ⟨by rfl, ?_⟩ hT1 ?_
          · rintro w ⟨hx1, hx2⟩
            obtain ⟨c0, c1⟩ := hx1.cells
            obtain ⟨c2, c3⟩ := hx2.cells
            go_simp
          (try simp only [Act.put, List.getElem_toArray, List.getElem_cons_succ, List.getElem_cons_zero, List.setIfInBounds_toArray, List.set_cons_succ, List.set_cons_zero])
          obtain ⟨r0, r1⟩ := HX1.out.1.cells
          have m0 := HX1.out.1.marks 0
          have m1 := HX1.out.1.marks 1
          refine wpTwo_ready (rs := [9]) (by kernel_rfl) (by simp) ?_
          refine (AllTwo.cons rfl (fun K hK => ?_) AllTwo.nil)
          obtain ⟨X2, hX2⟩ : ∃ Y : World, Y = (X1.setCell ⟨z + 2, 0, none⟩ (.slice p1 n1 c1)).setCell ⟨z + 2, 1, none⟩ (.int .u64 oa) := ⟨_, rfl⟩
          go_wp2_with fail
          rw [← hX2]
          have hk2 : Keeps (fun k => k = z + 2) X1 X2 := by rw [hX2]; exact QBox.putK _ _ _ _
          have hT2 : QBox X2 z (.slice pa la.length ca) oa ∧ QBox X2 (z + 1) (.slice pb lb.length cb) oa := ⟨hT1.1.keeps hk2 (by omega), hT1.2.keeps hk2 (by omega)⟩
          have HX2 := Lib.hid (show QBox X2 (z + 2) (.slice p1 n1 c1) oa ∧ Below W.heap.size W X2 ∧ X2.ownsRow W.heap.size 53 2 (.slice p1 n1 c1) n1 (cvs (joinL la lb)) from ⟨by rw [hX2]; exact HX1.out.1.put _ _, HX1.out.2.1.trans (hk2.below HX1.out.2.1.size (fun k e => by have := HG.out.2.2.2.2.2.2.2; omega)), (hk2.row HX1.out.2.2.2.2.1 (fun g e e2 => by have := (HX1.out.2.2.2.2.1.lt g e).1; have := HX1.out.2.2.1; omega)).mono (by have := HX1.out.2.2.1; have := HG.out.2.2.2.2.2.2.2; omega)⟩)
          clear hX2 hk2 r0 r1 m0 m1
          refine hK.out _ _ ⟨hT2, fun _ _ => trivial⟩ ?_
          clear hK K
          (try simp only [Act.put, List.getElem_toArray, List.getElem_cons_succ, List.getElem_cons_zero, List.setIfInBounds_toArray, List.set_cons_succ, List.set_cons_zero])
          refine wpTwo_takeT (i := 10) (v := .int .i64 0) rfl (by kernel_rfl) (by kernel_rfl) (by kernel_rfl) (fun _ _ _ h => h) ⟨by rfl, ?_⟩ hT2 ?_
          · rintro w ⟨hx1, hx2⟩
            obtain ⟨c0, c1⟩ := hx1.cells
            obtain ⟨c2, c3⟩ := hx2.cells
            go_simp
          (try simp only [Act.put, List.getElem_toArray, List.getElem_cons_succ, List.getElem_cons_zero, List.setIfInBounds_toArray, List.set_cons_succ, List.set_cons_zero])
          refine wpTwo_end (by kernel_rfl) ?_ _
          go_wp2
          have hnn := HX1.out.2.2.2.2.2
          subst hnn
          exact bodyPost_ret (results_ct rfl _ _ _ rfl rfl (queue_load HX2.out.1)) rfl ⟨.inl ⟨HE.out, _, rfl, HX2.out.2.2⟩, HX2.out.2.1⟩
      · have hoo' : (oa != ob) = true := by rw [bne_iff_ne]; exact hoo
        have HE := Lib.hid (HE0.out.trans (if_neg hoo))
        go_wp2
        exact bodyPost_ret (results_ct rfl _ _ _ rfl rfl (queue_load (HPE.out 2).2.1)) rfl ⟨.inr ⟨by rw [HE.out]; decide, by rw [HE.out]; exact (HPE.out 2).1⟩, (HPE.out 2).2.2⟩

end Go.Proofs.Ytdagcimkajmkaaa
