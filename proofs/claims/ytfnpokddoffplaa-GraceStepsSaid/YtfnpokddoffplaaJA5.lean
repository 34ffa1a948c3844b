/-
  Package grace: begin, report, picked.
  Conditions: the ranges of Go's types.
-/
import Derived.Test.YtfnpokddoffplaaJA4
import Derived.Lib.Hide
import Derived.WalkLawsBesides
import Derived.Maps.AppendAt
import Derived.RegionTactic
import Derived.Deep.QuietTactic
import Derived.BigQuiet
/-
  Rows of truth values: slices.Equal, slices.Clone, make.
  Conditions: their lengths.
-/
namespace Go.Proofs.Ytfnpokddoffplaa
set_option maxRecDepth 100000
open Go.RowKit Go.Shelf
attribute [local go_sem] Oper.semAt_some

set_option maxHeartbeats 4000000 in
theorem equalB_c (v0 v1 : Value) (xs ys : List Bool) (W : World) (hv0 : BoolsAt W v0 xs) (hv1 : BoolsAt W v1 ys) (hl0 : xs.length ≤ 9223372036854775807) (hl1 : ys.length ≤ 9223372036854775807) :
    Calls Try.prog 37 #[v0, v1] W fun e w' => e = .returned (.bool (decide (xs = ys))) ∧ Below W.heap.size W w' := by
  obtain ⟨p0, cap0, rfl, hc0⟩ := hv0
  obtain ⟨p1, cap1, rfl, hc1⟩ := hv1
  go_enter Try.func37, Try.ntmps37
  by_cases hlen : xs.length = ys.length
  · have hne : ((xs.length : Int) != (ys.length : Int)) = false := by rw [bne_eq_false_iff_eq]; omega
    have HL := Lib.hid hlen
    clear hlen
    go_wp2
    clear hne
    go_loopw [13] (fun iv wr => ∃ i : Nat, i ≤ xs.length ∧ iv = .int .i64 i ∧ xs.take i = ys.take i ∧ Below W.heap.size W wr) (fun iv _ => xs.length - (intOf iv).toNat)
    case atStart => exact ⟨0, Nat.zero_le _, rfl, rfl, Below.refl _ _⟩
    case round =>
      obtain ⟨i, hi, rfl, heq, hB⟩ := hrel
      by_cases hlt : i < xs.length
      · obtain ⟨b0, off0, rfl, hcs0⟩ := hc0 (by intro e; rw [e] at hlt; cases hlt)
        have hlt1 : i < ys.length := by have := HL.out; omega
        obtain ⟨b1, off1, rfl, hcs1⟩ := hc1 (by intro e; rw [e] at hlt1; cases hlt1)
        have hx := hcs0 i hlt
        have hy := hcs1 i hlt1
        have ha := List.take_succ_eq_append_getElem hlt
        have hb := List.take_succ_eq_append_getElem hlt1
        obtain ⟨x, hxe⟩ : ∃ x, x = xs[i] := ⟨_, rfl⟩
        obtain ⟨y, hye⟩ : ∃ y, y = ys[i] := ⟨_, rfl⟩
        rw [← hxe] at hx ha
        rw [← hye] at hy hb
        have hx' := (hB.cell (World.block_lt_of_cell? W _ hx)).trans hx
        have hy' := (hB.cell (World.block_lt_of_cell? W _ hy)).trans hy
        have HE := Lib.hid heq
        have HA := Lib.hid ha
        have HB := Lib.hid hb
        have HXY := Lib.hid (And.intro hxe hye)
        clear hx hy hcs0 hcs1 heq ha hb hxe hye
        by_cases hxy : x = y
        · subst hxy
          go_wp2
          go_quiet (fail)
          go_wp2
          all_goals
            go_roundw
            case rel => exact ⟨i + 1, by omega, by go_num, by rw [HA.out, HB.out, HE.out], below_drewN hB _⟩
            case measure => simp [intOf]; omega
        · have hr : decide (xs = ys) = false := by
            rw [decide_eq_false_iff_not]
            intro e
            subst e
            exact hxy (HXY.out.1.trans HXY.out.2.symm)
          have HR := Lib.hid hr
          obtain ⟨rfl, rfl⟩ | ⟨rfl, rfl⟩ : (x = true ∧ y = false) ∨ (x = false ∧ y = true) := by cases x <;> cases y <;> simp_all
          all_goals
            clear hr hxy
            go_wp2
            go_quiet (fail)
            go_wp2
            all_goals go_ret
            all_goals exact ⟨ret_bool HR.out.symm, below_drewN hB _⟩
      · have heq2 : xs = ys := by rwa [List.take_of_length_le (by omega), List.take_of_length_le (by have := HL.out; omega)] at heq
        have HE := Lib.hid heq2
        clear heq heq2
        go_wp2
        go_ret
        exact ⟨ret_bool (by simp [HE.out]), hB⟩
  · have hne : ((xs.length : Int) != (ys.length : Int)) = true := by rw [bne_iff_ne]; omega
    have hr : decide (xs = ys) = false := by rw [decide_eq_false_iff_not]; intro e; rw [e] at hlen; exact hlen rfl
    have HR := Lib.hid hr
    clear hr hlen
    go_wp2
    go_ret
    exact ⟨ret_bool HR.out.symm, Below.refl _ _⟩

theorem cloneB_info : (Try.prog.info? 4).map (fun i => (i.zero, i.size, i.bytes)) = some (some (.bool false), 1, 1) := by kernel_rfl

set_option maxHeartbeats 2000000 in
theorem cloneB (v : Value) (n : Nat) (xs : List Value) (W : World) (hv : ValsAt W v 1 n xs) (h1 : ∀ u ∈ xs, u.oneCell' = true) (hn : n ≤ 1099511627776) :
    Calls Try.prog 38 #[v] W fun e w' => OwnsNew W.heap.size 4 1 n xs e w' ∧ Below W.heap.size W w' := by
  obtain ⟨hlen, p, cap, rfl, ⟨rfl, rfl, rfl⟩ | ⟨ad, rfl, hcells⟩⟩ := hv
  · obtain rfl : xs = [] := List.eq_nil_of_length_eq_zero (by omega)
    have hcmp := fun w => Lib.run_eql_slice_nil (P := Try.prog) w 22 4 none 0 0 0 0 Try.underlying22
    go_enter Try.func38, Try.ntmps38
    go_wp2
    go_ret
    exact ⟨⟨_, rfl, World.ownsRow_nil _ _ _ _⟩, Below.refl _ _⟩
  · have hcmp := fun w => Lib.run_eql_slice_nil (P := Try.prog) w 22 4 (some ad) n cap 0 0 Try.underlying22
    obtain ⟨i0, hi, hz0, hz1, hz2⟩ := info_parts cloneB_info
    have hown := World.ownsRow_lit (base := W.heap.size) (e := 4) (size := 1) W #[] 0 (Nat.le_refl _) (by decide) rfl
    have hnews : ∀ j u, xs[j]? = some u → (W.alloc (Obj.cells #[] 4)).cell? (ad.add j) = some u := fun j u hj => by
      have h0 := hcells j u hj
      rw [World.cell?_alloc_lt _ _ _ (World.block_lt_of_cell? W _ h0)]
      exact h0
    have HN := Lib.hid hnews
    have H1 := Lib.hid h1
    have HO := Lib.hid hown
    clear hnews h1 hown hcells
    go_enter Try.func38, Try.ntmps38
    go_wp2_with (at_builtin; refine wpList_append_own _ rfl _ _ 22 rfl W.heap.size 4 i0 (.bool false) 1 1 Try.underlying22 hi hz0 hz1 hz2 rfl (by decide) _ _ _ rfl HO.out ad n cap xs rfl hlen HN.out H1.out (by unfold maxLen; omega) (by omega) (by simp) ?_; intro v' w1 hown' hgrow _)
    go_ret
    rw [Nat.zero_add, List.nil_append] at hown'
    exact ⟨⟨v', rfl, hown'⟩, below_grown ((Below.refl _ _).alloc (Nat.le_refl _) _) hgrow (fun k e => by cases e; exact Nat.le_refl _)⟩

theorem run_makeB (n : Nat) (hn : n ≤ 1099511627776) (w : World) : (Instr.makeSlice 22 (.int .i64 (n : Int)) (.int .i64 (n : Int))).run Try.prog w = .ok (.slice (some ⟨w.heap.size, 0, none⟩) n n) (w.alloc (.cells (Array.replicate n (Value.bool false)) 4)) := by
  obtain ⟨i0, hi, hz0, hz1, hz2⟩ := info_parts cloneB_info
  have := run_make (P := Try.prog) w 22 4 i0 (.bool false) Try.underlying22 hi hz0 .i64 .i64 (n : Int) (n : Int) (by omega) (by omega) (by rw [hz2]; omega) (by omega)
  rw [this, hz1]
  have e : madeCells (Value.bool false).cells ((n : Int).toNat * 1) = Array.replicate n (Value.bool false) := by
    apply Array.toList_inj.1
    rw [Nat.mul_one, Int.toNat_natCast, Array.toList_replicate]
    exact toList_madeCells_one _ n
  rw [e]
  simp

end Go.Proofs.Ytfnpokddoffplaa
/-
  Package grace: Check, Over, Same, New; must.
  Conditions: the ranges of Go's types.
-/
namespace Go.Proofs.Ytfnpokddoffplaa
set_option maxRecDepth 100000
open Go.RowKit Go.Shelf
attribute [local go_sem] Oper.semAt_some

/-- A panic of an error. -/
def woe (x : Int) : Ending := .panicked [{ v := .iface 29 (.int .i64 x), recovered := false }]

theorem must_ok (W : World) : Calls Try.prog 62 #[.int .i64 0] W fun e w' => e = .returned (.tuple #[]) ∧ w' = W := by
  go_enter Try.func62, Try.ntmps62
  go_wp2
  go_end0
  exact ⟨rfl, rfl⟩
theorem must_no (x : Int) (hx : x ≠ 0) (W : World) : Calls Try.prog 62 #[.int .i64 x] W fun e w' => e = woe x ∧ w' = W := by
  have hq : (x != 0) = true := by rw [bne_iff_ne]; exact hx
  clear hx
  go_enter Try.func62, Try.ntmps62
  go_wp2
  exact ⟨rfl, rfl, rfl⟩

set_option maxHeartbeats 4000000 in
theorem gcheck_c (g : GrS) (v : Value) (W : World) (hn : BoolsAt W v g.nd) (h1 : g.nd.length ≤ 9223372036854775807) :
    Calls Try.prog 33 #[.agg #[.int .i64 g.done, .int .i64 g.asked, .bool g.on, v]] W fun e w' => e = .returned (.int .i64 (if mayG g = true then 0 else 220)) ∧ Below W.heap.size W w' := by
  obtain ⟨w0, hw0⟩ : ∃ X : World, X = W.alloc (.cells #[.int .i64 g.done, .int .i64 g.asked, .bool g.on, v] 24) := ⟨_, rfl⟩
  have hb0 : Below W.heap.size W w0 := by rw [hw0]; exact below1 _ _
  have HB := Lib.hid hb0
  have HC := Lib.hid (gmay_c g v w0 (bools_below hn hb0) h1)
  have hbx : GBox w0 W.heap.size g.done g.asked g.on v := by rw [hw0]; exact GBox.new _ _ _ _ _
  obtain ⟨d0, d1, d2, d3⟩ := hbx.cells
  obtain ⟨p, c, rfl, -⟩ := hn
  clear hb0 h1 hbx
  cases hm : mayG g with
  | true =>
    rw [hm] at HC
    rw [if_pos rfl]
    clear hm
    go_enter Try.func33, Try.ntmps33
    go_wp2_with fail
    rw [← hw0]
    clear hw0
    (with_reducible refine HC.out.mono ?_)
    rintro e w1 ⟨rfl, hb1⟩
    have HB1 := Lib.hid (below_then HB.out HB.out.size hb1)
    clear hb1
    go_wp2
    go_ret
    exact ⟨rfl, HB1.out⟩
  | false =>
    rw [hm] at HC
    rw [if_neg Bool.false_ne_true]
    clear hm
    go_enter Try.func33, Try.ntmps33
    go_wp2_with fail
    rw [← hw0]
    clear hw0
    (with_reducible refine HC.out.mono ?_)
    rintro e w1 ⟨rfl, hb1⟩
    have HB1 := Lib.hid (below_then HB.out HB.out.size hb1)
    clear hb1
    go_wp2
    go_ret
    exact ⟨rfl, HB1.out⟩

def overB (g : GrS) (n : Int) : Bool := mayG g && (decide (1 ≤ n) && decide (n ≤ g.done))
set_option maxHeartbeats 4000000 in
theorem gover_c (g : GrS) (v : Value) (n : Int) (W : World) (hn : BoolsAt W v g.nd) (h1 : g.nd.length ≤ 9223372036854775807) :
    Calls Try.prog 30 #[.agg #[.int .i64 g.done, .int .i64 g.asked, .bool g.on, v], .int .i64 n] W fun e w' => e = .returned (.bool (overB g n)) ∧ Below W.heap.size W w' := by
  obtain ⟨w0, hw0⟩ : ∃ X : World, X = W.alloc (.cells #[.int .i64 g.done, .int .i64 g.asked, .bool g.on, v] 24) := ⟨_, rfl⟩
  have hb0 : Below W.heap.size W w0 := by rw [hw0]; exact below1 _ _
  have HB := Lib.hid hb0
  have HC := Lib.hid (gmay_c g v w0 (bools_below hn hb0) h1)
  have HBX := Lib.hid (show GBox w0 W.heap.size g.done g.asked g.on v by rw [hw0]; exact GBox.new _ _ _ _ _)
  obtain ⟨d0, d1, d2, d3⟩ := HBX.out.cells
  obtain ⟨p, c, rfl, -⟩ := hn
  unfold overB
  clear hb0 h1
  cases hm : mayG g with
  | true =>
    rw [hm] at HC
    rw [Bool.true_and]
    clear hm
    by_cases c1 : 1 ≤ n
    · rw [decide_eq_true c1, Bool.true_and]
      go_enter Try.func30, Try.ntmps30
      go_wp2_with fail
      rw [← hw0]
      clear hw0
      (with_reducible refine HC.out.mono ?_)
      rintro e w1 ⟨rfl, hb1⟩
      have HB1 := Lib.hid (below_then HB.out HB.out.size hb1)
      obtain ⟨d0, d1, d2, d3⟩ := (HBX.out.below hb1).cells
      clear hb1
      go_wp2
      go_ret
      exact ⟨rfl, HB1.out⟩
    · rw [decide_eq_false c1, Bool.false_and]
      go_enter Try.func30, Try.ntmps30
      go_wp2_with fail
      rw [← hw0]
      clear hw0
      (with_reducible refine HC.out.mono ?_)
      rintro e w1 ⟨rfl, hb1⟩
      have HB1 := Lib.hid (below_then HB.out HB.out.size hb1)
      obtain ⟨d0, d1, d2, d3⟩ := (HBX.out.below hb1).cells
      clear hb1
      go_wp2
      go_ret
      exact ⟨rfl, HB1.out⟩
  | false =>
    rw [hm] at HC
    rw [Bool.false_and]
    clear hm
    go_enter Try.func30, Try.ntmps30
    go_wp2_with fail
    rw [← hw0]
    clear hw0
    (with_reducible refine HC.out.mono ?_)
    rintro e w1 ⟨rfl, hb1⟩
    have HB1 := Lib.hid (below_then HB.out HB.out.size hb1)
    clear hb1
    go_wp2
    go_ret
    exact ⟨rfl, HB1.out⟩

def gsameB (s t : GrS) : Bool := decide (s.done = t.done) && (decide (s.asked = t.asked) && (decide (s.on = t.on) && decide (s.nd = t.nd)))
theorem gsameB_iff (s t : GrS) : gsameB s t = true ↔ s = t := by
  obtain ⟨a, b, c, d⟩ := s
  obtain ⟨a', b', c', d'⟩ := t
  unfold gsameB
  simp
/-- Two boxes. -/
def wSG (W : World) (d a : Int) (on : Bool) (v : Value) (d' a' : Int) (on' : Bool) (v' : Value) : World := (W.alloc (.cells #[.int .i64 d, .int .i64 a, .bool on, v] 24)).alloc (.cells #[.int .i64 d', .int .i64 a', .bool on', v'] 24)
theorem wSG_facts (W : World) (d a : Int) (on : Bool) (v : Value) (d' a' : Int) (on' : Bool) (v' : Value) : GBox (wSG W d a on v d' a' on' v') W.heap.size d a on v ∧ GBox (wSG W d a on v d' a' on' v') (W.heap.size + 1) d' a' on' v' ∧ Below W.heap.size W (wSG W d a on v d' a' on' v') := by
  refine ⟨(GBox.new W d a on v).below (below1 _ _), ?_, below2 _ _ _⟩
  have := GBox.new (W.alloc (.cells #[.int .i64 d, .int .i64 a, .bool on, v] 24)) d' a' on' v'
  rwa [World.size_alloc] at this

set_option maxHeartbeats 8000000 in
theorem gsame_c (s t : GrS) (v v' : Value) (W : World) (hn : BoolsAt W v s.nd) (hn' : BoolsAt W v' t.nd) (l1 : s.nd.length ≤ 9223372036854775807) (l2 : t.nd.length ≤ 9223372036854775807) :
    Calls Try.prog 35 #[.agg #[.int .i64 s.done, .int .i64 s.asked, .bool s.on, v], .agg #[.int .i64 t.done, .int .i64 t.asked, .bool t.on, v']] W fun e w' => e = .returned (.bool (gsameB s t)) ∧ Below W.heap.size W w' := by
  have HE := Lib.hid (fun (Z : World) (hb : Below W.heap.size W Z) => equalB_c v v' s.nd t.nd Z (bools_below hn hb) (bools_below hn' hb) l1 l2)
  have HF := Lib.hid (wSG_facts W s.done s.asked s.on v t.done t.asked t.on v')
  obtain ⟨w0, hw0⟩ : ∃ X, X = wSG W s.done s.asked s.on v t.done t.asked t.on v' := ⟨_, rfl⟩
  rw [← hw0] at HF
  unfold wSG at hw0
  obtain ⟨p, c, rfl, -⟩ := hn
  obtain ⟨p', c', rfl, -⟩ := hn'
  obtain ⟨d0, d1, d2, d3⟩ := HF.out.1.cells
  obtain ⟨e0, e1, e2, e3⟩ := HF.out.2.1.cells
  have HB := Lib.hid HF.out.2.2
  clear l1 l2
  unfold gsameB
  by_cases h1 : s.done = t.done
  · have q1 : (s.done == t.done) = true := by rw [beq_iff_eq]; exact h1
    rw [decide_eq_true h1, Bool.true_and]
    clear h1
    by_cases h2 : s.asked = t.asked
    · have q2 : (s.asked == t.asked) = true := by rw [beq_iff_eq]; exact h2
      rw [decide_eq_true h2, Bool.true_and]
      clear h2
      by_cases h3 : s.on = t.on
      · have q3 : (s.on == t.on) = true := by rw [beq_iff_eq]; exact h3
        rw [decide_eq_true h3, Bool.true_and]
        clear h3
        have HEE := Lib.hid (HE.out w0 HB.out)
        clear HE
        go_enter Try.func35, Try.ntmps35
        go_wp2_with fail
        rw [← hw0]
        clear hw0
        (with_reducible refine HEE.out.mono ?_)
        rintro e w1 ⟨rfl, hb1⟩
        have HB1 := Lib.hid (below_then HB.out HB.out.size hb1)
        clear hb1
        go_wp2
        go_ret
        exact ⟨rfl, HB1.out⟩
      · have q3 : (s.on == t.on) = false := by rw [beq_eq_false_iff_ne]; exact h3
        rw [decide_eq_false h3, Bool.false_and]
        clear h3 HE
        rw [hw0] at HB
        go_enter Try.func35, Try.ntmps35
        go_wp2
        go_ret
        exact ⟨rfl, below2 _ _ _⟩
    · have q2 : (s.asked == t.asked) = false := by rw [beq_eq_false_iff_ne]; exact h2
      rw [decide_eq_false h2, Bool.false_and]
      clear h2 HE
      rw [hw0] at HB
      go_enter Try.func35, Try.ntmps35
      go_wp2
      go_ret
      exact ⟨rfl, below2 _ _ _⟩
  · have q1 : (s.done == t.done) = false := by rw [beq_eq_false_iff_ne]; exact h1
    rw [decide_eq_false h1, Bool.false_and]
    clear h1 HE
    rw [hw0] at HB
    go_enter Try.func35, Try.ntmps35
    go_wp2
    go_ret
    exact ⟨rfl, below2 _ _ _⟩

/-- A grace's slot for an answer. -/
def zeroG : Value := .agg #[.int .i64 0, .int .i64 0, .bool false, .slice none 0 0]

set_option maxHeartbeats 4000000 in
theorem gnew_c (n : Nat) (h1 : 1 ≤ n) (h8 : n ≤ 8) (W : World) : Calls Try.prog 57 #[.int .i64 (n : Int)] W fun e w' => (∃ b, e = .returned (.tuple #[.agg #[.int .i64 0, .int .i64 0, .bool false, .slice (some ⟨b, 0, none⟩) n n], .int .i64 0]) ∧ BBlock w' b (List.replicate n false) ∧ W.heap.size ≤ b) ∧ Below W.heap.size W w' := by
  have hmk := run_makeB n (by omega)
  have HC := Lib.hid (fun (W : World) => gmayBe_c (n : Int) W)
  rw [show mayCpus (n : Int) = true by unfold mayCpus; simp; omega] at HC
  obtain ⟨wA, hwA⟩ : ∃ X : World, X = W.alloc (.cells #[.int .i64 0, .int .i64 0, .bool false, .slice none 0 0] 24) := ⟨_, rfl⟩
  have HA := Lib.hid (show GBox wA W.heap.size 0 0 false (.slice none 0 0) ∧ Below W.heap.size W wA ∧ wA.heap.size = W.heap.size + 1 by rw [hwA]; exact ⟨GBox.new W 0 0 false _, below1 _ _, World.size_alloc _ _⟩)
  obtain ⟨w0, hw0⟩ : ∃ X : World, X = wA.alloc (.cells (Array.replicate n (Value.bool false)) 4) := ⟨_, rfl⟩
  have hb0 : Below wA.heap.size wA w0 := by rw [hw0]; exact below1 _ _
  have HF := Lib.hid (show GBox w0 W.heap.size 0 0 false (.slice none 0 0) ∧ BBlock w0 wA.heap.size (List.replicate n false) ∧ Below W.heap.size W w0 from ⟨HA.out.1.below hb0, by
    unfold BBlock
    rw [hw0, World.alloc_heap_new]
    simp, below_then HA.out.2.1 HA.out.2.1.size hb0⟩)
  obtain ⟨d0, d1, d2, d3⟩ := HF.out.1.cells
  have m0 := HF.out.1.marks 0
  have m1 := HF.out.1.marks 1
  have m2 := HF.out.1.marks 2
  have m3 := HF.out.1.marks 3
  have HP := Lib.hid (HF.out.1.put 0 0 false (.slice (some ⟨wA.heap.size, 0, none⟩) n n))
  have HK := Lib.hid (GBox.putK w0 W.heap.size 0 0 false (.slice (some ⟨wA.heap.size, 0, none⟩) n n))
  rw [hw0] at d0 d1 d2 d3 m0 m1 m2 m3
  rw [hw0] at HP
  have HW0 := Lib.hid hw0
  clear hb0 hw0
  go_enter Try.func57, Try.ntmps57
  go_wp2_with fail
  (with_reducible refine (HC.out _).mono ?_)
  rintro e w1 ⟨rfl, rfl⟩
  go_upto_region 3 with fail
  rw [← hwA]
  clear hwA
  go_wp2
  refine bodyPost_ret (HP.out.result2 rfl _ rfl rfl) rfl ⟨⟨_, rfl, ?_, by have := HA.out.2.2; omega⟩, ?_⟩
  · rw [← HW0.out]; exact HF.out.2.1.keeps HK.out (by have := HA.out.2.2; omega)
  · rw [← HW0.out]; exact HF.out.2.2.trans (HK.out.below HF.out.2.2.size (fun k e => by omega))

end Go.Proofs.Ytfnpokddoffplaa
/-
  Package grace: what a turn holds; at, order.
  Conditions: the ranges of Go's types.
-/
namespace Go.Proofs.Ytfnpokddoffplaa
set_option maxRecDepth 100000
open Go.RowKit Go.Shelf
attribute [local go_sem] Oper.semAt_some

/-- What box a turn lies in. -/
def TBox (W : World) (z : Nat) (now : Int) (u v : Value) (d a : Int) (on : Bool) (nv lv : Value) : Prop := W.heap[z]? = some (.cells #[.int .i64 now, u, v, .int .i64 d, .int .i64 a, .bool on, nv, lv] 71 (0, 0))
theorem TBox.cells {W : World} {z : Nat} {now : Int} {u v : Value} {d a : Int} {on : Bool} {nv lv : Value} (h : TBox W z now u v d a on nv lv) : W.cell? ⟨z, 0, none⟩ = some (.int .i64 now) ∧ W.cell? ⟨z, 1, none⟩ = some u ∧ W.cell? ⟨z, 2, none⟩ = some v ∧ W.cell? ⟨z, 3, none⟩ = some (.int .i64 d) ∧ W.cell? ⟨z, 4, none⟩ = some (.int .i64 a) ∧ W.cell? ⟨z, 5, none⟩ = some (.bool on) ∧ W.cell? ⟨z, 6, none⟩ = some nv ∧ W.cell? ⟨z, 7, none⟩ = some lv := by
  have h' : W.heap[z]? = _ := h
  simp [World.cell?, h']
theorem TBox.marks {W : World} {z : Nat} {now : Int} {u v : Value} {d a : Int} {on : Bool} {nv lv : Value} (h : TBox W z now u v d a on nv lv) (i : Nat) : W.frozen? ⟨z, i, none⟩ = false := by
  have h' : W.heap[z]? = _ := h
  simp [World.frozen?, h']
theorem TBox.lt {W : World} {z : Nat} {now : Int} {u v : Value} {d a : Int} {on : Bool} {nv lv : Value} (h : TBox W z now u v d a on nv lv) : z < W.heap.size := (Array.getElem?_eq_some_iff.1 h).1
theorem TBox.below {W W' : World} {z : Nat} {now : Int} {u v : Value} {d a : Int} {on : Bool} {nv lv : Value} (h : TBox W z now u v d a on nv lv) (hb : Below W.heap.size W W') : TBox W' z now u v d a on nv lv := (hb.block z h.lt).trans h
theorem TBox.keeps {S : Nat → Prop} {W W' : World} {z : Nat} {now : Int} {u v : Value} {d a : Int} {on : Bool} {nv lv : Value} (h : TBox W z now u v d a on nv lv) (hk : Keeps S W W') (hz : ¬ S z) : TBox W' z now u v d a on nv lv := (hk.block z h.lt hz).trans h
theorem TBox.new (W : World) (now : Int) (u v : Value) (d a : Int) (on : Bool) (nv lv : Value) : TBox (W.alloc (.cells #[.int .i64 now, u, v, .int .i64 d, .int .i64 a, .bool on, nv, lv] 71)) W.heap.size now u v d a on nv lv := World.alloc_heap_new W _
theorem TBox.set3 {W : World} {z : Nat} {now : Int} {u v : Value} {d a : Int} {on : Bool} {nv lv : Value} (h : TBox W z now u v d a on nv lv) (x : Int) : TBox (W.setCell ⟨z, 3, none⟩ (.int .i64 x)) z now u v x a on nv lv := by
  unfold TBox; rw [heap_setCell_same W z 3 _ _ _ h]; rfl
theorem TBox.set4 {W : World} {z : Nat} {now : Int} {u v : Value} {d a : Int} {on : Bool} {nv lv : Value} (h : TBox W z now u v d a on nv lv) (x : Int) : TBox (W.setCell ⟨z, 4, none⟩ (.int .i64 x)) z now u v d x on nv lv := by
  unfold TBox; rw [heap_setCell_same W z 4 _ _ _ h]; rfl
theorem TBox.set5 {W : World} {z : Nat} {now : Int} {u v : Value} {d a : Int} {on : Bool} {nv lv : Value} (h : TBox W z now u v d a on nv lv) (x : Bool) : TBox (W.setCell ⟨z, 5, none⟩ (.bool x)) z now u v d a x nv lv := by
  unfold TBox; rw [heap_setCell_same W z 5 _ _ _ h]; rfl
theorem TBox.set7 {W : World} {z : Nat} {now : Int} {u v : Value} {d a : Int} {on : Bool} {nv lv : Value} (h : TBox W z now u v d a on nv lv) (x : Value) : TBox (W.setCell ⟨z, 7, none⟩ x) z now u v d a on nv x := by
  unfold TBox; rw [heap_setCell_same W z 7 _ _ _ h]; rfl
theorem TBox.putG {W : World} {z : Nat} {now : Int} {u v : Value} {d0 a0 : Int} {on0 : Bool} {nv0 lv : Value} (h : TBox W z now u v d0 a0 on0 nv0 lv) (d a : Int) (on : Bool) (nv : Value) : TBox ((((W.setCell ⟨z, 3, none⟩ (.int .i64 d)).setCell ⟨z, 4, none⟩ (.int .i64 a)).setCell ⟨z, 5, none⟩ (.bool on)).setCell ⟨z, 6, none⟩ nv) z now u v d a on nv lv := by
  have h3 := ((h.set3 d).set4 a).set5 on
  unfold TBox; rw [heap_setCell_same _ z 6 _ _ _ h3]; rfl
theorem TBox.putR {W : World} {z : Nat} {now0 : Int} {u0 v0 : Value} {d a : Int} {on : Bool} {nv lv : Value} (h : TBox W z now0 u0 v0 d a on nv lv) (now : Int) (u v : Value) : TBox (((W.setCell ⟨z, 0, none⟩ (.int .i64 now)).setCell ⟨z, 1, none⟩ u).setCell ⟨z, 2, none⟩ v) z now u v d a on nv lv := by
  have h0 := heap_setCell_same W z 0 _ _ (.int .i64 now) h
  have h1 := heap_setCell_same _ z 1 _ _ u h0
  have h2 := heap_setCell_same _ z 2 _ _ v h1
  unfold TBox; rw [h2]; rfl
theorem setK (W : World) (z i : Nat) (x : Value) : Keeps (fun k => k = z) W (W.setCell ⟨z, i, none⟩ x) := Keeps.setCell W (S := (· = z)) (p := ⟨z, i, none⟩) rfl _

/-- A turn in memory: its grace with its needs in a block of their own, and its numbers. -/
structure TuAt (W : World) (z B : Nat) (now : Int) (u v : Value) (g : GrS) (n nb : Nat) (lv : Value) (ls : List Int) : Prop where
  box : TBox W z now u v g.done g.asked g.on (.slice (some ⟨nb, 0, none⟩) n n) lv
  len : g.nd.length = n
  needs : BBlock W nb g.nd
  nums : W.ownsRow B 3 1 lv ls.length (ls.map (Value.int .i64))
theorem TBox.ne_bools {W : World} {z nb : Nat} {now : Int} {u v : Value} {d a : Int} {on : Bool} {nv lv : Value} {bs : List Bool} (h : TBox W z now u v d a on nv lv) (k : BBlock W nb bs) : z ≠ nb := fun e => by
  have h1 : W.heap[z]? = _ := h
  have h2 : W.heap[nb]? = _ := k
  rw [← e, h1] at h2; injection h2 with h2; injection h2 with _ h2 _; revert h2; decide
theorem TBox.ne_row {W : World} {z B n : Nat} {now : Int} {u v : Value} {d a : Int} {on : Bool} {nv lv x : Value} {xs : List Value} (h : TBox W z now u v d a on nv lv) (k : W.ownsRow B 3 1 x n xs) : ∀ g, x.ownBlock = some g → g ≠ z := fun g hg e => by
  obtain ⟨c, f, h1⟩ := Lib.ownsRow_kind k g hg
  have h2 : W.heap[z]? = _ := h
  rw [e, h2] at h1; injection h1 with h1; injection h1 with _ h1 _; revert h1; decide
theorem BBlock.ne_row {W : World} {nb B n : Nat} {x : Value} {bs : List Bool} {xs : List Value} (h : BBlock W nb bs) (k : W.ownsRow B 3 1 x n xs) : ∀ g, x.ownBlock = some g → g ≠ nb := fun g hg e => by
  obtain ⟨c, f, h1⟩ := Lib.ownsRow_kind k g hg
  have h2 : W.heap[nb]? = _ := h
  rw [e, h2] at h1; injection h1 with h1; injection h1 with _ h1 _; revert h1; decide
theorem TuAt.keeps {S : Nat → Prop} {W W' : World} {z B : Nat} {now : Int} {u v : Value} {g : GrS} {n nb : Nat} {lv : Value} {ls : List Int} (k : TuAt W z B now u v g n nb lv ls) (hk : Keeps S W W') (hz : ¬ S z) (hn : ¬ S nb) (hl : ∀ q, lv.ownBlock = some q → ¬ S q) : TuAt W' z B now u v g n nb lv ls :=
  ⟨k.box.keeps hk hz, k.len, k.needs.keeps hk hn, hk.row k.nums hl⟩
theorem TuAt.below {W W' : World} {z B : Nat} {now : Int} {u v : Value} {g : GrS} {n nb : Nat} {lv : Value} {ls : List Int} (k : TuAt W z B now u v g n nb lv ls) (hb : Below W.heap.size W W') : TuAt W' z B now u v g n nb lv ls :=
  k.keeps (Keeps.of_below (S := fun _ => False) hb) id id (fun _ _ => id)
theorem TuAt.alike {W W' : World} {z B : Nat} {now : Int} {u v : Value} {g : GrS} {n nb : Nat} {lv : Value} {ls : List Int} (k : TuAt W z B now u v g n nb lv ls) (hb : Below W.heap.size W W') : TuAt W' z B now u v g n nb lv ls := k.below hb
theorem TuAt.set3 {W : World} {z B : Nat} {now : Int} {u v : Value} {g : GrS} {n nb : Nat} {lv : Value} {ls : List Int} (k : TuAt W z B now u v g n nb lv ls) (x : Int) : TuAt (W.setCell ⟨z, 3, none⟩ (.int .i64 x)) z B now u v { g with done := x } n nb lv ls :=
  ⟨k.box.set3 x, k.len, k.needs.keeps (setK W z 3 _) (fun e => k.box.ne_bools k.needs e.symm), (setK W z 3 _).row k.nums (fun q hq e => k.box.ne_row k.nums q hq e)⟩
theorem TuAt.set4 {W : World} {z B : Nat} {now : Int} {u v : Value} {g : GrS} {n nb : Nat} {lv : Value} {ls : List Int} (k : TuAt W z B now u v g n nb lv ls) (x : Int) : TuAt (W.setCell ⟨z, 4, none⟩ (.int .i64 x)) z B now u v { g with asked := x } n nb lv ls :=
  ⟨k.box.set4 x, k.len, k.needs.keeps (setK W z 4 _) (fun e => k.box.ne_bools k.needs e.symm), (setK W z 4 _).row k.nums (fun q hq e => k.box.ne_row k.nums q hq e)⟩
theorem TuAt.set5 {W : World} {z B : Nat} {now : Int} {u v : Value} {g : GrS} {n nb : Nat} {lv : Value} {ls : List Int} (k : TuAt W z B now u v g n nb lv ls) (x : Bool) : TuAt (W.setCell ⟨z, 5, none⟩ (.bool x)) z B now u v { g with on := x } n nb lv ls :=
  ⟨k.box.set5 x, k.len, k.needs.keeps (setK W z 5 _) (fun e => k.box.ne_bools k.needs e.symm), (setK W z 5 _).row k.nums (fun q hq e => k.box.ne_row k.nums q hq e)⟩
theorem TuAt.setNeed {W : World} {z B : Nat} {now : Int} {u v : Value} {g : GrS} {n nb : Nat} {lv : Value} {ls : List Int} (k : TuAt W z B now u v g n nb lv ls) (i : Nat) (x : Bool) : TuAt (W.setCell ⟨nb, i, none⟩ (.bool x)) z B now u v { g with nd := g.nd.set i x } n nb lv ls :=
  ⟨k.box.keeps (setK W nb i _) (k.box.ne_bools k.needs), by simp only [List.length_set]; exact k.len, k.needs.set i x, (setK W nb i _).row k.nums (fun q hq e => k.needs.ne_row k.nums q hq e)⟩

/-- The number of the period that would be asked for. -/
def nextG (g : GrS) : Int := if g.on = true then g.done + 1 + 1 else g.done + 1

set_option maxHeartbeats 4000000 in
theorem gat_ok (z : Nat) (now : Int) (u v : Value) (d a : Int) (on : Bool) (p : Option Addr) (n cc : Nat) (lv : Value) (c : Int) (W : World) (k : TBox W z now u v d a on (.slice p n cc) lv) (h : hasB n c = true) :
    Calls Try.prog 63 #[.pointer (some ⟨z, 0, none⟩), .int .i64 c] W fun e w' => e = .returned (.tuple #[]) ∧ Below W.heap.size W w' := by
  obtain ⟨d0, d1, d2, d3, d4, d5, d6, d7⟩ := k.cells
  have HC := Lib.hid (ghas_c d a c on p n cc W)
  rw [h] at HC
  clear h k
  go_enter Try.func63, Try.ntmps63
  go_wp2_with fail
  (with_reducible refine HC.out.mono ?_)
  rintro e w1 ⟨rfl, hb1⟩
  have HB := Lib.hid hb1
  clear hb1
  go_wp2
  go_end0
  exact ⟨rfl, HB.out⟩
set_option maxHeartbeats 4000000 in
theorem gat_no (z : Nat) (now : Int) (u v : Value) (d a : Int) (on : Bool) (p : Option Addr) (n cc : Nat) (lv : Value) (c : Int) (W : World) (k : TBox W z now u v d a on (.slice p n cc) lv) (h : hasB n c = false) :
    Calls Try.prog 63 #[.pointer (some ⟨z, 0, none⟩), .int .i64 c] W fun e w' => e = woe 2 ∧ Below W.heap.size W w' := by
  obtain ⟨d0, d1, d2, d3, d4, d5, d6, d7⟩ := k.cells
  have HC := Lib.hid (ghas_c d a c on p n cc W)
  rw [h] at HC
  clear h k
  go_enter Try.func63, Try.ntmps63
  go_wp2_with fail
  (with_reducible refine HC.out.mono ?_)
  rintro e w1 ⟨rfl, hb1⟩
  have HB := Lib.hid hb1
  clear hb1
  go_wp2
  exact ⟨rfl, rfl, HB.out⟩

set_option maxHeartbeats 4000000 in
theorem gorder_no (z B : Nat) (now : Int) (u v : Value) (g : GrS) (n nb : Nat) (lv : Value) (ls : List Int) (W : World) (k : TuAt W z B now u v g n nb lv ls) (h0 : 0 ≤ g.done) (h2 : g.done ≤ 2147483645) (h1 : 2147483645 < nextG g) :
    Calls Try.prog 43 #[.pointer (some ⟨z, 0, none⟩)] W fun e w' => e = woe 6 ∧ w' = W := by
  obtain ⟨d, a, on, nd⟩ := g
  obtain ⟨d0, d1, d2, d3, d4, d5, d6, d7⟩ := k.box.cells
  unfold nextG at h1
  simp only at h0 h1 h2 d3 d4 d5
  clear k
  cases on with
  | true =>
    simp only [if_true] at h1
    go_enter Try.func43, Try.ntmps43
    go_wp2
    exact ⟨rfl, rfl, rfl⟩
  | false =>
    simp only [Bool.false_eq_true, if_false] at h1
    go_enter Try.func43, Try.ntmps43
    go_wp2
    exact ⟨rfl, rfl, rfl⟩

/-- What order leaves. -/
def OrdQ (z B : Nat) (now : Int) (u v : Value) (g : GrS) (n nb : Nat) (lv : Value) (ls : List Int) (W w' : World) : Prop :=
  ∃ lv', TuAt w' z B now u v { g with asked := nextG g } n nb lv' (ls ++ [nextG g]) ∧ Keeps (fun k => k = z ∨ some k = lv.ownBlock) W w' ∧ (∀ q, lv'.ownBlock = some q → lv.ownBlock = some q ∨ W.heap.size ≤ q) ∧ B ≤ w'.heap.size
theorem ord_fin (z B : Nat) (now : Int) (u v : Value) (d a : Int) (on : Bool) (nd : List Bool) (n nb : Nat) (pl : Option Addr) (cl : Nat) (ls : List Int) (W w1 w2 : World) (x : Int) (hx : nextG ⟨d, a, on, nd⟩ = x) (o : Obj) (q : Option Addr) (r : Nat)
    (k : TuAt w1 z B now u v ⟨d, x, on, nd⟩ n nb (.slice pl ls.length cl) ls) (hk : Keeps (fun k => k = z) W w1) (hB : B ≤ w1.heap.size) (hown : w2.ownsRow B 3 1 (.slice q (ls.length + 1) r) (ls.length + 1) (ls.map (Value.int .i64) ++ [.int .i64 x])) (hg : (w1.alloc o).grownBy w2 (Value.slice pl ls.length cl).ownBlock)
    (hb : (Value.slice q (ls.length + 1) r).ownBlock = (Value.slice pl ls.length cl).ownBlock ∨ (Value.slice q (ls.length + 1) r).ownBlock = some (w1.alloc o).heap.size) :
    TBox w2 z now u v d x on (.slice (some ⟨nb, 0, none⟩) n n) (.slice pl ls.length cl) ∧ OrdQ z B now u v ⟨d, a, on, nd⟩ n nb (.slice pl ls.length cl) ls W (w2.setCell ⟨z, 7, none⟩ (.slice q (ls.length + 1) r)) := by
  have hk2 : Keeps (fun k => some k = (Value.slice pl ls.length cl).ownBlock) w1 w2 := (Keeps.alloc _ w1 o).trans ⟨hg.os, hg.tape, hg.output, hg.size, fun k hk hn => hg.block k hk hn⟩
  have hbox := k.box.keeps hk2 (fun e => k.box.ne_row k.nums z e.symm rfl)
  have hnd := k.needs.keeps hk2 (fun e => k.needs.ne_row k.nums nb e.symm rfl)
  refine ⟨hbox, .slice q (ls.length + 1) r, ⟨?_, k.len, ?_, ?_⟩, ?_, ?_, Nat.le_trans hB (Nat.le_trans hk2.size (setK w2 z 7 _).size)⟩
  · rw [hx]; exact hbox.set7 _
  · exact hnd.keeps (setK w2 z 7 _) (fun e => hbox.ne_bools hnd e.symm)
  · rw [hx]
    have := (setK w2 z 7 (.slice q (ls.length + 1) r)).row hown (fun g hg e => hbox.ne_row hown g hg e)
    simpa using this
  · exact ((hk.sub (fun _ _ h => .inl h)).trans (hk2.sub (fun _ _ h => .inr h))).trans ((setK w2 z 7 _).sub (fun _ _ h => .inl h))
  · intro g hg
    rcases hb with h | h
    · exact .inl (h.symm.trans hg)
    · rw [h] at hg
      injection hg with hg
      refine .inr ?_
      have := hk.size
      rw [← hg, World.size_alloc]
      omega

set_option maxHeartbeats 8000000 in
theorem gorder_ok (z B : Nat) (now : Int) (u v : Value) (g : GrS) (n nb : Nat) (lv : Value) (ls : List Int) (W : World) (k : TuAt W z B now u v g n nb lv ls) (h0 : 0 ≤ g.done) (h1 : nextG g ≤ 2147483645) (hB : B ≤ W.heap.size) (hl : ls.length ≤ 1000000) :
    Calls Try.prog 43 #[.pointer (some ⟨z, 0, none⟩)] W fun e w' => e = .returned (.tuple #[]) ∧ OrdQ z B now u v g n nb lv ls W w' := by
  obtain ⟨d, a, on, nd⟩ := g
  obtain ⟨i0, hi, hz0, hz1, hz2⟩ := info_parts cloneI_info
  have HI0 := Lib.hid (And.intro hi (And.intro hz0 (And.intro hz1 hz2)))
  obtain ⟨pl, cl, rfl⟩ := owns_slice k.nums
  obtain ⟨d0, d1, d2, d3, d4, d5, d6, d7⟩ := k.box.cells
  have m4 := k.box.marks 4
  simp only at h0 d3 d4 d5
  have HX := Lib.hid h1
  unfold nextG at h1
  clear hi hz0 hz1 hz2
  cases on with
  | true =>
    simp only [if_true] at h1
    have HNX := Lib.hid (show nextG ⟨d, a, true, nd⟩ = (d + 1 + 1) from rfl)
    have K1 := Lib.hid (k.set4 (d + 1 + 1))
    have HK1 := Lib.hid (setK W z 4 (.int .i64 (d + 1 + 1)))
    obtain ⟨w1, hw1⟩ : ∃ Y : World, Y = W.setCell ⟨z, 4, none⟩ (.int .i64 (d + 1 + 1)) := ⟨_, rfl⟩
    rw [← hw1] at K1 HK1
    have HW1 := Lib.hid hw1
    have HL := Lib.hid (show ls.length ≤ 1000000 ∧ B ≤ w1.heap.size from ⟨hl, Nat.le_trans hB HK1.out.size⟩)
    clear hw1 k hl hB
    go_enter Try.func43, Try.ntmps43
    go_upto_region 6 with fail
    rw [← HW1.out]
    clear d0 d1 d2 d3 d4 d5 d6 d7 m4
    obtain ⟨d0, d1, d2, d3, d4, d5, d6, d7⟩ := K1.out.box.cells
    simp only at d3 d4 d5
    go_wp2_with (at_builtin; refine wpList_append_own_at _ rfl _ _ 25 rfl B 3 i0 (.int .i64 0) 1 8 Try.underlying25 HI0.out.1 HI0.out.2.1 HI0.out.2.2.1 HI0.out.2.2.2 rfl (by decide) (.slice pl ls.length cl) ls.length (ls.map (Value.int .i64)) rfl (K1.out.nums.alloc _) ⟨w1.heap.size, 0, none⟩ 1 1 [.int .i64 (d + 1 + 1)] rfl rfl (cell_one_new _ _ _) (fun y hy => by rw [List.mem_singleton.1 hy]; rfl) (by have := HL.out.1; unfold maxLen; omega) (by have := HL.out.1; omega) (by have := HL.out.2; rw [World.size_alloc]; omega) ?_; intro v' w2 hown' hgrow _ hblk; obtain ⟨q, r, rfl⟩ := owns_slice hown'; have HF := Lib.hid (ord_fin z B now u v d a true nd n nb pl cl ls W w1 w2 (d + 1 + 1) HNX.out _ q r K1.out HK1.out HL.out.2 hown' hgrow hblk); have e7 := HF.out.1.cells.2.2.2.2.2.2.2; have m7 := HF.out.1.marks 7; clear hown' hgrow hblk d0 d1 d2 d3 d4 d5 d6 d7)
    go_end0
    exact ⟨rfl, HF.out.2⟩
  | false =>
    simp only [Bool.false_eq_true, if_false] at h1
    have HNX := Lib.hid (show nextG ⟨d, a, false, nd⟩ = (d + 1) from rfl)
    have K1 := Lib.hid (k.set4 (d + 1))
    have HK1 := Lib.hid (setK W z 4 (.int .i64 (d + 1)))
    obtain ⟨w1, hw1⟩ : ∃ Y : World, Y = W.setCell ⟨z, 4, none⟩ (.int .i64 (d + 1)) := ⟨_, rfl⟩
    rw [← hw1] at K1 HK1
    have HW1 := Lib.hid hw1
    have HL := Lib.hid (show ls.length ≤ 1000000 ∧ B ≤ w1.heap.size from ⟨hl, Nat.le_trans hB HK1.out.size⟩)
    clear hw1 k hl hB
    go_enter Try.func43, Try.ntmps43
    go_upto_region 6 with fail
    rw [← HW1.out]
    clear d0 d1 d2 d3 d4 d5 d6 d7 m4
    obtain ⟨d0, d1, d2, d3, d4, d5, d6, d7⟩ := K1.out.box.cells
    simp only at d3 d4 d5
    go_wp2_with (at_builtin; refine wpList_append_own_at _ rfl _ _ 25 rfl B 3 i0 (.int .i64 0) 1 8 Try.underlying25 HI0.out.1 HI0.out.2.1 HI0.out.2.2.1 HI0.out.2.2.2 rfl (by decide) (.slice pl ls.length cl) ls.length (ls.map (Value.int .i64)) rfl (K1.out.nums.alloc _) ⟨w1.heap.size, 0, none⟩ 1 1 [.int .i64 (d + 1)] rfl rfl (cell_one_new _ _ _) (fun y hy => by rw [List.mem_singleton.1 hy]; rfl) (by have := HL.out.1; unfold maxLen; omega) (by have := HL.out.1; omega) (by have := HL.out.2; rw [World.size_alloc]; omega) ?_; intro v' w2 hown' hgrow _ hblk; obtain ⟨q, r, rfl⟩ := owns_slice hown'; have HF := Lib.hid (ord_fin z B now u v d a false nd n nb pl cl ls W w1 w2 (d + 1) HNX.out _ q r K1.out HK1.out HL.out.2 hown' hgrow hblk); have e7 := HF.out.1.cells.2.2.2.2.2.2.2; have m7 := HF.out.1.marks 7; clear hown' hgrow hblk d0 d1 d2 d3 d4 d5 d6 d7)
    go_end0
    exact ⟨rfl, HF.out.2⟩

end Go.Proofs.Ytfnpokddoffplaa
/-
  Package grace: whether all that are needed are one CPU.
  Conditions: the ranges of Go's types.
-/
namespace Go.Proofs.Ytfnpokddoffplaa
set_option maxRecDepth 100000
open Go.RowKit Go.Shelf
attribute [local go_sem] Oper.semAt_some

theorem results_cell1 {fn : Func} {a : Tmp} {t : TypeId} (h : fn.results = #[.cell a t]) (tmps : Array Value) (P : Program) (w : World) {p : Addr} {x : Value} (ha : tmps.getD a undef = .pointer (some p)) (hx : (loadVar t p).run P w = .ok x w) : (results fn tmps).run P w = .ok x w := by
  unfold results
  rw [h]
  simp only [Array.mapM_eq_foldlM, List.foldlM_toArray, List.foldlM_cons, List.foldlM_nil, ha, asAddr, run_fmap, Sem.run_bind, Sem.run_pure, Result.andThen_ok, hx]
  rfl
theorem bool_load {W : World} {z : Nat} {x : Bool} (h : Boxed W z 4 (.bool x)) : (loadVar 4 ⟨z, 0, none⟩).run Try.prog W = .ok (.bool x) W := by
  have := h.cell
  simp [go_sem, this]
theorem boxed_under {W W' : World} {B : Nat} {t : TypeId} {v : Value} (h : Boxed W B t v) (hb : Below W.heap.size W W') : Boxed W' B t v := (hb.block B h.lt).trans h

theorem rep1_c (x c : Int) (b : Nat) (W : World) (hb : W.cell? ⟨b, 0, none⟩ = some (.int .i64 c)) :
    Calls Try.prog 66 #[.int .i64 x, .pointer (some ⟨b, 0, none⟩)] W fun e w' => e = .returned (.bool (x == c)) ∧ w' = W := by
  go_enter Try.func66, Try.ntmps66
  go_wp2
  go_ret
  exact ⟨rfl, rfl⟩

/-- The closure that report hands to all. -/
def repV (cb : Nat) : Value := .func (.func 66) #[] #[.pointer (some ⟨cb, 0, none⟩)]
/-- Between two rounds. -/
def AI (W : World) (cb : Nat) (c : Int) (pre : List Int) (W' : World) : Prop :=
  Boxed W' W.heap.size 93 (repV cb) ∧ Boxed W' (W.heap.size + 1) 4 (.bool false) ∧ Boxed W' cb 3 (.int .i64 c) ∧ Below W.heap.size W W' ∧ (pre.all (· == c)) = true
def AX (W : World) (c : Int) (cc : Code) (pre : List Int) (W' : World) : Prop :=
  cc = .ret ∧ Boxed W' (W.heap.size + 1) 4 (.bool false) ∧ Below W.heap.size W W' ∧ (pre.all (· == c)) = false
theorem ai_own (W : World) (cb : Nat) (c : Int) (z : Nat) (hz : W.heap.size + 2 ≤ z) : OwnFrom z (AI W cb c) := by
  rintro s X Y row ⟨h1, h2, h3, h4, h5⟩ hg hr
  have hr' := fun r e => (hr r e).2
  exact ⟨heap_own h1 hg hr', heap_own h2 hg hr', heap_own h3 hg hr', h4.grown hg h4.size (fun k e => by have := (hr k e).1; omega), h5⟩
theorem ax_own (W : World) (c : Int) (z : Nat) (hz : W.heap.size + 2 ≤ z) (cc : Code) : OwnFrom z (AX W c cc) := by
  rintro s X Y row ⟨h1, h2, h3, h4⟩ hg hr
  have hr' := fun r e => (hr r e).2
  exact ⟨h1, heap_own h2 hg hr', h3.grown hg h3.size (fun k e => by have := (hr k e).1; omega), h4⟩

set_option maxHeartbeats 8000000 in
theorem all_c (lb cb : Nat) (d a : Int) (on : Bool) (p : Option Addr) (k : Nat) (nd : List Bool) (c : Int) (W : World) (hmax : nd.length ≤ 4611686018427387904) (hg : GBox W lb d a on (.slice p nd.length k)) (hl : BoolOut (fun _ => False) W p nd) (hcb : Boxed W cb 3 (.int .i64 c)) :
    Calls Try.prog 64 #[.func (.func 76) #[] #[.pointer (some ⟨lb, 0, none⟩)], .func (.func 66) #[] #[.pointer (some ⟨cb, 0, none⟩)]] W fun e w' => e = .returned (.bool ((trN nd nd.length).all (· == c))) ∧ Below W.heap.size W w' := by
  obtain ⟨w0, hw0⟩ : ∃ X : World, X = (W.alloc (.cells #[repV cb] 93)).alloc (.cells #[.bool false] 4) := ⟨_, rfl⟩
  have hb0 : Below W.heap.size W w0 := by rw [hw0]; exact below2 _ _ _
  have HF := Lib.hid (show Boxed w0 W.heap.size 93 (repV cb) ∧ Boxed w0 (W.heap.size + 1) 4 (.bool false) ∧ w0.heap.size = W.heap.size + 2 by
    rw [hw0]
    refine ⟨(Boxed.new W _ (repV cb)).alloc _, ?_, by simp⟩
    have := Boxed.new (W.alloc (.cells #[repV cb] 93)) 4 (.bool false)
    rwa [World.size_alloc] at this)
  have HG := Lib.hid (show GBox w0 lb d a on (.slice p nd.length k) ∧ BoolOut (fun _ => False) w0 p nd ∧ AI W cb c [] w0 from ⟨hg.below hb0, hl.below hb0, HF.out.1, HF.out.2.1, boxed_under hcb hb0, hb0, rfl⟩)
  clear hg hl hcb hb0
  unfold repV at hw0
  refine (callsIn_wide (n := 9)).1 ?_
  refine callsIn_of_wp_marks Try.func64 rfl trivial ?_ rfl
  simp only [Try.ntmps64, List.size_toArray, List.length_cons, List.length_nil, Nat.reduceAdd, Nat.reduceSub, Array.replicate_succ, Array.replicate_zero, List.push_toArray, List.append_toArray, List.nil_append, List.cons_append]
  gi_wp2
  rw [← hw0]
  clear hw0
  have hAI := ai_own W cb c w0.heap.size (by have := HF.out.2.2; omega)
  refine wpIn_rangeDeep rfl (by omega) (gf := 76) (lb := #[.pointer (some ⟨lb, 0, none⟩)]) rfl trivial (enters_of Try.func76 (by kernel_rfl) rfl)
    (needed_stops 8 (by omega) (fun _ => False) lb d a on p k nd w0 hmax HG.out.1 HG.out.2.1) (fun h k => h.trans k) (fun W l o o' _ => KeepsCells.turn _ W l o o') (Below.refl _ _) (fun _ => rfl)
    (AI W cb c) (AX W c) hAI (ax_own W c _ (by have := HF.out.2.2; omega)) HG.out.2.2
    (fun x a' _ => a' = { tmps := #[.func (.func 76) #[] #[.pointer (some ⟨lb, 0, none⟩)], .func (.func 66) #[] #[.pointer (some ⟨cb, 0, none⟩)], undef, .pointer (some ⟨W.heap.size, 0, none⟩), .pointer (some ⟨W.heap.size + 1, 0, none⟩), .int .i64 x, .func (.func 76) #[] #[.pointer (some ⟨lb, 0, none⟩)], .int .i64 x, undef, undef, undef, undef], defers := [] })
    ?hAx ?assign ?body ?done ?stop
  case hAx => exact fun x a' => ownFrom_pure _ _
  case assign =>
    rintro l' pre x X K hi hK
    gi_wp2
    exact hK _ _ (KeepsFrom.refl _ _) (KeepsCells.refl _ _) hi rfl
  case body =>
    rintro l' pre x a' X hl' _ hI rfl hlen -
    obtain ⟨hi1, hi2, hi3, hi4, hi5⟩ := hI
    have e1 := hi1.cell
    unfold repV at e1
    have f2 := hi2.frozen
    have e2 := hi2.cell
    have HC := Lib.hid (rep1_c x c cb X hi3.cell)
    have HEQ := Lib.hid (show (pre ++ [x]).all (· == c) = (x == c) by rw [List.all_append, hi5]; simp)
    have HI := Lib.hid (And.intro hi1 (And.intro hi2 (And.intro hi3 hi4)))
    clear hi1 hi2 hi3 hi4 hi5 hlen hAI HG
    cases hx : (x == c) with
    | true =>
      rw [hx] at HC HEQ
      gi_wp2_with fail
      refine ⟨trivial, ((callsIn_wide.2 HC.out).inRound l').mono ?_⟩
      rintro e X2 ⟨rfl, rfl⟩
      gi_wp2
      exact ⟨KeepsFrom.refl _ _, KeepsCells.refl _ _, HI.out.1, HI.out.2.1, HI.out.2.2.1, HI.out.2.2.2, HEQ.out⟩
    | false =>
      rw [hx] at HC HEQ
      gi_wp2_with fail
      refine ⟨trivial, ((callsIn_wide.2 HC.out).inRound l').mono ?_⟩
      rintro e X2 ⟨rfl, rfl⟩
      gi_wp2
      exact ⟨(KeepsOthers.setCell _ _ _).from _, rfl, HI.out.2.1.set _, HI.out.2.2.2.setCell (p := ⟨W.heap.size + 1, 0, none⟩) (by show W.heap.size ≤ W.heap.size + 1; omega) _, HEQ.out⟩
  case done =>
    rintro D xs X hD rfl ⟨h1, h2, h3, h4, h5⟩ hK
    have e2 := h2.cell
    have f2 := h2.frozen
    have HX := Lib.hid (show Boxed (X.setCell ⟨W.heap.size + 1, 0, none⟩ (.bool true)) (W.heap.size + 1) 4 (.bool true) ∧ Below W.heap.size W (X.setCell ⟨W.heap.size + 1, 0, none⟩ (.bool true)) from ⟨h2.set _, h4.setCell (p := ⟨W.heap.size + 1, 0, none⟩) (by show W.heap.size ≤ W.heap.size + 1; omega) _⟩)
    have HK := Lib.hid (show (X.setCell ⟨W.heap.size + 1, 0, none⟩ (.bool true)).heap[D]? = some (.deferred (some [])) from ((setK X (W.heap.size + 1) 0 (.bool true)).block D (Array.getElem?_eq_some_iff.1 hK).1 (by have := HF.out.2.2; omega)).trans hK)
    have HW := Lib.hid hD
    have H5 := Lib.hid h5
    have HSZ := Lib.hid (show W.heap.size + 2 ≤ w0.heap.size by have := HF.out.2.2; omega)
    clear h1 h2 h3 h4 h5 hAI HG hD hK
    gi_wp2
    refine leaves_marks (B := W.heap.size + 2) [D] _ ((Marks.nil _ _).cons (Nat.le_trans HSZ.out HW.out) (by simp) HK.out) fun X' hX' => ⟨_, results_cell1 rfl _ _ _ rfl (bool_load ((hX'.block (W.heap.size + 1) (by omega)).trans HX.out.1)), ?_, HX.out.2.trans (hX'.mono (by omega))⟩
    rw [H5.out]
  case stop =>
    rintro D cc pre X hD ⟨j, hj, hpre⟩ ⟨rfl, h2, h3, h4⟩ hK
    have HR := Lib.hid (show (trN nd nd.length).all (· == c) = false by
      obtain ⟨m, hm⟩ := trN_pre nd j (nd.length - j)
      rw [show j + (nd.length - j) = nd.length by omega] at hm
      rw [hm, List.all_append, ← hpre, h4, Bool.false_and])
    have HX := Lib.hid (And.intro h2 h3)
    have HW := Lib.hid (And.intro hD hK)
    have HSZ := Lib.hid (show W.heap.size + 2 ≤ w0.heap.size by have := HF.out.2.2; omega)
    clear h2 h3 h4 hAI HG hD hK hpre hj
    gi_wp2
    refine leaves_marks (B := W.heap.size + 2) [D] _ ((Marks.nil _ _).cons (Nat.le_trans HSZ.out HW.out.1) (by simp) HW.out.2) fun X' hX' => ⟨_, results_cell1 rfl _ _ _ rfl (bool_load ((hX'.block (W.heap.size + 1) (by omega)).trans HX.out.1)), ?_, HX.out.2.trans (hX'.mono (by omega))⟩
    rw [HR.out]

end Go.Proofs.Ytfnpokddoffplaa
namespace Go.Proofs.Ytfnpokddoffplaa
set_option maxRecDepth 100000
open Go.RowKit Go.Shelf
attribute [local go_sem] Oper.semAt_some

def beginE (g : GrS) : Int := if g.on = true then 5 else if g.asked = g.done then 4 else 0
def beginG (g : GrS) : GrS := ⟨g.done, g.asked, true, List.replicate g.nd.length true⟩

theorem rep_set (l : List Bool) (i : Nat) (h : i < l.length) : (List.replicate i true ++ l.drop i).set i true = List.replicate (i + 1) true ++ l.drop (i + 1) := by
  rw [List.set_append_right _ _ (by simp), List.length_replicate, Nat.sub_self, List.drop_eq_getElem_cons h, List.set_cons_zero, List.replicate_succ', List.append_assoc]
  rfl

set_option maxHeartbeats 4000000 in
theorem gbegin_no (z B : Nat) (now : Int) (u v : Value) (g : GrS) (n nb : Nat) (lv : Value) (ls : List Int) (W : World) (k : TuAt W z B now u v g n nb lv ls) (h : beginE g ≠ 0) :
    Calls Try.prog 45 #[.pointer (some ⟨z, 0, none⟩)] W fun e w' => e = woe (beginE g) ∧ Below W.heap.size W w' := by
  obtain ⟨d, a, on, nd⟩ := g
  obtain ⟨d0, d1, d2, d3, d4, d5, d6, d7⟩ := k.box.cells
  unfold beginE at h ⊢
  simp only at h d3 d4 d5 ⊢
  clear k
  cases on with
  | true =>
    simp only [if_true]
    clear h
    go_enter Try.func45, Try.ntmps45
    go_wp2
    exact ⟨rfl, rfl, Below.refl _ _⟩
  | false =>
    simp only [Bool.false_eq_true, if_false] at h ⊢
    by_cases e : a = d
    · have hq : (a == d) = true := by rw [beq_iff_eq]; exact e
      rw [if_pos e]
      clear h e
      go_enter Try.func45, Try.ntmps45
      go_wp2
      go_quiet (fail)
      go_wp2
      exact ⟨rfl, rfl, below_drewN (Below.refl _ _) _⟩
    · rw [if_neg e] at h
      exact absurd rfl h

set_option maxHeartbeats 8000000 in
theorem gbegin_ok (z B : Nat) (now : Int) (u v : Value) (g : GrS) (n nb : Nat) (lv : Value) (ls : List Int) (W : World) (k : TuAt W z B now u v g n nb lv ls) (h : beginE g = 0) (hn : n ≤ 8) :
    Calls Try.prog 45 #[.pointer (some ⟨z, 0, none⟩)] W fun e w' => e = .returned (.tuple #[]) ∧ TuAt w' z B now u v (beginG g) n nb lv ls ∧ Keeps (fun k => k = z ∨ k = nb) W w' := by
  obtain ⟨d, a, on, nd⟩ := g
  obtain ⟨d0, d1, d2, d3, d4, d5, d6, d7⟩ := k.box.cells
  have m5 := k.box.marks 5
  unfold beginE at h
  simp only at h d3 d4 d5
  cases on with
  | true => simp at h
  | false =>
    simp only [Bool.false_eq_true, if_false] at h
    have e : ¬ a = d := fun e => by rw [if_pos e] at h; cases h
    have hq : (a == d) = false := by rw [beq_eq_false_iff_ne]; exact e
    have hlen := k.len
    simp only at hlen
    have HLEN := Lib.hid hlen
    have HK := Lib.hid k
    clear h e k hlen
    go_enter Try.func45, Try.ntmps45
    go_wp2
    go_quiet (fail)
    have HI0 := Lib.hid (show TuAt ((W.setCell ⟨z, 5, none⟩ (.bool true)).drewN nq) z B now u v ⟨d, a, true, List.replicate 0 true ++ nd.drop 0⟩ n nb lv ls ∧ Keeps (fun k => k = z ∨ k = nb) W ((W.setCell ⟨z, 5, none⟩ (.bool true)).drewN nq) from
      ⟨(HK.out.set5 true).keeps (S := fun _ => False) ((Keeps.refl _ _).drewN nq) id id (fun _ _ => id), ((setK W z 5 (.bool true)).sub (fun _ _ h => .inl h)).drewN nq⟩)
    clear HK d0 d1 d2 d3 d4 d7 hq
    go_wp2
    go_loopw [33] (fun iv wr => ∃ i : Nat, i ≤ n ∧ iv = .int .i64 (i : Int) ∧ Hid (TuAt wr z B now u v ⟨d, a, true, List.replicate i true ++ nd.drop i⟩ n nb lv ls ∧ Keeps (fun k => k = z ∨ k = nb) W wr)) (fun iv _ => n - (intOf iv).toNat)
    case atStart => exact ⟨0, Nat.zero_le _, rfl, HI0⟩
    case round =>
      clear HI0 d5 d6 m5
      obtain ⟨i, hi, rfl, HI⟩ := hrel
      by_cases hlt : i < n
      · have k := HI.out.1
        have e6 := k.box.cells.2.2.2.2.2.2.1
        have hil : i < (List.replicate i true ++ nd.drop i).length := by rw [k.len]; exact hlt
        have fi := k.needs.free i
        obtain ⟨x, ci⟩ : ∃ x : Bool, wr.cell? ⟨nb, i, none⟩ = some (.bool x) := ⟨_, k.needs.cell i hil⟩
        have HN := Lib.hid (show TuAt (wr.setCell ⟨nb, i, none⟩ (.bool true)) z B now u v ⟨d, a, true, List.replicate (i + 1) true ++ nd.drop (i + 1)⟩ n nb lv ls ∧ Keeps (fun k => k = z ∨ k = nb) W (wr.setCell ⟨nb, i, none⟩ (.bool true)) by
          have h1 := k.setNeed i true
          simp only at h1
          rw [rep_set nd i (by rw [HLEN.out]; exact hlt)] at h1
          exact ⟨h1, HI.out.2.trans ((setK wr nb i (.bool true)).sub (fun _ _ h => .inr h))⟩)
        have hi0 : (0 : Int) ≤ (i : Int) := by omega
        have hin : (i : Int) < (n : Int) := by omega
        clear k HI hil
        go_wp2
        go_roundw
        case rel => exact ⟨i + 1, by omega, by go_num, HN⟩
        case measure => simp [intOf]; omega
      · obtain rfl : i = n := by omega
        clear hlt hi
        go_wp2
        go_end0
        refine ⟨rfl, ?_, HI.out.2⟩
        have h1 := HI.out.1
        unfold beginG
        simp only
        rw [List.drop_eq_nil_of_le (by rw [HLEN.out]; exact Nat.le_refl _), List.append_nil] at h1
        rw [HLEN.out]
        exact h1

end Go.Proofs.Ytfnpokddoffplaa
