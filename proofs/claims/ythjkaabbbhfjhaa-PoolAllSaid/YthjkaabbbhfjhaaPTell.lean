/-
  Package pool: Check, and Taken.
  Conditions: a row has at most 2 to the power 40 numbers.
-/
import Derived.Test.YthjkaabbbhfjhaaPFlags
import Derived.Deep.DeepCutAuto
import Derived.Deep.CutBlock
import Derived.Deep.RegionHeld3
import Derived.Maps.AppendAt
namespace Go.Proofs.Ythjkaabbbhfjhaa
open Go.RowKit Go.Shelf
attribute [local go_sem] Oper.semAt_some

def wS (w : World) (bs : List Bool) : World := (w.alloc (.cells #[.bool false, .bool false, .bool false, .bool false, .bool false, .bool false, .bool false, .bool false, .bool false, .bool false, .bool false, .bool false, .bool false, .bool false, .bool false, .bool false, .bool false, .bool false, .bool false, .bool false, .bool false, .bool false, .bool false, .bool false, .bool false, .bool false, .bool false, .bool false, .bool false, .bool false, .bool false, .bool false, .bool false, .bool false, .bool false, .bool false, .bool false, .bool false, .bool false, .bool false, .bool false, .bool false, .bool false, .bool false, .bool false, .bool false, .bool false, .bool false, .bool false, .bool false, .bool false, .bool false, .bool false, .bool false, .bool false, .bool false, .bool false, .bool false, .bool false, .bool false, .bool false, .bool false, .bool false, .bool false] 60)).setCells w.heap.size 0 ((bs.map Value.bool).toArray.toList)
theorem wS_facts (w : World) {bs : List Bool} (h : bs.length = 64) : FBox (wS w bs) w.heap.size bs ∧ Below w.heap.size w (wS w bs) ∧ (w.alloc (.cells #[.bool false, .bool false, .bool false, .bool false, .bool false, .bool false, .bool false, .bool false, .bool false, .bool false, .bool false, .bool false, .bool false, .bool false, .bool false, .bool false, .bool false, .bool false, .bool false, .bool false, .bool false, .bool false, .bool false, .bool false, .bool false, .bool false, .bool false, .bool false, .bool false, .bool false, .bool false, .bool false, .bool false, .bool false, .bool false, .bool false, .bool false, .bool false, .bool false, .bool false, .bool false, .bool false, .bool false, .bool false, .bool false, .bool false, .bool false, .bool false, .bool false, .bool false, .bool false, .bool false, .bool false, .bool false, .bool false, .bool false, .bool false, .bool false, .bool false, .bool false, .bool false, .bool false, .bool false, .bool false] 60)).there w.heap.size 0 (bs.map Value.bool).toArray.size ∧
    (Try.prog.info? 60).map (·.size) = some (bs.map Value.bool).toArray.size ∧ (bs.map Value.bool).toArray.all (·.oneCell') = true := by
  have f0 : FBox (w.alloc (.cells #[.bool false, .bool false, .bool false, .bool false, .bool false, .bool false, .bool false, .bool false, .bool false, .bool false, .bool false, .bool false, .bool false, .bool false, .bool false, .bool false, .bool false, .bool false, .bool false, .bool false, .bool false, .bool false, .bool false, .bool false, .bool false, .bool false, .bool false, .bool false, .bool false, .bool false, .bool false, .bool false, .bool false, .bool false, .bool false, .bool false, .bool false, .bool false, .bool false, .bool false, .bool false, .bool false, .bool false, .bool false, .bool false, .bool false, .bool false, .bool false, .bool false, .bool false, .bool false, .bool false, .bool false, .bool false, .bool false, .bool false, .bool false, .bool false, .bool false, .bool false, .bool false, .bool false, .bool false, .bool false] 60)) w.heap.size (flg []) := ⟨flg_len _, by rw [flg_nil]; exact World.alloc_heap_new w _⟩
  refine ⟨f0.put bs h, (below1 w _).trans ((Keeps.setCells _ _ _ _).below (by simp) (fun k e => by omega)), ?_, ?_, ?_⟩
  · have := f0.there; simpa [h] using this
  · have := flag_info; simpa [h] using this
  · simp [Value.oneCell']
theorem rowOut_of_nums {W : World} {p : Option Addr} {c : Nat} {fs : List Int} (h : NumsAt W .i64 (.slice p fs.length c) fs) : RowOut (fun _ => False) W p fs := fun hne => by
  obtain ⟨q, cap, e, hc⟩ := h
  injection e with e1 _ _
  subst e1
  obtain ⟨b, off, e, hcs⟩ := hc hne
  exact ⟨b, off, e, fun h => h, hcs⟩

set_option maxRecDepth 100000 in
set_option maxHeartbeats 4000000 in
theorem check_c (b pg : Int) (p : Option Addr) (c : Nat) (fs : List Int) (W : World) (hmax : fs.length ≤ 4611686018427387904) (hl : NumsAt W .i64 (.slice p fs.length c) fs) :
    Calls Try.prog 17 #[.agg #[.int .i64 b, .int .i64 pg, .slice p fs.length c]] W fun e w' => e = .returned (.int .i64 (if rightP b pg fs = true then 0 else 170)) ∧ Below W.heap.size W w' := by
  obtain ⟨w0, hw0⟩ : ∃ X : World, X = W.alloc (.cells #[.int .i64 b, .int .i64 pg, .slice p fs.length c] 24) := ⟨_, rfl⟩
  have hb0 : Below W.heap.size W w0 := by rw [hw0]; exact below1 _ _
  have HC := Lib.hid (flags_c b pg p c fs w0 hmax (rowOut_of_nums (nums_below hl hb0)))
  obtain ⟨c0, c1, c2⟩ := (show PBox w0 W.heap.size b pg (.slice p fs.length c) by rw [hw0]; exact PBox.new _ _ _ _).cells
  have HB0 := Lib.hid hb0
  clear hb0 hl
  cases hr : rightP b pg fs
  all_goals
    rw [hr] at HC
    clear hr
    go_enter Try.func17, Try.ntmps17
    go_wp2_with fail
    rw [← hw0]
    clear hw0
    refine HC.out.mono ?_
    rintro e w1 ⟨⟨bs, hbs, rfl, -⟩, hb1⟩
    have HB1 := Lib.hid (below_then HB0.out HB0.out.size hb1)
    obtain ⟨s1, s2, s3, s4, s5⟩ := wS_facts w1 hbs
    have HB3 := Lib.hid (below_then HB1.out HB1.out.size s2)
    have HT := Lib.hid s3
    have HI := Lib.hid s4
    have H1 := Lib.hid s5
    obtain ⟨w3, hw3⟩ : ∃ X, X = wS w1 bs := ⟨_, rfl⟩
    rw [← hw3] at HB3
    unfold wS at hw3
    have HW3 := Lib.hid hw3
    clear hw3 s1 s2 s3 s4 s5 c0 c1 c2 hb1
    go_wp2_with (with_reducible refine wpList_store_mid (op := ⟨none, _, _, _, _, _⟩) rfl _ _ _ rfl w1.heap.size 0 (bs.map Value.bool).toArray rfl rfl HT.out HI.out H1.out ?_; rw [← HW3.out])
    go_ret
    exact ⟨rfl, HB3.out⟩

theorem owns_slice {B : Nat} {E : TypeId} {W : World} {v : Value} {s n : Nat} {xs : List Value} (h : W.ownsRow B E s v n xs) : ∃ p c, v = .slice p n c := by
  rcases h.2 with ⟨rfl, h0⟩ | ⟨g, cap, cur, rfl, _⟩
  · exact ⟨none, 0, by rw [h0]⟩
  · exact ⟨_, _, rfl⟩
def pIntOf : Value → Int | .int _ q => q | _ => 0
/-- The pages that are taken. -/
def takenT (n : Nat) (fs : List Int) : List Int := ((List.range n).filter fun (i : Nat) => !(decide ((i : Int) ∈ fs))).map fun (i : Nat) => (i : Int)
theorem takenT_succ (n : Nat) (fs : List Int) : takenT (n + 1) fs = takenT n fs ++ (if (n : Int) ∈ fs then [] else [(n : Int)]) := by
  unfold takenT
  rw [List.range_succ, List.filter_append, List.map_append]
  congr 1
  by_cases h : (n : Int) ∈ fs <;> simp [h]
theorem takenT_len (n : Nat) (fs : List Int) : (takenT n fs).length ≤ n := by
  unfold takenT
  rw [List.length_map]
  exact Nat.le_trans (List.length_filter_le _ _) (by simp)
theorem int_info : (Try.prog.info? 3).map (fun i => (i.zero, i.size, i.bytes)) = some (some (.int .i64 0), 1, 8) := by kernel_rfl

set_option maxRecDepth 100000 in
set_option maxHeartbeats 4000000 in
theorem taken_no (b pg : Int) (p : Option Addr) (c : Nat) (fs : List Int) (W : World) (hmax : fs.length ≤ 4611686018427387904) (hl : NumsAt W .i64 (.slice p fs.length c) fs) (hr : rightP b pg fs = false) :
    Calls Try.prog 18 #[.agg #[.int .i64 b, .int .i64 pg, .slice p fs.length c]] W fun e w' => e = .returned (.slice none 0 0) ∧ Below W.heap.size W w' := by
  obtain ⟨w0, hw0⟩ : ∃ X : World, X = W.alloc (.cells #[.int .i64 b, .int .i64 pg, .slice p fs.length c] 24) := ⟨_, rfl⟩
  have hb0 : Below W.heap.size W w0 := by rw [hw0]; exact below1 _ _
  have HC := Lib.hid (flags_c b pg p c fs w0 hmax (rowOut_of_nums (nums_below hl hb0)))
  obtain ⟨c0, c1, c2⟩ := (show PBox w0 W.heap.size b pg (.slice p fs.length c) by rw [hw0]; exact PBox.new _ _ _ _).cells
  have HB0 := Lib.hid hb0
  rw [hr] at HC
  clear hb0 hl hr
  go_enter Try.func18, Try.ntmps18
  go_wp2_with fail
  rw [← hw0]
  clear hw0
  refine HC.out.mono ?_
  rintro e w1 ⟨⟨bs, hbs, rfl, -⟩, hb1⟩
  have HB1 := Lib.hid (below_then HB0.out HB0.out.size hb1)
  obtain ⟨s1, s2, s3, s4, s5⟩ := wS_facts w1 hbs
  have HB3 := Lib.hid (below_then HB1.out HB1.out.size s2)
  have HT := Lib.hid s3
  have HI := Lib.hid s4
  have H1 := Lib.hid s5
  obtain ⟨w3, hw3⟩ : ∃ X, X = wS w1 bs := ⟨_, rfl⟩
  rw [← hw3] at HB3
  unfold wS at hw3
  have HW3 := Lib.hid hw3
  clear hw3 s1 s2 s3 s4 s5 c0 c1 c2 hb1
  go_wp2_with (with_reducible refine wpList_store_mid (op := ⟨none, _, _, _, _, _⟩) rfl _ _ _ rfl w1.heap.size 0 (bs.map Value.bool).toArray rfl rfl HT.out HI.out H1.out ?_; rw [← HW3.out])
  go_ret
  exact ⟨rfl, HB3.out⟩
set_option maxRecDepth 100000 in
set_option maxHeartbeats 4000000 in
theorem taken_yes (b pg : Int) (p : Option Addr) (c : Nat) (fs : List Int) (W : World) (hmax : fs.length ≤ 4611686018427387904) (hl : NumsAt W .i64 (.slice p fs.length c) fs) (hr : rightP b pg fs = true) :
    Calls Try.prog 18 #[.agg #[.int .i64 b, .int .i64 pg, .slice p fs.length c]] W fun e w' => OwnsNew W.heap.size 3 1 (takenT pg.toNat fs).length ((takenT pg.toNat fs).map (Value.int .i64)) e w' ∧ Below W.heap.size W w' := by
  obtain ⟨k, rfl⟩ : ∃ k : Nat, pg = (k : Int) := by
    have h := (rightP_iff.1 hr).1
    unfold fitsB at h; simp only [Bool.and_eq_true, decide_eq_true_eq] at h
    exact Int.eq_ofNat_of_zero_le h.1.1.2
  have hk64 : k ≤ 64 := by
    have h := (rightP_iff.1 hr).1
    unfold fitsB at h; simp only [Bool.and_eq_true, decide_eq_true_eq] at h
    omega
  obtain ⟨w0, hw0⟩ : ∃ X : World, X = W.alloc (.cells #[.int .i64 b, .int .i64 (k : Int), .slice p fs.length c] 24) := ⟨_, rfl⟩
  have hb0 : Below W.heap.size W w0 := by rw [hw0]; exact below1 _ _
  have HC := Lib.hid (flags_c b k p c fs w0 hmax (rowOut_of_nums (nums_below hl hb0)))
  have HPX := Lib.hid (show PBox w0 W.heap.size b k (.slice p fs.length c) by rw [hw0]; exact PBox.new _ _ _ _)
  obtain ⟨c0, c1, c2⟩ := HPX.out.cells
  have HB0 := Lib.hid hb0
  rw [hr] at HC
  rw [Int.toNat_natCast]
  clear hb0 hl hr
  go_enter Try.func18, Try.ntmps18
  go_wp2_with fail
  rw [← hw0]
  clear hw0
  refine HC.out.mono ?_
  rintro e w1 ⟨⟨bs, hbs, rfl, hfl⟩, hb1⟩
  obtain rfl := hfl (by trivial)
  have HB1 := Lib.hid (below_then HB0.out HB0.out.size hb1)
  obtain ⟨s1, s2, s3, s4, s5⟩ := wS_facts w1 hbs
  have HB3 := Lib.hid (below_then HB1.out HB1.out.size s2)
  have HP3 := Lib.hid ((HPX.out.below hb1).below s2)
  have HT := Lib.hid s3
  have HI := Lib.hid s4
  have H1 := Lib.hid s5
  have HF3 := Lib.hid s1
  have HN1 := Lib.hid (show W.heap.size < w1.heap.size from (HPX.out.below hb1).lt)
  obtain ⟨w3, hw3⟩ : ∃ X, X = wS w1 (flg fs) := ⟨_, rfl⟩
  rw [← hw3] at HB3 HF3 HP3
  unfold wS at hw3
  have HW3 := Lib.hid hw3
  clear hw3 s1 s2 s3 s4 s5 c0 c1 c2 hb1 HPX HB1 HB0 HC
  obtain ⟨c0, c1, c2⟩ := HP3.out.cells
  go_wp2_with (with_reducible refine wpList_store_mid (op := ⟨none, _, _, _, _, _⟩) rfl _ _ _ rfl w1.heap.size 0 ((flg fs).map Value.bool).toArray rfl rfl HT.out HI.out H1.out ?_; rw [← HW3.out])
  clear c0 c1 c2 HT HI H1 HW3
  obtain ⟨z, hz⟩ : ∃ z, z = w1.heap.size := ⟨_, rfl⟩
  rw [← hz] at HF3 HN1 ⊢
  clear hz
  obtain ⟨i0, hi, hz0, hz1, hz2⟩ := info_parts int_info
  have HI0 := Lib.hid (And.intro hi (And.intro hz0 (And.intro hz1 hz2)))
  clear hi hz0 hz1 hz2
  go_loopw [5, 16] (fun v iv wr => ∃ (i : Nat) (q : Option Addr) (n cap : Nat), i ≤ k ∧ iv = .int .i64 (i : Int) ∧ v = .slice q n cap ∧ Hid (n ≤ i ∧ (takenT i fs).length = n ∧ wr.ownsRow (w3.heap.size) 3 1 (.slice q n cap) n ((takenT i fs).map (Value.int .i64))) ∧ Hid (FBox wr z (flg fs) ∧ Below w3.heap.size w3 wr)) (fun _ iv _ => k - (pIntOf iv).toNat)
  case atStart => exact ⟨0, none, 0, 0, Nat.zero_le _, rfl, rfl, ⟨Nat.le_refl _, rfl, by exact World.ownsRow_nil _ _ _ _⟩, HF3.out, Below.refl _ _⟩
  case round =>
    obtain ⟨i, q, n, cap, hi, rfl, rfl, HO, HR⟩ := hrel
    by_cases hlt : i < k
    · have hc := HR.out.1.cell i (by rw [flg_len]; omega)
      rw [flg_get _ _ (by omega)] at hc
      have hi64 : (i : Int) < 64 := by omega
      have hi0 : (0 : Int) ≤ (i : Int) := by omega
      have hts := takenT_succ i fs
      by_cases hm : (i : Int) ∈ fs
      · rw [decide_eq_true hm] at hc
        rw [if_pos hm, List.append_nil] at hts
        have HO2 := Lib.hid (show n ≤ i + 1 ∧ (takenT (i + 1) fs).length = n ∧ wr.ownsRow (w3.heap.size) 3 1 (.slice q n cap) n ((takenT (i + 1) fs).map (Value.int .i64)) by rw [hts]; exact ⟨by have := HO.out.1; omega, HO.out.2⟩)
        clear hts hm HO
        go_wp2
        go_roundw
        case rel => exact ⟨i + 1, q, n, cap, by omega, by go_num, rfl, HO2, HR⟩
        case measure => simp [pIntOf]; omega
      · rw [decide_eq_false hm] at hc
        rw [if_neg hm] at hts
        have HTS := Lib.hid hts
        clear hts hm
        have hn64 : n ≤ 64 := by have := HO.out.1; omega
        go_wp2_with (at_builtin; go_loud (refine wpList_append_own_at _ rfl _ _ 22 rfl w3.heap.size 3 i0 (.int .i64 0) 1 8 Try.underlying22 HI0.out.1 HI0.out.2.1 HI0.out.2.2.1 HI0.out.2.2.2 rfl (by decide) (.slice q n cap) n _ rfl (HO.out.2.2.alloc _) ⟨wr.heap.size, 0, none⟩ 1 1 [.int .i64 (i : Int)] rfl rfl (cell_one_new _ _ _) (fun y hy => by rw [List.mem_singleton.1 hy]; rfl) (by unfold maxLen; omega) (by omega) (by have := HR.out.2.size; simp; omega) ?_; intro v' w5 hown' hgrow _ hat; obtain ⟨pv, cv, rfl⟩ := owns_slice hown'; have X := Lib.hid (And.intro hown' (And.intro hgrow hat)); clear hown' hgrow hat))
        obtain ⟨hown', hgrow, hat⟩ := X.out
        have hB5 : Below w3.heap.size w3 w5 := (HR.out.2.alloc HR.out.2.size _).grown hgrow (by have := HR.out.2.size; simp; omega) (fun r hr => (HO.out.2.2.lt r hr).1)
        have hF5 : FBox w5 z (flg fs) := ⟨flg_len _, (hB5.block z HF3.out.lt).trans HF3.out.2⟩
        go_roundw
        case rel => exact ⟨i + 1, pv, n + 1, cv, by omega, by go_num, rfl, ⟨by have := HO.out.1; omega, by rw [HTS.out]; simp [HO.out.2.1], by rw [HTS.out, List.map_append]; exact hown'⟩, hF5, hB5⟩
        case measure => simp [pIntOf]; omega
    · obtain rfl : i = k := by omega
      have HN := Lib.hid HO.out.2.1
      go_wp2
      go_ret
      exact ⟨⟨_, rfl, by rw [HN.out]; exact HO.out.2.2.mono HB3.out.size⟩, HB3.out.trans (HR.out.2.mono HB3.out.size)⟩
end Go.Proofs.Ythjkaabbbhfjhaa
