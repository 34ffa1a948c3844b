/-
  wakes, the first test of the statements of layer 2, returns true; what was in memory stays.
  Conditions: none.
-/
import Derived.Test.YtgpbhdoidhhhhaaMSmall
import Derived.Test.YtgpbhdoidhhhhaaMFree
import Derived.Test.YtgpbhdoidhhhhaaMCollect
namespace Go.Proofs.Ytgpbhdoidhhhhaa
open Go.RowKit Go.Shelf

def wakeA : List Acc := [⟨2, 3, 0, 7⟩, ⟨3, 3, 7, 9⟩, ⟨3, 3, 7, 1⟩, ⟨1, 5, 0, 0⟩]
def wakeW : List Int := [0, 0, 0, 9, 0, 0, 0, 0]
def wakeG : List (Int × Bool) := [(0, true), (7, true), (9, false), (0, false)]
def wakeF : List Int := [0, 0, 0, poison, 0, 0, 0, 0]
def wakeL : List Bool := [false, false, true, false, true, false, false, false]
theorem wake_run : runS smallL smallW false wakeA = (wakeW, true, wakeG) := by decide
theorem wake_free : fill wakeW (Int.toNat 3) 18369900232523579118 (Int.toNat 1) = wakeF ∧ fill smallL (Int.toNat 3) false (Int.toNat 1) = wakeL := ⟨by decide, by decide⟩
theorem wake_spans : rowsI (spansL wakeL) = [(2, 1), (4, 1)] := by decide
theorem wake_r1 : rightB smallW smallL = true := by decide
theorem wake_r2 : rightB wakeW smallL = true := by decide
theorem wake_r3 : rightB wakeF wakeL = true := by decide

theorem cap_of {B : Nat} {X : World} {E : TypeId} {q : Option Addr} {m d : Nat} {xs : List Value} (h : X.ownsRow B E 1 (.slice q m d) m xs) {u v : Value} : ∀ x y p n c, Value.agg #[u, .slice q m d, v] = .agg #[x, .slice p n c, y] → n ≤ c := by
  intro x y p n c e
  injection e with e
  injection e with e
  injection e with _ e
  injection e with e _
  injection e with _ e1 e2
  subst e1
  subst e2
  exact (own_cap h).1

set_option maxRecDepth 100000 in
set_option maxHeartbeats 4000000 in
theorem wakes_c (W : World) : Calls Try.prog 8 #[] W fun e w' => e = .returned (.bool true) ∧ Below W.heap.size W w' := by
  go_enter Try.func8, Try.ntmps8
  go_wp2_with fail
  refine (small_c _).mono ?_
  rintro e w1 ⟨⟨gw, cw, gl, cl, rfl, how, hol⟩, hB1⟩
  have hB1s := hB1.size
  obtain ⟨wa, hwa⟩ : ∃ wa : World, wa = (w1.alloc (.cells #[.slice (some ⟨gw, 0, none⟩) 8 cw, .slice (some ⟨gl, 0, none⟩) 8 cl, .bool false] 25)).alloc (.cells #[.int .i64 2, .int .i64 3, .int .u64 0, .int .u64 7, .int .i64 3, .int .i64 3, .int .u64 7, .int .u64 9, .int .i64 3, .int .i64 3, .int .u64 7, .int .u64 1, .int .i64 1, .int .i64 5, .int .u64 0, .int .u64 0] 44) := ⟨_, rfl⟩
  have hba : Below w1.heap.size w1 wa := by rw [hwa]; exact ((Below.refl _ _).alloc (Nat.le_refl _) _).alloc (by simp) _
  have hmem : MemAt wa (.agg #[.slice (some ⟨gw, 0, none⟩) 8 cw, .slice (some ⟨gl, 0, none⟩) 8 cl, .bool false]) smallW smallL false := ⟨_, _, rfl, nums_of_owns rfl (owns_below how hba), bools_of_owns rfl (owns_below hol hba)⟩
  have hacc : AccsAt wa (.slice (some ⟨w1.heap.size + 1, 0, none⟩) 4 4) wakeA := by
    have h : wa.heap[w1.heap.size + 1]? = some (.cells #[.int .i64 2, .int .i64 3, .int .u64 0, .int .u64 7, .int .i64 3, .int .i64 3, .int .u64 7, .int .u64 9, .int .i64 3, .int .i64 3, .int .u64 7, .int .u64 1, .int .i64 1, .int .i64 5, .int .u64 0, .int .u64 0] 44 (0, 0)) := by
      have := World.alloc_heap_new (w1.alloc (.cells #[.slice (some ⟨gw, 0, none⟩) 8 cw, .slice (some ⟨gl, 0, none⟩) 8 cl, .bool false] 25)) (.cells #[.int .i64 2, .int .i64 3, .int .u64 0, .int .u64 7, .int .i64 3, .int .i64 3, .int .u64 7, .int .u64 9, .int .i64 3, .int .i64 3, .int .u64 7, .int .u64 1, .int .i64 1, .int .i64 5, .int .u64 0, .int .u64 0] 44)
      rw [World.size_alloc] at this
      rw [hwa]; exact this
    refine ⟨_, _, rfl, fun _ => ⟨_, 0, rfl, fun i hi => ?_⟩⟩
    have : i = 0 ∨ i = 1 ∨ i = 2 ∨ i = 3 := by simp [wakeA] at hi; omega
    rcases this with rfl | rfl | rfl | rfl <;> simp [World.cell?, h, wakeA]
  have HRUN := run_yes _ _ smallW smallL false wakeA wa hmem wake_r1 hacc (by decide) (by decide)
  rw [wake_run] at HRUN
  have HRUN2 := Lib.hid HRUN
  have HZa := Lib.hid (show MBox wa w1.heap.size (.slice (some ⟨gw, 0, none⟩) 8 cw) (.slice (some ⟨gl, 0, none⟩) 8 cl) false by rw [hwa]; exact (MBox.new _ _ _ _).alloc _)
  have hBa := below_then hB1 hB1.size hba
  clear hmem hacc HRUN how hol hba hB1
  go_wp2_with fail
  rw [← hwa]
  clear hwa
  refine HRUN2.out.mono ?_
  rintro e w2 ⟨⟨gw2, cw2, gl2, cl2, vg, rfl, how2, hol2, hog2⟩, hb2⟩
  simp only at how2 hol2 hog2
  obtain ⟨gg, cg, rfl, hgg, _⟩ := own_form hog2 (by decide)
  have hgw2 := (how2.lt gw2 rfl).1
  have hgl2 := (hol2.lt gl2 rfl).1
  have HZ2 := Lib.hid (HZa.out.below hb2)
  have hylt : w1.heap.size < wa.heap.size := HZa.out.lt
  have hB2 := below_then hBa hBa.size hb2
  obtain ⟨⟨hd0, hd1, hd2⟩, he0, he1, he2⟩ := mbox_cells HZ2.out
  obtain ⟨wb, hwb⟩ : ∃ wb : World, wb = ((w2.setCell ⟨w1.heap.size, 0, none⟩ (.slice (some ⟨gw2, 0, none⟩) 8 cw2)).setCell ⟨w1.heap.size, 1, none⟩ (.slice (some ⟨gl2, 0, none⟩) 8 cl2)).setCell ⟨w1.heap.size, 2, none⟩ (.bool true) := ⟨_, rfl⟩
  have hkz : Keeps (· = w1.heap.size) w2 wb := by
    rw [hwb]
    exact ((Keeps.setCell w2 (S := (· = w1.heap.size)) (p := ⟨w1.heap.size, 0, none⟩) rfl _).trans (Keeps.setCell _ (S := (· = w1.heap.size)) (p := ⟨w1.heap.size, 1, none⟩) rfl _)).trans (Keeps.setCell _ (S := (· = w1.heap.size)) (p := ⟨w1.heap.size, 2, none⟩) rfl _)
  have HZb := Lib.hid (show MBox wb w1.heap.size (.slice (some ⟨gw2, 0, none⟩) 8 cw2) (.slice (some ⟨gl2, 0, none⟩) 8 cl2) true by rw [hwb]; exact HZ2.out.set _ _ _)
  have how3 := hkz.row how2 (by intro g hg; simp [Value.ownBlock] at hg; omega)
  have hol3 := hkz.row hol2 (by intro g hg; simp [Value.ownBlock] at hg; omega)
  have HOG := Lib.hid (hkz.row hog2 (by intro g hg; simp [Value.ownBlock] at hg; omega))
  have hBb : Below W.heap.size W wb := hB2.trans (hkz.below hB2.size (fun q hq => by have := hB1s; omega))
  have hmem : MemAt wb (.agg #[.slice (some ⟨gw2, 0, none⟩) 8 cw2, .slice (some ⟨gl2, 0, none⟩) 8 cl2, .bool true]) wakeW smallL true := ⟨_, _, rfl, nums_of_owns rfl how3, bools_of_owns rfl hol3⟩
  have HFREE := Lib.hid (free_yes _ wakeW smallL true 3 1 wb hmem (cap_of hol3) (by decide) (by decide) wake_r2 (by decide) (by decide))
  clear hmem how3 hol3 how2 hol2 hog2 hkz hb2 hB2 HZa HZ2 HRUN2 hBa
  rw [show (wakeW, true, wakeG).fst.length = 8 from rfl, show smallL.length = 8 from rfl, show (wakeW, true, wakeG).snd.snd.length = 4 from rfl, show (wakeW, true, wakeG).snd.fst = true from rfl]
  go_upto_region 3 with fail
  rw [← hwb]
  clear hwb hd0 hd1 hd2 he0 he1 he2
  obtain ⟨⟨hd0, hd1, hd2⟩, _⟩ := mbox_cells HZb.out
  go_wp2_with fail
  refine HFREE.out.mono ?_
  rintro e w4 ⟨⟨_, rfl, vw5, vl5, rfl, how5, hol5⟩, hb4⟩
  rw [wake_free.1] at how5
  rw [wake_free.2] at hol5
  obtain ⟨gw5, cw5, rfl, hgw5, _⟩ := own_form how5 (by decide)
  obtain ⟨gl5, cl5, rfl, hgl5, _⟩ := own_form hol5 (by decide)
  have hB4 := below_then hBb hBb.size hb4
  have HZ4 := Lib.hid (HZb.out.below hb4)
  have HOG4 := Lib.hid (gots_of_owns rfl (owns_below HOG.out hb4))
  clear hb4 hBb HZb HOG HFREE hd0 hd1 hd2
  rw [show wakeF.length = 8 from rfl, show wakeL.length = 8 from rfl] at *
  obtain ⟨wc, hwc⟩ : ∃ wc : World, wc = (w4.alloc (.cells #[.slice (some ⟨gw5, 0, none⟩) 8 cw5, .slice (some ⟨gl5, 0, none⟩) 8 cl5, .bool true] 25)).alloc (.cells #[.int .u64 0, .bool true, .int .u64 7, .bool true, .int .u64 9, .bool false, .int .u64 0, .bool false] 47) := ⟨_, rfl⟩
  go_wp2_with fail
  rw [← hwc]
  have hbc : Below w4.heap.size w4 wc := by rw [hwc]; exact ((Below.refl _ _).alloc (Nat.le_refl _) _).alloc (by simp) _
  have hlit : GotsAt wc (.slice (some ⟨w4.heap.size + 1, 0, none⟩) 4 4) wakeG := by
    have h : wc.heap[w4.heap.size + 1]? = some (.cells #[.int .u64 0, .bool true, .int .u64 7, .bool true, .int .u64 9, .bool false, .int .u64 0, .bool false] 47 (0, 0)) := by
      have := World.alloc_heap_new (w4.alloc (.cells #[.slice (some ⟨gw5, 0, none⟩) 8 cw5, .slice (some ⟨gl5, 0, none⟩) 8 cl5, .bool true] 25)) (.cells #[.int .u64 0, .bool true, .int .u64 7, .bool true, .int .u64 9, .bool false, .int .u64 0, .bool false] 47)
      rw [World.size_alloc] at this
      rw [hwc]; exact this
    refine ⟨_, _, rfl, fun _ => ⟨_, 0, rfl, fun i hi => ?_⟩⟩
    have : i = 0 ∨ i = 1 ∨ i = 2 ∨ i = 3 := by simp [wakeG] at hi; omega
    rcases this with rfl | rfl | rfl | rfl <;> simp [World.cell?, h, wakeG]
  have HF := Lib.hid (show MBox wc w4.heap.size (.slice (some ⟨gw5, 0, none⟩) 8 cw5) (.slice (some ⟨gl5, 0, none⟩) 8 cl5) true by rw [hwc]; exact (MBox.new _ _ _ _).alloc _)
  have HZc := Lib.hid (HZ4.out.below hbc)
  have HW5 := Lib.hid (owns_below how5 hbc)
  have HL5 := Lib.hid (owns_below hol5 hbc)
  have hBc := below_then hB4 hB4.size hbc
  have hgots := gots_below HOG4.out hbc
  clear hwc hbc HZ4 HOG4 how5 hol5 hB4
  refine (equalG_same _ _ wakeG _ hgots hlit (by decide)).mono ?_
  rintro e w6 ⟨rfl, hb6⟩
  have HF6 := Lib.hid (HF.out.below hb6)
  have HW6 := Lib.hid (owns_below HW5.out hb6)
  have HL6 := Lib.hid (owns_below HL5.out hb6)
  have hB6 := below_then hBc hBc.size hb6
  obtain ⟨⟨hz0, hz1, hz2⟩, _⟩ := mbox_cells (HZc.out.below hb6)
  obtain ⟨⟨hf0, hf1, hf2⟩, _⟩ := mbox_cells HF6.out
  have hp3 := HW6.out.cellAt 3 (by decide)
  have hpv : (wakeF.map (Value.int .u64))[3]? = some (.int .u64 18369900232523579118) := rfl
  rw [hpv] at hp3
  have HSP := Lib.hid (spansF_c _ wakeF wakeL true w6 ⟨_, _, rfl, nums_of_owns rfl HW6.out, bools_of_owns rfl HL6.out⟩ (cap_of HL6.out) wake_r3)
  clear hgots hlit hb6 HF HZc HW5 HL5 hBc hpv
  go_wp2_with fail
  refine HSP.out.mono ?_
  rintro e w7 ⟨⟨v7, rfl, ho7⟩, hb7⟩
  have hB7 := below_then hB6 hB6.size hb7
  have hP7 := pairs_of_owns (by simp [rowsI]) ho7
  rw [wake_spans] at hP7
  clear hb7 hB6 ho7 hz0 hz1 hz2 hf0 hf1 hf2 hp3 HSP
  obtain ⟨q7, c7, rfl, hq7⟩ := hP7
  have HP7 := Lib.hid (show PairsAt w7 (.slice q7 2 c7) [(2, 1), (4, 1)] from ⟨_, _, rfl, hq7⟩)
  clear hq7
  obtain ⟨wd, hwd⟩ : ∃ wd : World, wd = w7.alloc (.cells #[.int .i64 2, .int .i64 1, .int .i64 4, .int .i64 1] 29) := ⟨_, rfl⟩
  have hbd : Below w7.heap.size w7 wd := by rw [hwd]; exact (Below.refl _ _).alloc (Nat.le_refl _) _
  have hlit : PairsAt wd (.slice (some ⟨w7.heap.size, 0, none⟩) 2 2) [(2, 1), (4, 1)] := by
    have h : wd.heap[w7.heap.size]? = some (.cells #[.int .i64 2, .int .i64 1, .int .i64 4, .int .i64 1] 29 (0, 0)) := by
      rw [hwd]; exact World.alloc_heap_new _ _
    refine ⟨_, _, rfl, fun _ => ⟨_, 0, rfl, fun i hi => ?_⟩⟩
    have : i = 0 ∨ i = 1 := by simp at hi; omega
    rcases this with rfl | rfl <;> simp [World.cell?, h]
  have HEQ := Lib.hid (equalP_same _ _ [(2, 1), (4, 1)] wd (pairs_below HP7.out hbd) hlit (by decide))
  have hBd := below_then hB7 hB7.size hbd
  clear hlit hbd hB7
  go_wp2_with fail
  rw [← hwd]
  clear hwd
  refine HEQ.out.mono ?_
  rintro e w8 ⟨rfl, hb8⟩
  go_wp2
  go_ret
  exact ⟨rfl, below_then hBd hBd.size hb8⟩

end Go.Proofs.Ytgpbhdoidhhhhaa
