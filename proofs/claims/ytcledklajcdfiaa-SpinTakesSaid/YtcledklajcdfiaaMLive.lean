/-
  memory.Live: an error, or the memory in memory of its own with some words live; what was in memory stays.
  Conditions: the memory reads as these lists.
-/
import Derived.Test.YtcledklajcdfiaaMTurn
import Derived.Test.YtcledklajcdfiaaMLives
namespace Go.Proofs.Ytcledklajcdfiaa
open Go.RowKit Go.Shelf

set_option maxRecDepth 100000 in
set_option maxHeartbeats 4000000 in
theorem live_no (v : Value) (ws : List Int) (ls : List Bool) (f : Bool) (a k : Int) (W : World) (hv : MemAt W v ws ls f) (hcap0 : ∀ x y p n c, v = .agg #[x, .slice p n c, y] → n ≤ c) (hw : ws.length ≤ 9223372036854775807) (hk2 : k ≤ 9223372036854775807) (c : Int)
    (hc : (rightB ws ls = false ∧ c = 120) ∨ (rightB ws ls = true ∧ thereB ws.length a k = false ∧ c = 2) ∨ (rightB ws ls = true ∧ thereB ws.length a k = true ∧ cnt a.toNat (a.toNat + k.toNat) 0 ls ≠ 0 ∧ c = 5)) :
    Calls Try.prog 46 #[v, .int .i64 a, .int .i64 k] W fun e w' => e = .returned (.tuple #[memZ, .int .i64 c]) ∧ Below W.heap.size W w' := by
  have hm := hv
  obtain ⟨vw, vl, rfl, ⟨pw, cw, rfl, hcw⟩, pl, cl, rfl, hcl⟩ := hv
  have hcap := hcap0 _ _ _ _ _ rfl
  clear hcap0
  have HM := Lib.hid hm
  have HCL := Lib.hid hcl
  clear hm hcw hcl
  obtain ⟨z, hz⟩ : ∃ z, z = W.heap.size := ⟨_, rfl⟩
  obtain ⟨wo, hwo⟩ : ∃ wo : World, wo = (W.alloc (.cells #[.slice pw ws.length cw, .slice pl ls.length cl, .bool f] 46)).alloc (.cells #[.slice none 0 0, .slice none 0 0, .bool false] 46) := ⟨_, rfl⟩
  have hZ : MBox wo z (.slice pw ws.length cw) (.slice pl ls.length cl) f := by rw [hwo, hz]; exact (MBox.new _ _ _ _).alloc _
  have hR : MBox wo (z + 1) (.slice none 0 0) (.slice none 0 0) false := by
    have := MBox.new (W.alloc (.cells #[.slice pw ws.length cw, .slice pl ls.length cl, .bool f] 46)) (.slice none 0 0) (.slice none 0 0) false
    rw [World.size_alloc] at this
    rw [hwo, hz]; exact this
  have hB : Below W.heap.size W wo := by rw [hwo]; exact ((Below.refl _ _).alloc (Nat.le_refl _) _).alloc (by simp) _
  have hsz : z + 2 ≤ wo.heap.size := by rw [hwo, hz]; simp
  have HZ := Lib.hid hZ
  have HR := Lib.hid hR
  clear hZ hR
  go_enter Try.func46, Try.ntmps46
  go_wp2_with fail
  rw [← hwo, ← hz]
  have hzW : W.heap.size ≤ z := Nat.le_of_eq hz.symm
  clear hwo hz
  refine (check_c _ ws ls f _ (HM.out.below hB) hw).mono ?_
  rintro e w1 ⟨rfl, hb1⟩
  have HZ1 := Lib.hid (HZ.out.below hb1)
  have HR1 := Lib.hid (HR.out.below hb1)
  have hB1 := below_then hB hB.size hb1
  have hsz1 := Nat.le_trans hsz hb1.size
  clear hb1 HZ HR hB hsz
  rcases hc with ⟨hr, rfl⟩ | ⟨hr, ht, rfl⟩ | ⟨hr, ht, hc, rfl⟩
  · rw [chkM_no hr]
    obtain ⟨⟨hr0, hr1, hr2⟩, hs0, hs1, hs2⟩ := mbox_cells HR1.out
    have hBe := ((hB1.setCell (p := ⟨z + 1, 0, none⟩) (by simp; omega) (.slice none 0 0)).setCell (p := ⟨z + 1, 1, none⟩) (by simp; omega) (.slice none 0 0)).setCell (p := ⟨z + 1, 2, none⟩) (by simp; omega) (.bool false)
    go_wp2
    exact bodyPost_ret (v := .tuple #[memZ, .int .i64 120]) (by simp [results, Try.results46, go_sem, hr0, hr1, hr2, memZ]) rfl ⟨rfl, hBe⟩
  · rw [chkM_yes hr]
    obtain ⟨⟨hd0, hd1, hd2⟩, _⟩ := mbox_cells HZ1.out
    go_wp2_with fail
    refine (there_c _ ws.length cw _ f a k hk2 hw _).mono ?_
    rintro e w2 ⟨rfl, hb2⟩
    have HZ2 := Lib.hid (HZ1.out.below hb2)
    have HR2 := Lib.hid (HR1.out.below hb2)
    have hB2 := below_then hB1 hB1.size hb2
    have hsz2 := Nat.le_trans hsz1 hb2.size
    clear hb2 hB1 hsz1 HR1 HZ1 hd0 hd1 hd2
    rw [ht]
    obtain ⟨⟨hr0, hr1, hr2⟩, hs0, hs1, hs2⟩ := mbox_cells HR2.out
    have hBe := ((hB2.setCell (p := ⟨z + 1, 0, none⟩) (by simp; omega) (.slice none 0 0)).setCell (p := ⟨z + 1, 1, none⟩) (by simp; omega) (.slice none 0 0)).setCell (p := ⟨z + 1, 2, none⟩) (by simp; omega) (.bool false)
    go_wp2
    exact bodyPost_ret (v := .tuple #[memZ, .int .i64 2]) (by simp [results, Try.results46, go_sem, hr0, hr1, hr2, memZ]) rfl ⟨rfl, hBe⟩
  · rw [chkM_yes hr]
    obtain ⟨⟨hd0, hd1, hd2⟩, _⟩ := mbox_cells HZ1.out
    go_wp2_with fail
    refine (there_c _ ws.length cw _ f a k hk2 hw _).mono ?_
    rintro e w2 ⟨rfl, hb2⟩
    have HZ2 := Lib.hid (HZ1.out.below hb2)
    have HR2 := Lib.hid (HR1.out.below hb2)
    have hB2 := below_then hB1 hB1.size hb2
    have hsz2 := Nat.le_trans hsz1 hb2.size
    clear hb2 hB1 hsz1 HR1 HZ1 hd0 hd1 hd2
    rw [ht]
    obtain ⟨t1, t2, t3⟩ := thereB_iff.1 ht
    obtain ⟨a, rfl⟩ := Int.eq_ofNat_of_zero_le t2
    obtain ⟨k, rfl⟩ := Int.eq_ofNat_of_zero_le (show 0 ≤ k by omega)
    obtain ⟨hn1, hn2, hlen, hmay⟩ := rightB_iff.1 hr
    clear hmay
    simp only [Int.toNat_natCast] at hc ⊢
    obtain ⟨bl, ol, rfl, hcs⟩ := HCL.out (by intro e; rw [e] at hlen; simp at hlen; omega)
    have HCS := Lib.hid hcs
    have HLEN := Lib.hid hlen
    clear hcs hlen HCL
    obtain ⟨⟨hd0, hd1, hd2⟩, _⟩ := mbox_cells HZ2.out
    go_wp2_with fail
    refine (lives_c pw ws.length cw bl ol cl ls f a k _ (by rw [HLEN.out]; omega) hcap (by omega) (by rw [HLEN.out]; omega) (fun i h => below_cell hB2 (HCS.out i h))).mono ?_
    rintro e w3 ⟨rfl, hb3⟩
    have HZ3 := Lib.hid (HZ2.out.below hb3)
    have HR3 := Lib.hid (HR2.out.below hb3)
    have hB3 := below_then hB2 hB2.size hb3
    have hsz3 := Nat.le_trans hsz2 hb3.size
    clear hb3 hB2 hsz2 HR2 HZ2 hd0 hd1 hd2
    obtain ⟨q, hq⟩ : ∃ q, q = cnt a (a + k) 0 ls := ⟨_, rfl⟩
    rw [← hq] at hc ⊢
    clear hq
    have hq1 : (0 : Int) < q := by omega
    obtain ⟨⟨hr0, hr1, hr2⟩, hs0, hs1, hs2⟩ := mbox_cells HR3.out
    have hBe := ((hB3.setCell (p := ⟨z + 1, 0, none⟩) (by simp; omega) (.slice none 0 0)).setCell (p := ⟨z + 1, 1, none⟩) (by simp; omega) (.slice none 0 0)).setCell (p := ⟨z + 1, 2, none⟩) (by simp; omega) (.bool false)
    go_wp2
    exact bodyPost_ret (v := .tuple #[memZ, .int .i64 5]) (by simp [results, Try.results46, go_sem, hr0, hr1, hr2, memZ]) rfl ⟨rfl, hBe⟩

/-- What such a call hands over. -/
def LiveOk (B : Nat) (ws : List Int) (ls : List Bool) (f : Bool) (e : Ending) (w' : World) : Prop :=
  ∃ v', e = .returned (.tuple #[v', .int .i64 0]) ∧ OwnsMem w' B v' ws ls f

set_option maxRecDepth 100000 in
set_option maxHeartbeats 4000000 in
theorem live_yes (v : Value) (ws : List Int) (ls : List Bool) (f : Bool) (a k : Int) (W : World) (hv : MemAt W v ws ls f) (hcap0 : ∀ x y p n c, v = .agg #[x, .slice p n c, y] → n ≤ c) (hw : ws.length ≤ 9223372036854775807) (hk2 : k ≤ 9223372036854775807)
    (hr : rightB ws ls = true) (ht : thereB ws.length a k = true) (hc : cnt a.toNat (a.toNat + k.toNat) 0 ls = 0) :
    Calls Try.prog 46 #[v, .int .i64 a, .int .i64 k] W fun e w' => LiveOk W.heap.size (fill ws a.toNat 0 k.toNat) (fill ls a.toNat true k.toNat) f e w' ∧ Below W.heap.size W w' := by
  have hm := hv
  obtain ⟨vw, vl, rfl, ⟨pw, cw, rfl, hcw⟩, pl, cl, rfl, hcl⟩ := hv
  have hcap := hcap0 _ _ _ _ _ rfl
  clear hcap0
  have HM := Lib.hid hm
  have HCL := Lib.hid hcl
  clear hm hcw hcl
  obtain ⟨z, hz⟩ : ∃ z, z = W.heap.size := ⟨_, rfl⟩
  obtain ⟨wo, hwo⟩ : ∃ wo : World, wo = (W.alloc (.cells #[.slice pw ws.length cw, .slice pl ls.length cl, .bool f] 46)).alloc (.cells #[.slice none 0 0, .slice none 0 0, .bool false] 46) := ⟨_, rfl⟩
  have hZ : MBox wo z (.slice pw ws.length cw) (.slice pl ls.length cl) f := by rw [hwo, hz]; exact (MBox.new _ _ _ _).alloc _
  have hR : MBox wo (z + 1) (.slice none 0 0) (.slice none 0 0) false := by
    have := MBox.new (W.alloc (.cells #[.slice pw ws.length cw, .slice pl ls.length cl, .bool f] 46)) (.slice none 0 0) (.slice none 0 0) false
    rw [World.size_alloc] at this
    rw [hwo, hz]; exact this
  have hB : Below W.heap.size W wo := by rw [hwo]; exact ((Below.refl _ _).alloc (Nat.le_refl _) _).alloc (by simp) _
  have hsz : z + 2 ≤ wo.heap.size := by rw [hwo, hz]; simp
  have HZ := Lib.hid hZ
  have HR := Lib.hid hR
  clear hZ hR
  go_enter Try.func46, Try.ntmps46
  go_wp2_with fail
  rw [← hwo, ← hz]
  have hzW : W.heap.size ≤ z := Nat.le_of_eq hz.symm
  clear hwo hz
  refine (check_c _ ws ls f _ (HM.out.below hB) hw).mono ?_
  rintro e w1 ⟨rfl, hb1⟩
  have HZ1 := Lib.hid (HZ.out.below hb1)
  have HR1 := Lib.hid (HR.out.below hb1)
  have hB1 := below_then hB hB.size hb1
  have hsz1 := Nat.le_trans hsz hb1.size
  clear hb1 HZ HR hB hsz
  rw [chkM_yes hr]
  obtain ⟨⟨hd0, hd1, hd2⟩, _⟩ := mbox_cells HZ1.out
  go_wp2_with fail
  refine (there_c _ ws.length cw _ f a k hk2 hw _).mono ?_
  rintro e w2 ⟨rfl, hb2⟩
  have HZ2 := Lib.hid (HZ1.out.below hb2)
  have HR2 := Lib.hid (HR1.out.below hb2)
  have hB2 := below_then hB1 hB1.size hb2
  have hsz2 := Nat.le_trans hsz1 hb2.size
  clear hb2 hB1 hsz1 HR1 HZ1 hd0 hd1 hd2
  rw [ht]
  obtain ⟨t1, t2, t3⟩ := thereB_iff.1 ht
  obtain ⟨a, rfl⟩ := Int.eq_ofNat_of_zero_le t2
  obtain ⟨k, rfl⟩ := Int.eq_ofNat_of_zero_le (show 0 ≤ k by omega)
  obtain ⟨hn1, hn2, hlen, hmay⟩ := rightB_iff.1 hr
  clear hmay
  simp only [Int.toNat_natCast] at hc ⊢
  obtain ⟨bl, ol, rfl, hcs⟩ := HCL.out (by intro e; rw [e] at hlen; simp at hlen; omega)
  have HCS := Lib.hid hcs
  have HLEN := Lib.hid hlen
  clear hcs hlen HCL
  obtain ⟨⟨hd0, hd1, hd2⟩, _⟩ := mbox_cells HZ2.out
  go_wp2_with fail
  refine (lives_c pw ws.length cw bl ol cl ls f a k _ (by rw [HLEN.out]; omega) hcap (by omega) (by rw [HLEN.out]; omega) (fun i h => below_cell hB2 (HCS.out i h))).mono ?_
  rintro e w3 ⟨rfl, hb3⟩
  have HZ3 := Lib.hid (HZ2.out.below hb3)
  have HR3 := Lib.hid (HR2.out.below hb3)
  have hB3 := below_then hB2 hB2.size hb3
  have hsz3 := Nat.le_trans hsz2 hb3.size
  clear hb3 hB2 hsz2 HR2 HZ2 hd0 hd1 hd2
  obtain ⟨q, hq⟩ : ∃ q, q = cnt a (a + k) 0 ls := ⟨_, rfl⟩
  rw [← hq] at hc ⊢
  clear hq
  subst hc
  obtain ⟨⟨hd0, hd1, hd2⟩, _⟩ := mbox_cells HZ3.out
  go_wp2_with fail
  refine (turn_c _ ws ls f a k true 0 _ (HM.out.below hB3) hn1 hn2 HLEN.out (by omega) (by omega)).mono ?_
  rintro e w4 ⟨⟨_, rfl, vw2, vl2, rfl, how, hol⟩, hb4⟩
  obtain ⟨gw, cw2, rfl, hgw, _⟩ := own_form how (by rw [fill_length]; omega)
  obtain ⟨gl, cl2, rfl, hgl, _⟩ := own_form hol (by rw [fill_length, HLEN.out]; omega)
  obtain ⟨⟨hr0, hr1, hr2⟩, hs0, hs1, hs2⟩ := mbox_cells (HR3.out.below hb4)
  have hB4 := below_then hB3 hB3.size hb4
  have hkr : Keeps (· = z + 1) w4 (((w4.setCell ⟨z + 1, 0, none⟩ (.slice (some ⟨gw, 0, none⟩) (fill ws a 0 k).length cw2)).setCell ⟨z + 1, 1, none⟩ (.slice (some ⟨gl, 0, none⟩) (fill ls a true k).length cl2)).setCell ⟨z + 1, 2, none⟩ (.bool f)) :=
    ((Keeps.setCell w4 (S := (· = z + 1)) (p := ⟨z + 1, 0, none⟩) rfl _).trans (Keeps.setCell _ (S := (· = z + 1)) (p := ⟨z + 1, 1, none⟩) rfl _)).trans (Keeps.setCell _ (S := (· = z + 1)) (p := ⟨z + 1, 2, none⟩) rfl _)
  have ho1 := (hkr.row how (by intro g hg; simp [Value.ownBlock] at hg; omega)).mono (base' := W.heap.size) hB3.size
  have ho2 := (hkr.row hol (by intro g hg; simp [Value.ownBlock] at hg; omega)).mono (base' := W.heap.size) hB3.size
  have hBe := hB4.trans (hkr.below hB4.size (by intro q hq; omega))
  clear hkr how hol hb4 hd0 hd1 hd2
  go_wp2
  exact bodyPost_ret (v := .tuple #[.agg #[.slice (some ⟨gw, 0, none⟩) (fill ws a 0 k).length cw2, .slice (some ⟨gl, 0, none⟩) (fill ls a true k).length cl2, .bool f], .int .i64 0]) (by simp [results, Try.results46, go_sem, hr0, hr1, hr2]) rfl ⟨⟨_, rfl, _, _, rfl, ho1, ho2⟩, hBe⟩

end Go.Proofs.Ytcledklajcdfiaa
