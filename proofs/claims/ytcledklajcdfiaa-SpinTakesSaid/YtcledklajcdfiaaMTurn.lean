/-
  memory.turn: the memory in memory of its own, some words live, or free, and holding one number; what was in memory stays.
  Conditions: the words are there.
-/
import Derived.Test.YtcledklajcdfiaaMRun
namespace Go.Proofs.Ytcledklajcdfiaa
open Go.RowKit Go.Shelf

/-- A list with one value at k places from x on. -/
def fill {α : Type} (l : List α) (x : Nat) (v : α) : Nat → List α
  | 0 => l
  | k + 1 => (fill l x v k).set (x + k) v
theorem fill_length {α : Type} (l : List α) (x : Nat) (v : α) (k : Nat) : (fill l x v k).length = l.length := by
  induction k with
  | zero => rfl
  | succ k ih => simp [fill, ih]
theorem fill_get {α : Type} (l : List α) (x : Nat) (v : α) (k j : Nat) (h : j < l.length) : (fill l x v k)[j]'(by rw [fill_length]; exact h) = if x ≤ j ∧ j < x + k then v else l[j] := by
  induction k with
  | zero => simp [fill]; intro h1 h2; omega
  | succ k ih =>
    simp only [fill, List.getElem_set, ih]
    split
    · rw [if_pos (by omega)]
    · split
      · rw [if_pos (by omega)]
      · rw [if_neg (by omega)]

/-- What holds at the head of turn's loop. -/
structure TurnInv (B z gw nw cw gl nl cl : Nat) (ws : List Int) (ls : List Bool) (f : Bool) (W w : World) : Prop where
  box : MBox w z (.slice (some ⟨gw, 0, none⟩) nw cw) (.slice (some ⟨gl, 0, none⟩) nl cl) f
  words : w.ownsRow B 22 1 (.slice (some ⟨gw, 0, none⟩) nw cw) nw (ws.map (Value.int .u64))
  lives : w.ownsRow B 4 1 (.slice (some ⟨gl, 0, none⟩) nl cl) nl (ls.map Value.bool)
  res : MBox w (z + 1) (.slice none 0 0) (.slice none 0 0) false
  below : Below W.heap.size W w

set_option maxRecDepth 100000 in
set_option maxHeartbeats 4000000 in
theorem turn_c (v : Value) (ws : List Int) (ls : List Bool) (f : Bool) (x k : Nat) (d : Bool) (u : Int) (W : World) (hv : MemAt W v ws ls f) (hn1 : 1 ≤ ws.length) (hn2 : ws.length ≤ 4096) (hlen : ls.length = ws.length) (hk : 1 ≤ k) (hxk : x + k ≤ ws.length) :
    Calls Try.prog 71 #[v, .int .i64 (x : Int), .int .i64 (k : Int), .bool d, .int .u64 u] W fun e w' => GivesMem W.heap.size (fill ws x u k) (fill ls x d k) f e w' ∧ Below W.heap.size W w' := by
  have hm := hv
  obtain ⟨vw, vl, rfl, ⟨pw, cw, rfl, hcw⟩, pl, cl, rfl, hcl⟩ := hv
  have HM := Lib.hid hm
  have HLEN := Lib.hid hlen
  clear hm hcw hcl hlen
  obtain ⟨z, hz⟩ : ∃ z, z = W.heap.size := ⟨_, rfl⟩
  obtain ⟨wo, hwo⟩ : ∃ wo : World, wo = (W.alloc (.cells #[.slice pw ws.length cw, .slice pl ls.length cl, .bool f] 46)).alloc (.cells #[.slice none 0 0, .slice none 0 0, .bool false] 46) := ⟨_, rfl⟩
  have hZ : MBox wo z (.slice pw ws.length cw) (.slice pl ls.length cl) f := by rw [hwo, hz]; exact (MBox.new _ _ _ _).alloc _
  have hR : MBox wo (z + 1) (.slice none 0 0) (.slice none 0 0) false := by
    have := MBox.new (W.alloc (.cells #[.slice pw ws.length cw, .slice pl ls.length cl, .bool f] 46)) (.slice none 0 0) (.slice none 0 0) false
    rw [World.size_alloc] at this
    rw [hwo, hz]; exact this
  have hB : Below W.heap.size W wo := by rw [hwo]; exact ((Below.refl _ _).alloc (Nat.le_refl _) _).alloc (by simp) _
  have hsz : z + 2 ≤ wo.heap.size := by rw [hwo, hz]; simp
  have HZ := Lib.hid hZ
  have HR := Lib.hid hR
  clear hZ hR
  go_enter Try.func71, Try.ntmps71
  go_wp2_with fail
  rw [← hwo, ← hz]
  have HZW := Lib.hid hz
  clear hwo hz
  refine (double_c _ ws ls f _ (HM.out.below hB) (by omega) (by rw [HLEN.out]; omega) (by omega) (by rw [HLEN.out]; omega)).mono ?_
  rintro e w3 ⟨⟨_, rfl, vw2, vl2, rfl, how, hol⟩, hb3⟩
  obtain ⟨gw, cw2, rfl, hgw, hgw3⟩ := own_form how (by omega)
  obtain ⟨gl, cl2, rfl, hgl, hgl3⟩ := own_form hol (by rw [HLEN.out]; omega)
  have hcap := own_cap how
  have hcap2 := own_cap hol
  have hzg : z < gw := by omega
  have hzgl : z < gl := by omega
  have hB3 := below_then hB hB.size hb3
  have HZ3 := Lib.hid (HZ.out.below hb3)
  obtain ⟨⟨hd0, hd1, hd2⟩, he0, he1, he2⟩ := mbox_cells HZ3.out
  obtain ⟨w4, hw4⟩ : ∃ w4 : World, w4 = ((w3.setCell ⟨z, 0, none⟩ (.slice (some ⟨gw, 0, none⟩) ws.length cw2)).setCell ⟨z, 1, none⟩ (.slice (some ⟨gl, 0, none⟩) ls.length cl2)).setCell ⟨z, 2, none⟩ (.bool f) := ⟨_, rfl⟩
  have hkz : Keeps (· = z) w3 w4 := by
    rw [hw4]
    exact ((Keeps.setCell w3 (S := (· = z)) (p := ⟨z, 0, none⟩) rfl _).trans (Keeps.setCell _ (S := (· = z)) (p := ⟨z, 1, none⟩) rfl _)).trans (Keeps.setCell _ (S := (· = z)) (p := ⟨z, 2, none⟩) rfl _)
  have hzz : W.heap.size = z := HZW.out.symm
  have HI := Lib.hid (show TurnInv W.heap.size z gw ws.length cw2 gl ls.length cl2 ws ls f W w4 from
    ⟨by rw [hw4]; exact HZ3.out.set _ _ _, (hkz.row how (by intro g hg; simp [Value.ownBlock] at hg; omega)).mono (by omega), (hkz.row hol (by intro g hg; simp [Value.ownBlock] at hg; omega)).mono (by omega),
      (HR.out.below hb3).keeps hkz (by omega), hB3.trans (hkz.below hB3.size (fun q hq => by omega))⟩)
  have hsz4 : z + 2 ≤ w4.heap.size := Nat.le_trans (Nat.le_trans hsz hb3.size) hkz.size
  clear hkz how hol hb3 HZ HR hB3 HZ3 hB hzz
  have HCW : ∀ W' : World, Calls Try.prog 86 #[.slice (some ⟨gw, 0, none⟩) ws.length cw2, .int .i64 x, .int .i64 k] W' fun e w' => e = .returned (.slice (some ⟨gw, x, none⟩) k k) ∧ w' = W' := fun W' => by
    simpa using cutW_c gw 0 ws.length cw2 x k hk (by omega) hcap.2 W'
  have HCB : ∀ W' : World, Calls Try.prog 89 #[.slice (some ⟨gl, 0, none⟩) ls.length cl2, .int .i64 x, .int .i64 k] W' fun e w' => e = .returned (.slice (some ⟨gl, x, none⟩) k k) ∧ w' = W' := fun W' => by
    simpa using cutB_c gl 0 ls.length cl2 x k hk (by have := HLEN.out; omega) hcap2.2 W'
  go_upto_region 2 with fail
  rw [← hw4]
  clear hw4 hd0 hd1 hd2 he0 he1 he2
  obtain ⟨⟨hd0, hd1, hd2⟩, he0, he1, he2⟩ := mbox_cells HI.out.box
  go_quiet (first | (go_at_call 86; exact Calls.quiet_of_same (HCW _)) | (go_at_call 89; exact Calls.quiet_of_same (HCB _)))
  have hinv0 : TurnInv W.heap.size z gw ws.length cw2 gl ls.length cl2 ws ls f W (w4.drewN nq) := ⟨HI.out.box, HI.out.words, HI.out.lives, HI.out.res, below_drewN HI.out.below _⟩
  have hwl : gw ≠ gl := owns_ne HI.out.words HI.out.lives (by decide) rfl rfl
  have hzW : W.heap.size ≤ z := Nat.le_of_eq HZW.out.symm
  have hsz5 : z + 1 < gw := by have := hsz; omega
  have hsz6 : z + 1 < gl := by have := hsz; omega
  clear HI HCW HCB hd0 hd1 hd2 he0 he1 he2
  go_wp2_with fail
  go_loopw [28] (fun iv wr => ∃ i : Nat, i ≤ k ∧ iv = .int .i64 i ∧ TurnInv W.heap.size z gw ws.length cw2 gl ls.length cl2 (fill ws x u i) (fill ls x d i) f W wr) (fun iv _ => k - (intOf iv).toNat)
  case atStart => exact ⟨0, Nat.zero_le _, rfl, hinv0⟩
  case round =>
    obtain ⟨i, hi, rfl, hinv⟩ := hrel
    by_cases hlt : i < k
    · have hw1 := hinv.words.cellAt (x + i) (by omega)
      have hl1 := hinv.lives.cellAt (x + i) (by have := HLEN.out; omega)
      have hwf := hinv.words.frozenAt (x + i)
      have hlf := hinv.lives.frozenAt (x + i)
      have hwi : x + i < ((fill ws x u i).map (Value.int .u64)).length := by rw [List.length_map, fill_length]; omega
      have hli : x + i < ((fill ls x d i).map Value.bool).length := by rw [List.length_map, fill_length]; have := HLEN.out; omega
      rw [List.getElem?_eq_getElem hwi] at hw1
      rw [List.getElem?_eq_getElem hli] at hl1
      obtain ⟨y1, hy1⟩ : ∃ y, y = ((fill ws x u i).map (Value.int .u64))[x + i] := ⟨_, rfl⟩
      obtain ⟨y2, hy2⟩ : ∃ y, y = ((fill ls x d i).map Value.bool)[x + i] := ⟨_, rfl⟩
      rw [← hy1] at hw1
      rw [← hy2] at hl1
      have hst1 := (hinv.words.stored (x + i) (.int .u64 u)).1
      rw [← List.map_set] at hst1
      have hlv := ownsRow_setCell_other hinv.lives (a := ⟨gw, x + i, none⟩) (by simp [Value.ownBlock]; omega) (.int .u64 u)
      have hst2 := (hlv.stored (x + i) (.bool d)).1
      rw [← List.map_set] at hst2
      have hst3 := ownsRow_setCell_other hst1 (a := ⟨gl, x + i, none⟩) (by simp [Value.ownBlock]; omega) (.bool d)
      have hk2 : Keeps (fun q => q = gw ∨ q = gl) wr ((wr.setCell ⟨gw, x + i, none⟩ (.int .u64 u)).setCell ⟨gl, x + i, none⟩ (.bool d)) :=
        (Keeps.setCell wr (p := ⟨gw, x + i, none⟩) (.inl rfl) _).trans (Keeps.setCell _ (p := ⟨gl, x + i, none⟩) (.inr rfl) _)
      have hnew : TurnInv W.heap.size z gw ws.length cw2 gl ls.length cl2 (fill ws x u (i + 1)) (fill ls x d (i + 1)) f W ((wr.setCell ⟨gw, x + i, none⟩ (.int .u64 u)).setCell ⟨gl, x + i, none⟩ (.bool d)) :=
        ⟨hinv.box.keeps hk2 (by omega), hst3, hst2, hinv.res.keeps hk2 (by omega), hinv.below.trans (hk2.below hinv.below.size (fun q hq => by omega))⟩
      clear hy1 hy2 hwi hli hst1 hlv hst2 hst3 hk2 hinv
      go_wp2
      go_roundw
      case rel => exact ⟨i + 1, by omega, by go_num, hnew⟩
      case measure => simp [intOf]; omega
    · obtain rfl : i = k := by omega
      obtain ⟨⟨hd0, hd1, hd2⟩, he0, he1, he2⟩ := mbox_cells hinv.box
      obtain ⟨⟨hr0, hr1, hr2⟩, hs0, hs1, hs2⟩ := mbox_cells hinv.res
      have hkr : Keeps (· = z + 1) wr (((wr.setCell ⟨z + 1, 0, none⟩ (.slice (some ⟨gw, 0, none⟩) ws.length cw2)).setCell ⟨z + 1, 1, none⟩ (.slice (some ⟨gl, 0, none⟩) ls.length cl2)).setCell ⟨z + 1, 2, none⟩ (.bool f)) :=
        ((Keeps.setCell wr (S := (· = z + 1)) (p := ⟨z + 1, 0, none⟩) rfl _).trans (Keeps.setCell _ (S := (· = z + 1)) (p := ⟨z + 1, 1, none⟩) rfl _)).trans (Keeps.setCell _ (S := (· = z + 1)) (p := ⟨z + 1, 2, none⟩) rfl _)
      have ho1 := hkr.row hinv.words (by intro g hg; simp [Value.ownBlock] at hg; omega)
      have ho2 := hkr.row hinv.lives (by intro g hg; simp [Value.ownBlock] at hg; omega)
      have hBe := hinv.below.trans (hkr.below hinv.below.size (by intro q hq; omega))
      clear hkr hinv
      go_wp2
      refine bodyPost_ret (v := .agg #[.slice (some ⟨gw, 0, none⟩) ws.length cw2, .slice (some ⟨gl, 0, none⟩) ls.length cl2, .bool f]) (by simp [results, Try.results71, go_sem, hr0, hr1, hr2]) rfl ⟨⟨_, rfl, _, _, rfl, ?_, ?_⟩, hBe⟩
      · rw [fill_length]; exact ho1
      · rw [fill_length]; exact ho2

end Go.Proofs.Ytcledklajcdfiaa
