/-
  Live and Free, of the document's answers of layer 2: the memory with so many words live, or free; what was in memory stays.
  Conditions: the memory has as many words as truth values, at most 4096, and the words are there.
-/
import Derived.Test.YtgpbhdoidhhhhaaMWith
namespace Go.Proofs.Ytgpbhdoidhhhhaa
open Go.RowKit Go.Shelf

/-- A memory's value reads so, whatever becomes of the blocks z and z + 1. -/
def Firm (z : Nat) (wr : World) (v : Value) (ws : List Int) (ls : List Bool) (f : Bool) : Prop := ∀ w2, Keeps (fun q => q = z ∨ q = z + 1) wr w2 → MemAt w2 v ws ls f
theorem Firm.now {z : Nat} {wr : World} {v : Value} {ws : List Int} {ls : List Bool} {f : Bool} (h : Firm z wr v ws ls f) : MemAt wr v ws ls f := h wr (Keeps.refl _ _)
theorem Firm.later {z : Nat} {wr w2 : World} {v : Value} {ws : List Int} {ls : List Bool} {f : Bool} (h : Firm z wr v ws ls f) (hk : Keeps (fun q => q = z ∨ q = z + 1) wr w2) : Firm z w2 v ws ls f := fun w3 h3 => h w3 (hk.trans h3)
theorem Firm.of_owns {z B : Nat} {w : World} {v0 v1 : Value} {ws : List Int} {ls : List Bool} {f : Bool} (h0 : w.ownsRow B 42 1 v0 ws.length (ws.map (Value.int .u64))) (h1 : w.ownsRow B 4 1 v1 ls.length (ls.map Value.bool)) (hz : z + 1 < B) : Firm z w (.agg #[v0, v1, .bool f]) ws ls f := fun w2 hk =>
  ⟨_, _, rfl, nums_of_owns rfl (hk.row' h0 (fun q hq => by rcases hq with rfl | rfl <;> omega)), bools_of_owns rfl (hk.row' h1 (fun q hq => by rcases hq with rfl | rfl <;> omega))⟩
theorem Firm.of_old {W w : World} {v : Value} {ws : List Int} {ls : List Bool} {f : Bool} (h : MemAt W v ws ls f) (hb : Below W.heap.size W w) : Firm W.heap.size w v ws ls f := fun w2 hk =>
  h.below (hb.trans (hk.below hb.size (fun q hq => by rcases hq with rfl | rfl <;> omega)))

set_option maxRecDepth 100000 in
set_option maxHeartbeats 4000000 in
theorem refLive_c (v : Value) (ws : List Int) (ls : List Bool) (f : Bool) (x k : Nat) (W : World) (hv : MemAt W v ws ls f) (hlen : ls.length = ws.length) (hn : ws.length ≤ 4096) (hk1 : 1 ≤ k) (hxk : x + k ≤ ws.length) :
    Calls Try.prog 15 #[v, .int .i64 (x : Int), .int .i64 (k : Int)] W fun e w' => GivesMem W.heap.size (fill ws x 0 k) (fill ls x true k) f e w' ∧ Below W.heap.size W w' := by
  have hm := hv
  obtain ⟨vw0, vl0, rfl, ⟨p0, c0, rfl, -⟩, q0, d0, rfl, -⟩ := hv
  obtain ⟨z, hz⟩ : ∃ z, z = W.heap.size := ⟨_, rfl⟩
  obtain ⟨wo, hwo⟩ : ∃ wo : World, wo = (W.alloc (.cells #[.slice p0 ws.length c0, .slice q0 ls.length d0, .bool f] 25)).alloc (.cells #[.slice none 0 0, .slice none 0 0, .bool false] 25) := ⟨_, rfl⟩
  have hB : Below W.heap.size W wo := by rw [hwo]; exact ((Below.refl _ _).alloc (Nat.le_refl _) _).alloc (by simp) _
  have HB := Lib.hid hB
  have HMB := Lib.hid (show MBox wo z (.slice p0 ws.length c0) (.slice q0 ls.length d0) f by rw [hwo, hz]; exact (MBox.new _ _ _ _).alloc _)
  have HRB := Lib.hid (show MBox wo (z + 1) (.slice none 0 0) (.slice none 0 0) false by
    have := MBox.new (W.alloc (.cells #[.slice p0 ws.length c0, .slice q0 ls.length d0, .bool f] 25)) (.slice none 0 0) (.slice none 0 0) false
    rw [World.size_alloc] at this
    rw [hwo, hz]; exact this)
  have HF := Lib.hid (show Firm z wo (.agg #[.slice p0 ws.length c0, .slice q0 ls.length d0, .bool f]) ws ls f by rw [hz]; exact Firm.of_old hm hB)
  have HZ := Lib.hid hz
  have HLEN := Lib.hid hlen
  clear hm hB hlen
  go_enter Try.func15, Try.ntmps15
  go_wp2
  rw [← hwo]
  clear hwo
  rw [← hz]
  clear hz
  go_loopw [9] (fun iv wr => ∃ (i : Nat) (pa : Option Addr) (na ca : Nat) (pb : Option Addr) (nb cb : Nat), i ≤ k ∧ iv = .int .i64 i ∧ MBox wr z (.slice pa na ca) (.slice pb nb cb) f ∧ Firm z wr (.agg #[.slice pa na ca, .slice pb nb cb, .bool f]) (fill ws x 0 i) (fill ls x true i) f ∧ Keeps (fun q => q = z) wo wr ∧ (i = 0 ∨ OwnsMem wr z (.agg #[.slice pa na ca, .slice pb nb cb, .bool f]) (fill ws x 0 i) (fill ls x true i) f)) (fun iv _ => k - (intOf iv).toNat)
  case atStart => exact ⟨0, _, _, _, _, _, _, Nat.zero_le _, rfl, HMB.out, HF.out, Keeps.refl _ _, .inl rfl⟩
  case round =>
    obtain ⟨i, pa, na, ca, pb, nb, cb, hi, rfl, hbox, hfirm, hkeep, hown⟩ := hrel
    have HO := Lib.hid hown
    clear hown
    have HBX := Lib.hid hbox
    have HFI := Lib.hid hfirm
    have HK := Lib.hid hkeep
    clear hbox hfirm hkeep HF HMB
    obtain ⟨⟨hm0, hm1, hm2⟩, _⟩ := mbox_cells HBX.out
    by_cases hlt : i < k
    · obtain ⟨y, hy⟩ : ∃ y, y = x + i := ⟨_, rfl⟩
      have hsum : (x : Int) + (i : Int) = (y : Int) := by omega
      have hsum2 : IntKind.i64.wrap ((x : Int) + (i : Int)) = (y : Int) := by rw [hsum]; simp [IntKind.wrap, IntKind.signed, IntKind.bits]; omega
      have HY := Lib.hid hy
      clear hy
      go_wp2_with fail
      clear hm0 hm1 hm2
      refine (with_c _ _ _ f y 0 true wr HFI.out.now (by rw [fill_length, fill_length]; exact HLEN.out) (by rw [fill_length]; exact hn)).mono ?_
      rintro e w1 ⟨⟨v1, rfl, vw1, vl1, rfl, ho0, ho1⟩, hb⟩
      obtain ⟨pw, cw, rfl⟩ := owns_slice ho0
      obtain ⟨pl, cl, rfl⟩ := owns_slice ho1
      rw [show (fill ws x 0 i).set y 0 = fill ws x 0 (i + 1) by rw [HY.out]; rfl] at ho0 ⊢
      rw [show (fill ls x true i).set y true = fill ls x true (i + 1) by rw [HY.out]; rfl] at ho1 ⊢
      have hbx := HBX.out.below hb
      obtain ⟨⟨hm0, hm1, hm2⟩, hf0, hf1, hf2⟩ := mbox_cells hbx
      have hzB : z + 1 < wr.heap.size := by have h1 := (HRB.out.keeps HK.out (by simp)).lt; exact h1
      have hks : Keeps (fun q => q = z) w1 (((w1.setCell ⟨z, 0, none⟩ (.slice pw (fill ws x 0 (i + 1)).length cw)).setCell ⟨z, 1, none⟩ (.slice pl (fill ls x true (i + 1)).length cl)).setCell ⟨z, 2, none⟩ (.bool f)) :=
        ((Keeps.setCell w1 (S := fun q => q = z) (p := ⟨z, 0, none⟩) rfl _).trans (Keeps.setCell _ (S := fun q => q = z) (p := ⟨z, 1, none⟩) rfl _)).trans (Keeps.setCell _ (S := fun q => q = z) (p := ⟨z, 2, none⟩) rfl _)
      have HFN := Lib.hid ((Firm.of_owns (f := f) ho0 ho1 hzB).later (hks.sub (fun q _ hq => .inl hq)))
      have hzle : z ≤ wr.heap.size := by omega
      have HON := Lib.hid (show OwnsMem (((w1.setCell ⟨z, 0, none⟩ (.slice pw (fill ws x 0 (i + 1)).length cw)).setCell ⟨z, 1, none⟩ (.slice pl (fill ls x true (i + 1)).length cl)).setCell ⟨z, 2, none⟩ (.bool f)) z (.agg #[.slice pw (fill ws x 0 (i + 1)).length cw, .slice pl (fill ls x true (i + 1)).length cl, .bool f]) (fill ws x 0 (i + 1)) (fill ls x true (i + 1)) f from
        ⟨_, _, rfl, (hks.row ho0 (fun g hg e => hbx.row ho0 (by decide) hg (show g = z from e).symm)).mono hzle, (hks.row ho1 (fun g hg e => hbx.row ho1 (by decide) hg (show g = z from e).symm)).mono hzle⟩)
      have HBN := Lib.hid (hbx.set (.slice pw (fill ws x 0 (i + 1)).length cw) (.slice pl (fill ls x true (i + 1)).length cl) f)
      have HKN := Lib.hid ((HK.out.trans (Keeps.of_below hb)).trans hks)
      clear ho0 ho1 hb hbx hzB hks HBX HFI HK hsum hsum2 hzle HO
      go_wp2
      go_roundw
      case rel => exact ⟨i + 1, _, _, _, _, _, _, by omega, by go_num, HBN.out, HFN.out, HKN.out, .inr HON.out⟩
      case measure => simp [intOf]; omega
    · obtain rfl : i = k := by omega
      obtain ⟨⟨hr0, hr1, hr2⟩, hs0, hs1, hs2⟩ := mbox_cells (HRB.out.keeps HK.out (by simp))
      have hks : Keeps (fun q => q = z + 1) wr (((wr.setCell ⟨z + 1, 0, none⟩ (.slice pa na ca)).setCell ⟨z + 1, 1, none⟩ (.slice pb nb cb)).setCell ⟨z + 1, 2, none⟩ (.bool f)) :=
        ((Keeps.setCell wr (S := fun q => q = z + 1) (p := ⟨z + 1, 0, none⟩) rfl _).trans (Keeps.setCell _ (S := fun q => q = z + 1) (p := ⟨z + 1, 1, none⟩) rfl _)).trans (Keeps.setCell _ (S := fun q => q = z + 1) (p := ⟨z + 1, 2, none⟩) rfl _)
      have hrb := HRB.out.keeps HK.out (by simp)
      obtain ⟨vw, vl, e, h0, h1⟩ := HO.out.resolve_left (by omega)
      injection e with e
      injection e with e
      injection e with e0 e
      injection e with e1 _
      subst e0
      subst e1
      have hRD := (show OwnsMem (((wr.setCell ⟨z + 1, 0, none⟩ (.slice pa na ca)).setCell ⟨z + 1, 1, none⟩ (.slice pb nb cb)).setCell ⟨z + 1, 2, none⟩ (.bool f)) z (.agg #[.slice pa na ca, .slice pb nb cb, .bool f]) (fill ws x 0 i) (fill ls x true i) f from
        ⟨_, _, rfl, hks.row h0 (fun g hg e => hrb.row h0 (by decide) hg (show g = z + 1 from e).symm), hks.row h1 (fun g hg e => hrb.row h1 (by decide) hg (show g = z + 1 from e).symm)⟩)
      have HRD := Lib.hid (hRD.mono (Nat.le_of_eq HZ.out.symm))
      clear hRD
      have hzW := HZ.out
      have HBE := Lib.hid ((HB.out.trans (HK.out.below HB.out.size (fun q hq => by subst hq; omega))).trans (hks.below (Nat.le_trans HB.out.size HK.out.size) (fun q hq => by subst hq; omega)))
      clear hks HFI HBX HK hzW hrb h0 h1 HO
      go_wp2
      exact bodyPost_ret (v := .agg #[.slice pa na ca, .slice pb nb cb, .bool f]) (by simp [results, Try.results15, go_sem, hr0, hr1, hr2]) rfl ⟨⟨_, rfl, HRD.out⟩, HBE.out⟩

set_option maxRecDepth 100000 in
set_option maxHeartbeats 4000000 in
theorem refFree_c (v : Value) (ws : List Int) (ls : List Bool) (f : Bool) (x k : Nat) (W : World) (hv : MemAt W v ws ls f) (hlen : ls.length = ws.length) (hn : ws.length ≤ 4096) (hk1 : 1 ≤ k) (hxk : x + k ≤ ws.length) :
    Calls Try.prog 16 #[v, .int .i64 (x : Int), .int .i64 (k : Int)] W fun e w' => GivesMem W.heap.size (fill ws x 18369900232523579118 k) (fill ls x false k) f e w' ∧ Below W.heap.size W w' := by
  have hm := hv
  obtain ⟨vw0, vl0, rfl, ⟨p0, c0, rfl, -⟩, q0, d0, rfl, -⟩ := hv
  obtain ⟨z, hz⟩ : ∃ z, z = W.heap.size := ⟨_, rfl⟩
  obtain ⟨wo, hwo⟩ : ∃ wo : World, wo = (W.alloc (.cells #[.slice p0 ws.length c0, .slice q0 ls.length d0, .bool f] 25)).alloc (.cells #[.slice none 0 0, .slice none 0 0, .bool false] 25) := ⟨_, rfl⟩
  have hB : Below W.heap.size W wo := by rw [hwo]; exact ((Below.refl _ _).alloc (Nat.le_refl _) _).alloc (by simp) _
  have HB := Lib.hid hB
  have HMB := Lib.hid (show MBox wo z (.slice p0 ws.length c0) (.slice q0 ls.length d0) f by rw [hwo, hz]; exact (MBox.new _ _ _ _).alloc _)
  have HRB := Lib.hid (show MBox wo (z + 1) (.slice none 0 0) (.slice none 0 0) false by
    have := MBox.new (W.alloc (.cells #[.slice p0 ws.length c0, .slice q0 ls.length d0, .bool f] 25)) (.slice none 0 0) (.slice none 0 0) false
    rw [World.size_alloc] at this
    rw [hwo, hz]; exact this)
  have HF := Lib.hid (show Firm z wo (.agg #[.slice p0 ws.length c0, .slice q0 ls.length d0, .bool f]) ws ls f by rw [hz]; exact Firm.of_old hm hB)
  have HZ := Lib.hid hz
  have HLEN := Lib.hid hlen
  clear hm hB hlen
  go_enter Try.func16, Try.ntmps16
  go_wp2
  rw [← hwo]
  clear hwo
  rw [← hz]
  clear hz
  go_loopw [9] (fun iv wr => ∃ (i : Nat) (pa : Option Addr) (na ca : Nat) (pb : Option Addr) (nb cb : Nat), i ≤ k ∧ iv = .int .i64 i ∧ MBox wr z (.slice pa na ca) (.slice pb nb cb) f ∧ Firm z wr (.agg #[.slice pa na ca, .slice pb nb cb, .bool f]) (fill ws x 18369900232523579118 i) (fill ls x false i) f ∧ Keeps (fun q => q = z) wo wr ∧ (i = 0 ∨ OwnsMem wr z (.agg #[.slice pa na ca, .slice pb nb cb, .bool f]) (fill ws x 18369900232523579118 i) (fill ls x false i) f)) (fun iv _ => k - (intOf iv).toNat)
  case atStart => exact ⟨0, _, _, _, _, _, _, Nat.zero_le _, rfl, HMB.out, HF.out, Keeps.refl _ _, .inl rfl⟩
  case round =>
    obtain ⟨i, pa, na, ca, pb, nb, cb, hi, rfl, hbox, hfirm, hkeep, hown⟩ := hrel
    have HO := Lib.hid hown
    clear hown
    have HBX := Lib.hid hbox
    have HFI := Lib.hid hfirm
    have HK := Lib.hid hkeep
    clear hbox hfirm hkeep HF HMB
    obtain ⟨⟨hm0, hm1, hm2⟩, _⟩ := mbox_cells HBX.out
    by_cases hlt : i < k
    · obtain ⟨y, hy⟩ : ∃ y, y = x + i := ⟨_, rfl⟩
      have hsum : (x : Int) + (i : Int) = (y : Int) := by omega
      have hsum2 : IntKind.i64.wrap ((x : Int) + (i : Int)) = (y : Int) := by rw [hsum]; simp [IntKind.wrap, IntKind.signed, IntKind.bits]; omega
      have HY := Lib.hid hy
      clear hy
      go_wp2_with fail
      clear hm0 hm1 hm2
      refine (with_c _ _ _ f y 18369900232523579118 false wr HFI.out.now (by rw [fill_length, fill_length]; exact HLEN.out) (by rw [fill_length]; exact hn)).mono ?_
      rintro e w1 ⟨⟨v1, rfl, vw1, vl1, rfl, ho0, ho1⟩, hb⟩
      obtain ⟨pw, cw, rfl⟩ := owns_slice ho0
      obtain ⟨pl, cl, rfl⟩ := owns_slice ho1
      rw [show (fill ws x 18369900232523579118 i).set y 18369900232523579118 = fill ws x 18369900232523579118 (i + 1) by rw [HY.out]; rfl] at ho0 ⊢
      rw [show (fill ls x false i).set y false = fill ls x false (i + 1) by rw [HY.out]; rfl] at ho1 ⊢
      have hbx := HBX.out.below hb
      obtain ⟨⟨hm0, hm1, hm2⟩, hf0, hf1, hf2⟩ := mbox_cells hbx
      have hzB : z + 1 < wr.heap.size := by have h1 := (HRB.out.keeps HK.out (by simp)).lt; exact h1
      have hks : Keeps (fun q => q = z) w1 (((w1.setCell ⟨z, 0, none⟩ (.slice pw (fill ws x 18369900232523579118 (i + 1)).length cw)).setCell ⟨z, 1, none⟩ (.slice pl (fill ls x false (i + 1)).length cl)).setCell ⟨z, 2, none⟩ (.bool f)) :=
        ((Keeps.setCell w1 (S := fun q => q = z) (p := ⟨z, 0, none⟩) rfl _).trans (Keeps.setCell _ (S := fun q => q = z) (p := ⟨z, 1, none⟩) rfl _)).trans (Keeps.setCell _ (S := fun q => q = z) (p := ⟨z, 2, none⟩) rfl _)
      have HFN := Lib.hid ((Firm.of_owns (f := f) ho0 ho1 hzB).later (hks.sub (fun q _ hq => .inl hq)))
      have hzle : z ≤ wr.heap.size := by omega
      have HON := Lib.hid (show OwnsMem (((w1.setCell ⟨z, 0, none⟩ (.slice pw (fill ws x 18369900232523579118 (i + 1)).length cw)).setCell ⟨z, 1, none⟩ (.slice pl (fill ls x false (i + 1)).length cl)).setCell ⟨z, 2, none⟩ (.bool f)) z (.agg #[.slice pw (fill ws x 18369900232523579118 (i + 1)).length cw, .slice pl (fill ls x false (i + 1)).length cl, .bool f]) (fill ws x 18369900232523579118 (i + 1)) (fill ls x false (i + 1)) f from
        ⟨_, _, rfl, (hks.row ho0 (fun g hg e => hbx.row ho0 (by decide) hg (show g = z from e).symm)).mono hzle, (hks.row ho1 (fun g hg e => hbx.row ho1 (by decide) hg (show g = z from e).symm)).mono hzle⟩)
      have HBN := Lib.hid (hbx.set (.slice pw (fill ws x 18369900232523579118 (i + 1)).length cw) (.slice pl (fill ls x false (i + 1)).length cl) f)
      have HKN := Lib.hid ((HK.out.trans (Keeps.of_below hb)).trans hks)
      clear ho0 ho1 hb hbx hzB hks HBX HFI HK hsum hsum2 hzle HO
      go_wp2
      go_roundw
      case rel => exact ⟨i + 1, _, _, _, _, _, _, by omega, by go_num, HBN.out, HFN.out, HKN.out, .inr HON.out⟩
      case measure => simp [intOf]; omega
    · obtain rfl : i = k := by omega
      obtain ⟨⟨hr0, hr1, hr2⟩, hs0, hs1, hs2⟩ := mbox_cells (HRB.out.keeps HK.out (by simp))
      have hks : Keeps (fun q => q = z + 1) wr (((wr.setCell ⟨z + 1, 0, none⟩ (.slice pa na ca)).setCell ⟨z + 1, 1, none⟩ (.slice pb nb cb)).setCell ⟨z + 1, 2, none⟩ (.bool f)) :=
        ((Keeps.setCell wr (S := fun q => q = z + 1) (p := ⟨z + 1, 0, none⟩) rfl _).trans (Keeps.setCell _ (S := fun q => q = z + 1) (p := ⟨z + 1, 1, none⟩) rfl _)).trans (Keeps.setCell _ (S := fun q => q = z + 1) (p := ⟨z + 1, 2, none⟩) rfl _)
      have hrb := HRB.out.keeps HK.out (by simp)
      obtain ⟨vw, vl, e, h0, h1⟩ := HO.out.resolve_left (by omega)
      injection e with e
      injection e with e
      injection e with e0 e
      injection e with e1 _
      subst e0
      subst e1
      have hRD := (show OwnsMem (((wr.setCell ⟨z + 1, 0, none⟩ (.slice pa na ca)).setCell ⟨z + 1, 1, none⟩ (.slice pb nb cb)).setCell ⟨z + 1, 2, none⟩ (.bool f)) z (.agg #[.slice pa na ca, .slice pb nb cb, .bool f]) (fill ws x 18369900232523579118 i) (fill ls x false i) f from
        ⟨_, _, rfl, hks.row h0 (fun g hg e => hrb.row h0 (by decide) hg (show g = z + 1 from e).symm), hks.row h1 (fun g hg e => hrb.row h1 (by decide) hg (show g = z + 1 from e).symm)⟩)
      have HRD := Lib.hid (hRD.mono (Nat.le_of_eq HZ.out.symm))
      clear hRD
      have hzW := HZ.out
      have HBE := Lib.hid ((HB.out.trans (HK.out.below HB.out.size (fun q hq => by subst hq; omega))).trans (hks.below (Nat.le_trans HB.out.size HK.out.size) (fun q hq => by subst hq; omega)))
      clear hks HFI HBX HK hzW hrb h0 h1 HO
      go_wp2
      exact bodyPost_ret (v := .agg #[.slice pa na ca, .slice pb nb cb, .bool f]) (by simp [results, Try.results16, go_sem, hr0, hr1, hr2]) rfl ⟨⟨_, rfl, HRD.out⟩, HBE.out⟩

end Go.Proofs.Ytgpbhdoidhhhhaa
