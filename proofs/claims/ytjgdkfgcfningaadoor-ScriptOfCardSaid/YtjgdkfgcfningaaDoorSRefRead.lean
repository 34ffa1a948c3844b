/-
  Read, of the document's answers of layer 3: the script that words say; what was in memory stays.
  Conditions: the words lie so; at most 2 to the power 40 of them.
-/
import Derived.Test.YtjgdkfgcfningaaDoorSRefRead0
import Derived.Maps.AppendAt
import Derived.IntWalk
import Derived.Deep.CutBlock
import Derived.Deep.DeepCutAuto
namespace Go.Proofs.YtjgdkfgcfningaaDoor
open Go.RowKit Go.Shelf
attribute [local go_sem] Oper.semAt_some

theorem SBlk.free {w : World} {y : Nat} {c g : Int} {p : Option Addr} {n cp : Nat} {q : Option Addr} {m d : Nat} (h : SBlk w y c g p n cp q m d) (i : Nat) : w.frozen? ⟨y, i, none⟩ = false := by
  have h' : w.heap[y]? = _ := h
  simp [World.frozen?, h']
theorem SBlk.set0 {w : World} {y : Nat} {c g : Int} {p : Option Addr} {n cp : Nat} {q : Option Addr} {m d : Nat} (h : SBlk w y c g p n cp q m d) (x : Int) : SBlk (w.setCell ⟨y, 0, none⟩ (.int .i64 x)) y x g p n cp q m d := by
  unfold SBlk; rw [heap_setCell_same w y 0 _ _ _ h]; rfl
theorem SBlk.set1 {w : World} {y : Nat} {c g : Int} {p : Option Addr} {n cp : Nat} {q : Option Addr} {m d : Nat} (h : SBlk w y c g p n cp q m d) (x : Int) : SBlk (w.setCell ⟨y, 1, none⟩ (.int .i64 x)) y c x p n cp q m d := by
  unfold SBlk; rw [heap_setCell_same w y 1 _ _ _ h]; rfl
theorem SBlk.set2 {w : World} {y : Nat} {c g : Int} {p : Option Addr} {n cp : Nat} {q : Option Addr} {m d : Nat} (h : SBlk w y c g p n cp q m d) (p' : Option Addr) (n' c' : Nat) : SBlk (w.setCell ⟨y, 2, none⟩ (.slice p' n' c')) y c g p' n' c' q m d := by
  unfold SBlk; rw [heap_setCell_same w y 2 _ _ _ h]; rfl
theorem SBlk.set3 {w : World} {y : Nat} {c g : Int} {p : Option Addr} {n cp : Nat} {q : Option Addr} {m d : Nat} (h : SBlk w y c g p n cp q m d) (p' : Option Addr) (n' c' : Nat) : SBlk (w.setCell ⟨y, 3, none⟩ (.slice p' n' c')) y c g p n cp p' n' c' := by
  unfold SBlk; rw [heap_setCell_same w y 3 _ _ _ h]; rfl
theorem SBlk.keeps {S : Nat → Prop} {w w' : World} {y : Nat} {c g : Int} {p : Option Addr} {n cp : Nat} {q : Option Addr} {m d : Nat} (h : SBlk w y c g p n cp q m d) (hk : Keeps S w w') (hy : ¬ S y) : SBlk w' y c g p n cp q m d := (hk.block y h.lt hy).trans h
theorem drop_read {x i : Nat} {ws : List Nat} (hi : i < ws.length) (hx : x = ws[i]) : ws.drop i = x :: ws.drop (i + 1) := by rw [List.drop_eq_getElem_cons hi, hx]

set_option maxRecDepth 100000 in
set_option maxHeartbeats 8000000 in
theorem refRead_c (p : Option Addr) (n d : Nat) (ws : List Nat) (W : World) (h : WAt W p n d ws) (hn : n ≤ 1099511627776) :
    Calls Tryd.prog 22 #[.slice p n d] W fun e w' => (∃ v, e = .returned v ∧ Built W.heap.size (readL ws) v w') ∧ Below W.heap.size W w' := by
  obtain ⟨f, hf⟩ : ∃ f, f = ws.headD 0 := ⟨_, rfl⟩
  obtain ⟨hc1, hc8⟩ := cpusN_le f
  obtain ⟨c, hc⟩ : ∃ c, c = cpusN f := ⟨_, rfl⟩
  obtain ⟨g, hg⟩ : ∃ g, g = pagesN f := ⟨_, rfl⟩
  rw [← hc] at hc1 hc8
  have hfb : f < 18446744073709551616 := by
    rw [hf]
    cases ws with
    | nil => simp
    | cons x r => exact h.big x (by simp)
  obtain ⟨s0, hs0⟩ : ∃ s, s = W.heap.size := ⟨_, rfl⟩
  obtain ⟨y, hy⟩ : ∃ y, y = s0 + 1 := ⟨_, rfl⟩
  obtain ⟨B, hB⟩ : ∃ B, B = y + 1 := ⟨_, rfl⟩
  obtain ⟨w0, hw0⟩ : ∃ w : World, w = (W.alloc (.cells #[.int .i64 0, .int .i64 0, .slice none 0 0, .slice none 0 0] 25)).alloc (.cells #[.int .i64 1, .int .i64 1, .slice none 0 0, .slice none 0 0] 25) := ⟨_, rfl⟩
  have hbW : Below W.heap.size W w0 := by rw [hw0]; exact ((Below.refl _ _).alloc (Nat.le_refl _) _).alloc (by simp) _
  have hsz : w0.heap.size = B := by rw [hw0, hB, hy, hs0]; simp
  have hS0 : SBlk w0 y 1 1 none 0 0 none 0 0 := by
    have := SBlk.new (W.alloc (.cells #[.int .i64 0, .int .i64 0, .slice none 0 0, .slice none 0 0] 25)) 1 1 none 0 0 none 0 0
    rw [World.size_alloc, ← hs0, ← hy] at this
    rw [hw0]; exact this
  have hR0 : SBlk w0 s0 0 0 none 0 0 none 0 0 := by
    rw [hw0, hs0]; exact (SBlk.new W 0 0 none 0 0 none 0 0).below ((Below.refl _ _).alloc (Nat.le_refl _) _)
  have HWD := Lib.hid (show ∀ i, i < ws.length → ∃ b off, p = some ⟨b, off, none⟩ ∧ b < s0 ∧ ∀ j (hj : j < ws.length), w0.cell? ⟨b, off + j, none⟩ = some (.int .u64 (ws[j] : Int)) from fun i hi => by
    have hl := h.left
    have hlen := hl.len
    obtain ⟨b, off, rfl, hcs⟩ := hl.at (by omega)
    exact ⟨b, off, rfl, by rw [hs0]; exact World.block_lt_of_cell? W _ (hcs i hi), fun j hj => below_cell hbW (hcs j hj)⟩)
  have HBIG := Lib.hid h.big
  have HLEN := Lib.hid h.len
  have HRES := Lib.hid (show readL ws = ⟨(c : Int), (g : Int), (rd c ws.tail (List.replicate c [], [])).1, (rd c ws.tail (List.replicate c [], [])).2⟩ by rw [hc, hg, hf]; rfl)
  obtain ⟨c0, hc0⟩ : ∃ x, x = getN f 0 3 := ⟨_, rfl⟩
  obtain ⟨g0, hg0⟩ : ∃ x, x = getN f 8 6 := ⟨_, rfl⟩
  have hcc : c = c0 + 1 := by rw [hc, hc0]; rfl
  have hgg : g = g0 + 1 := by rw [hg, hg0]; rfl
  have hg8 : g0 ≤ 63 := by have := getN_lt f 8 6; omega
  have HC0 := Lib.hid (show ∀ W', Calls Tryd.prog 39 #[.int .u64 (f : Int), .int .i64 0, .int .i64 3] W' fun e w' => e = .returned (.int .i64 (c0 : Nat)) ∧ w' = W' from fun W' => by rw [hc0]; exact rbits_c f 0 3 hfb (by omega) (by omega) W')
  have HG0 := Lib.hid (show ∀ W', Calls Tryd.prog 39 #[.int .u64 (f : Int), .int .i64 8, .int .i64 6] W' fun e w' => e = .returned (.int .i64 (g0 : Nat)) ∧ w' = W' from fun W' => by rw [hg0]; exact rbits_c f 8 6 hfb (by omega) (by omega) W')
  have HZ := Lib.hid (show ws = [] → c = 1 ∧ g = 1 from fun e => by
    have : f = 0 := by rw [hf, e]; rfl
    subst this
    exact ⟨by rw [hc]; rfl, by rw [hg]; rfl⟩)
  have HFX := Lib.hid (show ∀ (hl : 0 < ws.length), ws[0] = f from fun hl => by
    rw [hf]
    cases ws with
    | nil => cases hl
    | cons x r => rfl)
  have HE := Lib.hid (And.intro hw0 (And.intro hs0 hy))
  have HSZ := Lib.hid (And.intro hsz hB)
  have HBW := Lib.hid hbW
  have HS0 := Lib.hid hS0
  have HR0 := Lib.hid hR0
  have HCG := Lib.hid (And.intro hcc hgg)
  obtain ⟨i0, hi, hz0, hz1, hz2⟩ := info_parts rows_info
  have HI0 := Lib.hid (And.intro hi (And.intro hz0 (And.intro hz1 hz2)))
  obtain ⟨iC, zC, hC0, hC1, hC2, hC3, hC4⟩ := call_info
  have HIC := Lib.hid (And.intro hC0 (And.intro hC1 (And.intro hC2 (And.intro hC3 hC4))))
  obtain ⟨iI, hi1, hz10, hz11, hz12⟩ := info_parts int_info
  have HII := Lib.hid (And.intro hi1 (And.intro hz10 (And.intro hz11 hz12)))
  have hyB : y < B := by omega
  have hsy : s0 < y := by omega
  have hg64 : g ≤ 64 := by omega
  clear hf hc hg hs0 hy hB hw0 hbW hsz hS0 hR0 h hc0 hg0 hcc hgg hi hz0 hz1 hz2 hC0 hC1 hC2 hC3 hC4 hi1 hz10 hz11 hz12 hfb
  obtain ⟨h00, h01, h02, h03⟩ := HS0.out.cells
  go_enter Tryd.func22, Tryd.ntmps22
  go_upto_region 2 with (fail)
  rw [← HE.out.1, ← HE.out.2.1, ← HE.out.2.2]
  go_upto_if 10 with (fail)
  go_cut [] (fun wc => Hid (SBlk wc y c g none 0 0 none 0 0) ∧ Below y w0 wc)
  case first =>
    by_cases hn0 : 0 < n
    · have hl0 : 0 < ws.length := by have := HLEN.out; omega
      obtain ⟨b, off, rfl, hbl, hcs⟩ := HWD.out 0 hl0
      have hx0 := hcs 0 hl0
      rw [HFX.out hl0, Nat.add_zero] at hx0
      have hcc : ((c0 : Int) + 1) = (c : Int) := by have := HCG.out.1; omega
      have hgg : ((g0 : Int) + 1) = (g : Int) := by have := HCG.out.2; omega
      have HCCG := Lib.hid (show IntKind.i64.wrap ((c0 : Int) + 1) = (c : Int) ∧ IntKind.i64.wrap ((g0 : Int) + 1) = (g : Int) from ⟨by rw [← hcc]; exact IntWalk.i64_in _ (by omega), by rw [← hgg]; exact IntWalk.i64_in _ (by omega)⟩)
      clear hcs hcc hgg
      go_upto_region 3 with (fail)
      refine wpTwo_begin (T := fun w' => w'.cell? ⟨b, off, none⟩ = some (.int .u64 (f : Int))) (S := fun _ => True) (late := fun _ => false) (by kernel_rfl) ?_
      have hT : w0.drew.cell? ⟨b, off, none⟩ = some (.int .u64 (f : Int)) := hx0
      obtain ⟨X0, hX0⟩ : ∃ X : World, X = w0.drew := ⟨_, rfl⟩
      rw [← hX0] at hT ⊢
      have hbX : Below y w0 X0 := by rw [hX0]; exact (Below.refl _ _).drew
      have hS0 : SBlk X0 y 1 1 none 0 0 none 0 0 := by rw [hX0]; exact HS0.out
      clear hX0 hx0 h00 h01 h02 h03
      refine wpTwo_takeT (i := 0) (v := .slice (some ⟨b, off, none⟩) n d) rfl (by kernel_rfl) (by kernel_rfl) (by kernel_rfl) (fun _ _ _ h => h) ⟨by rfl, ?_⟩ hT ?_
      · intro w hTw
        go_simp
      (try simp only [Act.put, List.getElem_toArray, List.getElem_cons_zero, List.setIfInBounds_toArray, List.set_cons_succ, List.set_cons_zero])
      refine wpTwo_takeT (i := 1) (v := .pointer (some ⟨b, off, none⟩)) rfl (by kernel_rfl) (by kernel_rfl) (by kernel_rfl) (fun _ _ _ h => h) ⟨by rfl, ?_⟩ hT ?_
      · intro w hTw
        go_simp
      (try simp only [Act.put, List.getElem_toArray, List.getElem_cons_succ, List.getElem_cons_zero, List.setIfInBounds_toArray, List.set_cons_succ, List.set_cons_zero])
      refine wpTwo_takeT (i := 2) (v := .int .u64 (f : Int)) rfl (by kernel_rfl) (by kernel_rfl) (by kernel_rfl) (fun _ _ _ h => h) ⟨by rfl, ?_⟩ hT ?_
      · intro w hTw
        go_simp
      (try simp only [Act.put, List.getElem_toArray, List.getElem_cons_succ, List.getElem_cons_zero, List.setIfInBounds_toArray, List.set_cons_succ, List.set_cons_zero])
      refine wpTwo_takeT (i := 5) (v := .slice (some ⟨b, off, none⟩) n d) rfl (by kernel_rfl) (by kernel_rfl) (by kernel_rfl) (fun _ _ _ h => h) ⟨by rfl, ?_⟩ hT ?_
      · intro w hTw
        go_simp
      (try simp only [Act.put, List.getElem_toArray, List.getElem_cons_succ, List.getElem_cons_zero, List.setIfInBounds_toArray, List.set_cons_succ, List.set_cons_zero])
      refine wpTwo_takeT (i := 6) (v := .pointer (some ⟨b, off, none⟩)) rfl (by kernel_rfl) (by kernel_rfl) (by kernel_rfl) (fun _ _ _ h => h) ⟨by rfl, ?_⟩ hT ?_
      · intro w hTw
        go_simp
      (try simp only [Act.put, List.getElem_toArray, List.getElem_cons_succ, List.getElem_cons_zero, List.setIfInBounds_toArray, List.set_cons_succ, List.set_cons_zero])
      refine wpTwo_takeT (i := 7) (v := .int .u64 (f : Int)) rfl (by kernel_rfl) (by kernel_rfl) (by kernel_rfl) (fun _ _ _ h => h) ⟨by rfl, ?_⟩ hT ?_
      · intro w hTw
        go_simp
      (try simp only [Act.put, List.getElem_toArray, List.getElem_cons_succ, List.getElem_cons_zero, List.setIfInBounds_toArray, List.set_cons_succ, List.set_cons_zero])
      refine wpTwo_ready (rs := [3]) (by kernel_rfl) (by simp) ?_
      refine (AllTwo.cons rfl (fun K hK => ?_) AllTwo.nil)
      go_simp
      refine (HC0.out _).mono ?_
      rintro e X1 ⟨rfl, rfl⟩
      go_wp2_with fail
      refine hK.out _ _ ⟨hT, fun _ _ => trivial⟩ ?_
      clear hK K
      (try simp only [Act.put, List.getElem_toArray, List.getElem_cons_succ, List.getElem_cons_zero, List.setIfInBounds_toArray, List.set_cons_succ, List.set_cons_zero])
      refine wpTwo_takeT (i := 4) (v := .int .i64 (c : Int)) rfl (by kernel_rfl) (by kernel_rfl) (by kernel_rfl) (fun _ _ _ h => h) ⟨by rfl, ?_⟩ hT ?_
      · intro w hTw
        go_simp
        exact HCCG.out.1
      (try simp only [Act.put, List.getElem_toArray, List.getElem_cons_succ, List.getElem_cons_zero, List.setIfInBounds_toArray, List.set_cons_succ, List.set_cons_zero])
      refine wpTwo_takeT (i := 10) (v := .pointer (some ⟨y, 0, none⟩)) rfl (by kernel_rfl) (by kernel_rfl) (by kernel_rfl) (fun _ _ _ h => h) ⟨by rfl, ?_⟩ hT ?_
      · intro w hTw
        go_simp
      (try simp only [Act.put, List.getElem_toArray, List.getElem_cons_succ, List.getElem_cons_zero, List.setIfInBounds_toArray, List.set_cons_succ, List.set_cons_zero])
      refine wpTwo_ready (rs := [8]) (by kernel_rfl) (by simp) ?_
      refine (AllTwo.cons rfl (fun K hK => ?_) AllTwo.nil)
      go_simp
      refine (HG0.out _).mono ?_
      rintro e X1 ⟨rfl, rfl⟩
      go_wp2_with fail
      refine hK.out _ _ ⟨hT, fun _ _ => trivial⟩ ?_
      clear hK K
      (try simp only [Act.put, List.getElem_toArray, List.getElem_cons_succ, List.getElem_cons_zero, List.setIfInBounds_toArray, List.set_cons_succ, List.set_cons_zero])
      refine wpTwo_takeT (i := 9) (v := .int .i64 (g : Int)) rfl (by kernel_rfl) (by kernel_rfl) (by kernel_rfl) (fun _ _ _ h => h) ⟨by rfl, ?_⟩ hT ?_
      · intro w hTw
        go_simp
        exact HCCG.out.2
      (try simp only [Act.put, List.getElem_toArray, List.getElem_cons_succ, List.getElem_cons_zero, List.setIfInBounds_toArray, List.set_cons_succ, List.set_cons_zero])
      refine wpTwo_ready (rs := [11]) (by kernel_rfl) (by simp) ?_
      refine (AllTwo.cons rfl (fun K hK => ?_) AllTwo.nil)
      obtain ⟨⟨hs0, hs1, hs2, hs3⟩, hsf⟩ := And.intro hS0.cells hS0.free
      have hsf0 := hsf 0
      obtain ⟨X2, hX2⟩ : ∃ X : World, X = X1.setCell ⟨y, 0, none⟩ (.int .i64 (c : Int)) := ⟨_, rfl⟩
      have hS1 : SBlk X2 y (c : Int) 1 none 0 0 none 0 0 := by rw [hX2]; exact hS0.set0 _
      have hT1 : X2.cell? ⟨b, off, none⟩ = some (.int .u64 (f : Int)) := by rw [hX2]; exact (Keeps.setCell X1 (S := fun q => q = y) (p := ⟨y, 0, none⟩) rfl _).cell hT (by show ¬ b = y; omega)
      have hb1 : Below y X1 X2 := by rw [hX2]; exact (Below.refl y X1).setCell (p := ⟨y, 0, none⟩) (Nat.le_refl _) _
      go_simp
      rw [← hX2]
      refine hK.out _ _ ⟨hT1, fun _ _ => trivial⟩ ?_
      clear hK K hs0 hs1 hs2 hs3 hsf hsf0 hX2
      (try simp only [Act.put, List.getElem_toArray, List.getElem_cons_succ, List.getElem_cons_zero, List.setIfInBounds_toArray, List.set_cons_succ, List.set_cons_zero])
      refine wpTwo_takeT (i := 12) (v := .pointer (some ⟨y, 1, none⟩)) rfl (by kernel_rfl) (by kernel_rfl) (by kernel_rfl) (fun _ _ _ h => h) ⟨by rfl, ?_⟩ hT1 ?_
      · intro w hTw
        go_simp
      (try simp only [Act.put, List.getElem_toArray, List.getElem_cons_succ, List.getElem_cons_zero, List.setIfInBounds_toArray, List.set_cons_succ, List.set_cons_zero])
      refine wpTwo_ready (rs := [13]) (by kernel_rfl) (by simp) ?_
      refine (AllTwo.cons rfl (fun K hK => ?_) AllTwo.nil)
      obtain ⟨⟨hs0, hs1, hs2, hs3⟩, hsf⟩ := And.intro hS1.cells hS1.free
      have hsf1 := hsf 1
      obtain ⟨X3, hX3⟩ : ∃ X : World, X = X2.setCell ⟨y, 1, none⟩ (.int .i64 (g : Int)) := ⟨_, rfl⟩
      have hS2 : SBlk X3 y (c : Int) (g : Int) none 0 0 none 0 0 := by rw [hX3]; exact hS1.set1 _
      have hT2 : X3.cell? ⟨b, off, none⟩ = some (.int .u64 (f : Int)) := by rw [hX3]; exact (Keeps.setCell X2 (S := fun q => q = y) (p := ⟨y, 1, none⟩) rfl _).cell hT1 (by show ¬ b = y; omega)
      have hb2 : Below y X2 X3 := by rw [hX3]; exact (Below.refl y X2).setCell (p := ⟨y, 1, none⟩) (Nat.le_refl _) _
      go_simp
      rw [← hX3]
      refine hK.out _ _ ⟨hT2, fun _ _ => trivial⟩ ?_
      clear hK K hs0 hs1 hs2 hs3 hsf hsf1 hX3
      (try simp only [Act.put, List.getElem_toArray, List.getElem_cons_succ, List.getElem_cons_zero, List.setIfInBounds_toArray, List.set_cons_succ, List.set_cons_zero])
      refine wpTwo_end (by kernel_rfl) ?_ _
      go_wp2
      go_meet
      exact ⟨Lib.hid hS2, (hbX.trans hb1).trans hb2⟩
    · obtain rfl : n = 0 := by omega
      have hz := HZ.out (List.eq_nil_of_length_eq_zero HLEN.out.symm)
      have HF := Lib.hid (show SBlk w0 y c g none 0 0 none 0 0 by rw [hz.1, hz.2]; exact HS0.out)
      clear hz
      go_wp2
      go_meet
      exact ⟨HF, Below.refl _ _⟩
  case rest =>
  clear h00 h01 h02 h03 HS0 HC0 HG0 HZ HFX HCG
  have HSC := hcut.1
  have hbc := hcut.2
  have HBC := Lib.hid hbc
  have hszc : B ≤ wc.heap.size := by rw [← HSZ.out.1]; exact hbc.size
  clear hcut hbc
  obtain ⟨h00, h01, h02, h03⟩ := HSC.out.cells
  go_wp2_with fail
  go_loopw [25] (fun kv wr => ∃ (k : Nat) (p : Option Addr) (cap : Nat), k ≤ c ∧ kv = .int .i64 k ∧ Hid (SBlk wr y c g p k cap none 0 0) ∧ Hid (wr.ownsRow B 47 1 (.slice p k cap) k (List.replicate k (Value.slice none 0 0))) ∧ Hid (Below y w0 wr ∧ B ≤ wr.heap.size)) (fun kv _ => c - (intOf kv).toNat)
  case atStart => exact ⟨0, none, 0, Nat.zero_le _, rfl, HSC, Lib.hid (World.ownsRow_nil _ _ _ _), Lib.hid ⟨HBC.out, hszc⟩⟩
  case round =>
    clear h00 h01 h02 h03 HSC HBC hszc
    obtain ⟨k, p1, cap1, hk, rfl, HX, HO, HB1⟩ := hrel
    by_cases hkc : k < c
    · obtain ⟨h00, h01, h02, h03⟩ := HX.out.cells
      have hszr := HB1.out.2
      --BEGIN l1
      go_wp2_with (at_builtin; refine wpList_append_own _ rfl _ _ 22 rfl B 47 i0 (.slice none 0 0) 1 24 Tryd.underlying22 HI0.out.1 HI0.out.2.1 HI0.out.2.2.1 HI0.out.2.2.2 rfl (by decide) _ _ _ rfl (HO.out.alloc _) ⟨wr.heap.size, 0, none⟩ 1 1 [.slice none 0 0] rfl rfl (World.news_of_block (World.alloc_heap_new _ _)) (by intro u hu; rw [List.mem_singleton.1 hu]; rfl) (by unfold maxLen; omega) (by omega) (by simp; omega) ?_; intro v' w1 hown' hgrow _; obtain ⟨q6, d6, rfl⟩ := owns_slice hown'; have hx1 := ((HX.out.below ((Below.refl _ _).alloc (Nat.le_refl _) _)).keeps (keeps_grown hgrow) (fun e => by have := (HO.out.lt y e.symm).1; omega)); obtain ⟨g0, g1, g2, g3⟩ := hx1.cells; have gf := hx1.free 2; have XX := Lib.hid (And.intro hown' (And.intro hgrow hx1)); clear hown' hgrow hx1)
      have hs2 := XX.out.2.2.set2 q6 (k + 1) d6
      have HX2 := Lib.hid hs2
      have HO2 := Lib.hid (show (w1.setCell ⟨y, 2, none⟩ (.slice q6 (k + 1) d6)).ownsRow B 47 1 (.slice q6 (k + 1) d6) (k + 1) (List.replicate (k + 1) (Value.slice none 0 0)) from by
        have h1 := ownsRow_setCell_below XX.out.1 (a := ⟨y, 2, none⟩) hyB (.slice q6 (k + 1) d6)
        rw [List.replicate_succ']; exact h1)
      have HB2 := Lib.hid (show Below y w0 (w1.setCell ⟨y, 2, none⟩ (.slice q6 (k + 1) d6)) ∧ B ≤ (w1.setCell ⟨y, 2, none⟩ (.slice q6 (k + 1) d6)).heap.size from by
        have h1 := XX.out.2.1
        have h2 := h1.size
        refine ⟨((HB1.out.1.alloc (by omega) _).grown h1 (by simp; omega) (fun r hr => by have := (HO.out.lt r hr).1; omega)).setCell (p := ⟨y, 2, none⟩) (Nat.le_refl _) _, ?_⟩
        simp only [World.size_setCell]
        rw [World.size_alloc] at h2; omega)
      clear XX hs2 g0 g1 g2 g3 gf h00 h01 h02 h03
      go_roundw
      case rel => exact ⟨k + 1, q6, d6, by omega, by go_num, HX2, HO2, HB2⟩
      case measure => simp [intOf]; omega
      --END l1
    · obtain rfl : k = c := by omega
      obtain ⟨z, cap, hzv⟩ : ∃ z cap, (Value.slice p1 k cap1) = .slice (some ⟨z, 0, none⟩) k cap := by
        obtain ⟨k', rfl⟩ : ∃ k', k = k' + 1 := ⟨k - 1, by omega⟩
        obtain ⟨z, cap, e⟩ := owns_some HO.out
        exact ⟨z, cap, e⟩
      injection hzv with hz1 _ _
      subst hz1
      have HRN := Lib.hid (RdR.new HO.out)
      have HT0 := Lib.hid (show 0 = tot (List.replicate k ([] : List CallM)) ∧ Inv k (List.replicate k [], []) ∧ rd k (ws.drop 1) (List.replicate k [], []) = rd k ws.tail (List.replicate k [], []) from ⟨(tot_replicate k).symm, inv_start k, by rw [List.drop_one]⟩)
      clear HO
      go_wp2
      go_loopw [4, 5] (fun cv iv wr => ∃ (i T : Nat) (st : RdS) (vs : List Value) (z cap : Nat) (q : Option Addr) (m d2 : Nat), iv = .int .i64 i ∧ cv = .int .i64 T ∧ 1 ≤ i ∧ i ≤ n + 1 ∧ T ≤ 64 ∧ m ≤ 4096 ∧ Hid (T = tot st.1 ∧ Inv k st ∧ rd k (ws.drop i) st = rd k ws.tail (List.replicate k [], [])) ∧ Hid (SBlk wr y k g (some ⟨z, 0, none⟩) k cap q m d2 ∧ RdR wr B st vs (some ⟨z, 0, none⟩) k cap q m d2) ∧ Hid (Below y w0 wr ∧ B ≤ wr.heap.size)) (fun _ iv _ => n + 1 - (intOf iv).toNat)
      case atStart => exact ⟨1, 0, _, _, _, _, _, _, _, rfl, rfl, Nat.le_refl _, by omega, by omega, by omega, HT0, Lib.hid ⟨HX.out, HRN.out⟩, HB1⟩
      case round =>
        clear HX HRN HB1 HT0
        obtain ⟨i, T, st, vs, z, cap, q, m, d2, rfl, rfl, hi1, hin, hT64, hm4, HI, HR, HB⟩ := hrel
        by_cases hlt : i < n
        · have hil : i < ws.length := by have := HLEN.out; omega
          obtain ⟨b, off, rfl, hbl, hcs⟩ := HWD.out i hil
          have hx1 := hcs i hil
          have hxb := HBIG.out _ (List.getElem_mem hil)
          obtain ⟨x, hxe⟩ : ∃ x, x = ws[i] := ⟨_, rfl⟩
          rw [← hxe] at hx1 hxb
          have HDR := Lib.hid (drop_read hil hxe)
          obtain ⟨h00, h01, h02, h03⟩ := HR.out.1.cells
          have hx : wr.cell? ⟨b, off + i, none⟩ = some (.int .u64 (x : Int)) := (HB.out.1.cell (show b < y by omega)).trans hx1
          obtain ⟨g3, hg3⟩ : ∃ v, v = getN x 8 3 := ⟨_, rfl⟩
          have HB3 := Lib.hid (show ∀ W', Calls Tryd.prog 39 #[.int .u64 (x : Int), .int .i64 8, .int .i64 3] W' fun e w' => e = .returned (.int .i64 (g3 : Nat)) ∧ w' = W' from fun W' => by rw [hg3]; exact rbits_c x 8 3 hxb (by omega) (by omega) W')
          obtain ⟨J, hJ⟩ : ∃ v, v = cpuOf k x := ⟨_, rfl⟩
          have hJe : J = g3 % k := by rw [hJ, hg3]; rfl
          have hJk : J < k := by rw [hJ]; exact cpuOf_lt hc1 x
          have hrem : (g3 : Int).tmod (k : Int) = (J : Int) := by rw [Int.tmod_eq_emod_of_nonneg (by omega), hJe]; simp
          have hrem2 : (g3 : Int) % (k : Int) = (J : Int) := by rw [hJe]; simp
          have hk0 : ((k : Int) == 0) = false := by rw [beq_eq_false_iff_ne]; omega
          obtain ⟨K, hK⟩ : ∃ v, v = kindN x := ⟨_, rfl⟩
          have hK4 : K < 4 := by rw [hK]; exact getN_lt x 0 2
          have HB2 := Lib.hid (show ∀ W', Calls Tryd.prog 39 #[.int .u64 (x : Int), .int .i64 0, .int .i64 2] W' fun e w' => e = .returned (.int .i64 (K : Nat)) ∧ w' = W' from fun W' => by rw [hK]; exact rbits_c x 0 2 hxb (by omega) (by omega) W')
          obtain ⟨G, hG⟩ : ∃ v, v = getN x 16 8 := ⟨_, rfl⟩
          have HB8 := Lib.hid (show ∀ W', Calls Tryd.prog 39 #[.int .u64 (x : Int), .int .i64 16, .int .i64 8] W' fun e w' => e = .returned (.int .i64 (G : Nat)) ∧ w' = W' from fun W' => by rw [hG]; exact rbits_c x 16 8 hxb (by omega) (by omega) W')
          have hG8 : G < 256 := by rw [hG]; exact getN_lt x 16 8
          have HJK := Lib.hid (And.intro hJ (And.intro hK hG))
          have HCS := Lib.hid hcs
          have hk00 : ¬ k = 0 := by omega
          clear hcs hx1 hxe hg3 hJ hJe hK hG h01 h02 h03
          go_upto_region 12 with (fail)
          go_quiet ((go_at_call 39; exact Calls.quiet_of_same (HB3.out _)))
          obtain ⟨w1, hw1⟩ : ∃ w : World, w = wr.drewN nq := ⟨_, rfl⟩
          have hb1 : Below wr.heap.size wr w1 := by rw [hw1]; exact below_drewN (Below.refl _ _) _
          rw [← hw1]
          have HR1 := Lib.hid (And.intro (HR.out.1.below hb1) (HR.out.2.below hb1))
          have HB1 := Lib.hid (show Below y w0 w1 ∧ B ≤ w1.heap.size from ⟨HB.out.1.trans (hb1.mono (by have := HB.out.2; omega)), Nat.le_trans HB.out.2 hb1.size⟩)
          have hx := below_cell hb1 hx
          clear hw1 hb1 HR HB h00 hrem hrem2 hk0 HB3 hk00
          go_wp2_with fail
          refine (HB2.out _).mono ?_
          rintro e w2 ⟨rfl, rfl⟩
          clear HB2
          have hkk : K = 1 ∨ K = 2 ∨ ((K : Int) == 1) = false ∧ ((K : Int) == 2) = false ∧ K ≠ 1 ∧ K ≠ 2 := by
            rw [beq_eq_false_iff_ne, beq_eq_false_iff_ne]; omega
          rcases hkk with rfl | rfl | ⟨hne1, hne2, hn1, hn2⟩
          · by_cases h5 : i + 5 < n
            · have hge : ¬ ((n : Int) ≤ (i : Int) + 5) := by omega
              by_cases ht : T < 64
              · --BEGIN call
                obtain ⟨h00, h01, h02, h03⟩ := HR1.out.1.cells
                have hJv : J < vs.length := by rw [HR1.out.2.vlen]; exact hJk
                have hJs : J < st.1.length := by rw [HR1.out.2.len]; exact hJk
                have hat0 := (HR1.out.2.out).cellAt J (by omega)
                rw [List.getElem?_eq_getElem hJv] at hat0
                obtain ⟨u, hu⟩ : ∃ u, u = vs[J] := ⟨_, rfl⟩
                rw [← hu] at hat0
                have hown0 := HR1.out.2.own J hJv hJs
                rw [← hu] at hown0
                have hJt : st.1[J].length ≤ 64 := Nat.le_trans (tot_mem st.1 _ (List.getElem_mem hJs)) HI.out.2.1.2.1
                obtain ⟨nn, hnn⟩ : ∃ nn, nn = st.1[J].length := ⟨_, rfl⟩
                rw [← hnn] at hown0 hJt
                have HU := Lib.hid (And.intro hu hnn)
                have hl5 : i + 5 < ws.length := by have := HLEN.out; omega
                obtain ⟨a0, ha0⟩ : ∃ a, a = ws[i + 1] := ⟨_, rfl⟩
                obtain ⟨a1, ha1⟩ : ∃ a, a = ws[i + 2] := ⟨_, rfl⟩
                obtain ⟨a2, ha2⟩ : ∃ a, a = ws[i + 3] := ⟨_, rfl⟩
                obtain ⟨a3, ha3⟩ : ∃ a, a = ws[i + 4] := ⟨_, rfl⟩
                obtain ⟨a4, ha4⟩ : ∃ a, a = ws[i + 5] := ⟨_, rfl⟩
                have hq : ∀ j (hj : j < ws.length), w2.cell? ⟨b, off + j, none⟩ = some (.int .u64 (ws[j] : Int)) := fun j hj => (HB1.out.1.cell (show b < y by omega)).trans (HCS.out j hj)
                have hv0 := hq (i + 1) (by omega)
                have hv1 := hq (i + 2) (by omega)
                have hv2 := hq (i + 3) (by omega)
                have hv3 := hq (i + 4) (by omega)
                have hv4 := hq (i + 5) (by omega)
                rw [← ha0] at hv0
                rw [← ha1] at hv1
                rw [← ha2] at hv2
                rw [← ha3] at hv3
                rw [← ha4] at hv4
                have HCA := Lib.hid (show callAt (ws.drop (i + 1)) = ⟨a0, a1, a2, a3, a4⟩ by
                  unfold callAt
                  simp only [List.getD_eq_getElem?_getD, List.getElem?_drop, Nat.add_zero, Nat.add_assoc]
                  rw [List.getElem?_eq_getElem (by omega : i + 1 < ws.length), List.getElem?_eq_getElem (by omega : i + (1 + 1) < ws.length), List.getElem?_eq_getElem (by omega : i + (1 + 2) < ws.length), List.getElem?_eq_getElem (by omega : i + (1 + 3) < ws.length), List.getElem?_eq_getElem (by omega : i + (1 + 4) < ws.length)]
                  rw [ha0, ha1, ha2, ha3, ha4]; rfl)
                have HOWN := Lib.hid hown0
                clear hu hnn hown0 ha0 ha1 ha2 ha3 ha4 hq hx
                go_upto_region 17 with (fail)
                obtain ⟨Xd, hXd⟩ : ∃ X : World, X = w2.drew := ⟨_, rfl⟩
                have hbd : Below w2.heap.size w2 Xd := by rw [hXd]; exact (Below.refl _ _).drew
                refine wpTwo_begin (T := fun w' => w'.cell? ⟨y, 2, none⟩ = some (.slice (some ⟨z, 0, none⟩) k cap) ∧ w'.cell? ⟨b, off + (i + 1), none⟩ = some (.int .u64 (a0 : Int)) ∧ w'.cell? ⟨b, off + (i + 2), none⟩ = some (.int .u64 (a1 : Int)) ∧ w'.cell? ⟨b, off + (i + 3), none⟩ = some (.int .u64 (a2 : Int)) ∧ w'.cell? ⟨b, off + (i + 4), none⟩ = some (.int .u64 (a3 : Int)) ∧ w'.cell? ⟨b, off + (i + 5), none⟩ = some (.int .u64 (a4 : Int))) (S := fun w' => w'.cell? ⟨z, J, none⟩ = some u) (late := fun j => [36, 38].contains j) (by kernel_rfl) ?_
                rw [← hXd]
                have hT := And.intro (below_cell hbd h02) (And.intro (below_cell hbd hv0) (And.intro (below_cell hbd hv1) (And.intro (below_cell hbd hv2) (And.intro (below_cell hbd hv3) (below_cell hbd hv4)))))
                have hS := below_cell hbd hat0
                have hbdH := Lib.hid hbd
                have HXR := Lib.hid (And.intro (HR1.out.1.below hbd) (HR1.out.2.below hbd))
                have HXB := Lib.hid (show Below y w0 Xd ∧ B ≤ Xd.heap.size from ⟨HB1.out.1.trans (hbd.mono (by have := HB1.out.2; omega)), Nat.le_trans HB1.out.2 hbd.size⟩)
                clear hXd hbd h00 h01 h02 h03 hv0 hv1 hv2 hv3 hv4 hat0
                have hp1 : 0 ≤ (i : Int) + 1 := by omega
                have hq1 : (i : Int) + 1 < (n : Int) := by omega
                have hr1 : ((i : Int) + 1).toNat = i + 1 := by omega
                have hp2 : 0 ≤ (i : Int) + 2 := by omega
                have hq2 : (i : Int) + 2 < (n : Int) := by omega
                have hr2 : ((i : Int) + 2).toNat = i + 2 := by omega
                have hp3 : 0 ≤ (i : Int) + 3 := by omega
                have hq3 : (i : Int) + 3 < (n : Int) := by omega
                have hr3 : ((i : Int) + 3).toNat = i + 3 := by omega
                have hp4 : 0 ≤ (i : Int) + 4 := by omega
                have hq4 : (i : Int) + 4 < (n : Int) := by omega
                have hr4 : ((i : Int) + 4).toNat = i + 4 := by omega
                have hp5 : 0 ≤ (i : Int) + 5 := by omega
                have hq5 : (i : Int) + 5 < (n : Int) := by omega
                have hr5 : ((i : Int) + 5).toNat = i + 5 := by omega
                have hw1 : IntKind.i64.wrap ((i : Int) + 1) = (i : Int) + 1 := IntWalk.i64_in _ (by omega)
                have hw2 : IntKind.i64.wrap ((i : Int) + 2) = (i : Int) + 2 := IntWalk.i64_in _ (by omega)
                have hw3 : IntKind.i64.wrap ((i : Int) + 3) = (i : Int) + 3 := IntWalk.i64_in _ (by omega)
                have hw4 : IntKind.i64.wrap ((i : Int) + 4) = (i : Int) + 4 := IntWalk.i64_in _ (by omega)
                have hw5 : IntKind.i64.wrap ((i : Int) + 5) = (i : Int) + 5 := IntWalk.i64_in _ (by omega)
                refine wpTwo_takeT (i := 0) (v := .pointer (some ⟨y, 2, none⟩)) rfl (by kernel_rfl) (by kernel_rfl) (by kernel_rfl) (fun _ _ _ h => h) ⟨by rfl, ?_⟩ hT ?_
                · intro w hTw
                  obtain ⟨t0, t1, t2, t3, t4, t5⟩ := hTw
                  go_simp
                (try simp only [Act.put, List.getElem_toArray, List.getElem_cons_zero, List.setIfInBounds_toArray, List.set_cons_succ, List.set_cons_zero])
                refine wpTwo_takeT (i := 1) (v := .slice (some ⟨z, 0, none⟩) k cap) rfl (by kernel_rfl) (by kernel_rfl) (by kernel_rfl) (fun _ _ _ h => h) ⟨by rfl, ?_⟩ hT ?_
                · intro w hTw
                  obtain ⟨t0, t1, t2, t3, t4, t5⟩ := hTw
                  go_simp
                (try simp only [Act.put, List.getElem_toArray, List.getElem_cons_succ, List.getElem_cons_zero, List.setIfInBounds_toArray, List.set_cons_succ, List.set_cons_zero])
                refine wpTwo_takeT (i := 2) (v := .int .i64 (J : Int)) rfl (by kernel_rfl) (by kernel_rfl) (by kernel_rfl) (fun _ _ _ h => h) ⟨by rfl, ?_⟩ hT ?_
                · intro w hTw
                  obtain ⟨t0, t1, t2, t3, t4, t5⟩ := hTw
                  go_simp
                (try simp only [Act.put, List.getElem_toArray, List.getElem_cons_succ, List.getElem_cons_zero, List.setIfInBounds_toArray, List.set_cons_succ, List.set_cons_zero])
                refine wpTwo_takeT (i := 3) (v := .pointer (some ⟨y, 2, none⟩)) rfl (by kernel_rfl) (by kernel_rfl) (by kernel_rfl) (fun _ _ _ h => h) ⟨by rfl, ?_⟩ hT ?_
                · intro w hTw
                  obtain ⟨t0, t1, t2, t3, t4, t5⟩ := hTw
                  go_simp
                (try simp only [Act.put, List.getElem_toArray, List.getElem_cons_succ, List.getElem_cons_zero, List.setIfInBounds_toArray, List.set_cons_succ, List.set_cons_zero])
                refine wpTwo_takeT (i := 4) (v := .slice (some ⟨z, 0, none⟩) k cap) rfl (by kernel_rfl) (by kernel_rfl) (by kernel_rfl) (fun _ _ _ h => h) ⟨by rfl, ?_⟩ hT ?_
                · intro w hTw
                  obtain ⟨t0, t1, t2, t3, t4, t5⟩ := hTw
                  go_simp
                (try simp only [Act.put, List.getElem_toArray, List.getElem_cons_succ, List.getElem_cons_zero, List.setIfInBounds_toArray, List.set_cons_succ, List.set_cons_zero])
                refine wpTwo_takeT (i := 5) (v := .int .i64 (J : Int)) rfl (by kernel_rfl) (by kernel_rfl) (by kernel_rfl) (fun _ _ _ h => h) ⟨by rfl, ?_⟩ hT ?_
                · intro w hTw
                  obtain ⟨t0, t1, t2, t3, t4, t5⟩ := hTw
                  go_simp
                (try simp only [Act.put, List.getElem_toArray, List.getElem_cons_succ, List.getElem_cons_zero, List.setIfInBounds_toArray, List.set_cons_succ, List.set_cons_zero])
                refine wpTwo_takeT (i := 6) (v := .pointer (some ⟨z, J, none⟩)) rfl (by kernel_rfl) (by kernel_rfl) (by kernel_rfl) (fun _ _ _ h => h) ⟨by rfl, ?_⟩ hT ?_
                · intro w hTw
                  obtain ⟨t0, t1, t2, t3, t4, t5⟩ := hTw
                  go_simp
                (try simp only [Act.put, List.getElem_toArray, List.getElem_cons_succ, List.getElem_cons_zero, List.setIfInBounds_toArray, List.set_cons_succ, List.set_cons_zero])
                refine wpTwo_takeS (i := 7) (v := u) (waits_all (by kernel_rfl)) rfl (by kernel_rfl) (by kernel_rfl) (by kernel_rfl) (fun _ _ _ h => h) ⟨by rfl, ?_⟩ ⟨hT, hS⟩ ?_
                · rintro w ⟨-, hS0⟩
                  go_simp
                (try simp only [Act.put, List.getElem_toArray, List.getElem_cons_succ, List.getElem_cons_zero, List.setIfInBounds_toArray, List.set_cons_succ, List.set_cons_zero])
                refine wpTwo_takeT (i := 8) (v := .slice (some ⟨b, off, none⟩) n d) rfl (by kernel_rfl) (by kernel_rfl) (by kernel_rfl) (fun _ _ _ h => h) ⟨by rfl, ?_⟩ hT ?_
                · intro w hTw
                  obtain ⟨t0, t1, t2, t3, t4, t5⟩ := hTw
                  go_simp
                (try simp only [Act.put, List.getElem_toArray, List.getElem_cons_succ, List.getElem_cons_zero, List.setIfInBounds_toArray, List.set_cons_succ, List.set_cons_zero])
                refine wpTwo_takeT (i := 9) (v := .int .i64 (i : Int)) rfl (by kernel_rfl) (by kernel_rfl) (by kernel_rfl) (fun _ _ _ h => h) ⟨by rfl, ?_⟩ hT ?_
                · intro w hTw
                  obtain ⟨t0, t1, t2, t3, t4, t5⟩ := hTw
                  go_simp
                (try simp only [Act.put, List.getElem_toArray, List.getElem_cons_succ, List.getElem_cons_zero, List.setIfInBounds_toArray, List.set_cons_succ, List.set_cons_zero])
                refine wpTwo_takeT (i := 10) (v := .int .i64 ((i : Int) + 1)) rfl (by kernel_rfl) (by kernel_rfl) (by kernel_rfl) (fun _ _ _ h => h) ⟨by rfl, ?_⟩ hT ?_
                · intro w hTw
                  obtain ⟨t0, t1, t2, t3, t4, t5⟩ := hTw
                  go_simp
                (try simp only [Act.put, List.getElem_toArray, List.getElem_cons_succ, List.getElem_cons_zero, List.setIfInBounds_toArray, List.set_cons_succ, List.set_cons_zero])
                refine wpTwo_takeT (i := 11) (v := .pointer (some ⟨b, off + (i + 1), none⟩)) rfl (by kernel_rfl) (by kernel_rfl) (by kernel_rfl) (fun _ _ _ h => h) ⟨by rfl, ?_⟩ hT ?_
                · intro w hTw
                  obtain ⟨t0, t1, t2, t3, t4, t5⟩ := hTw
                  go_simp
                (try simp only [Act.put, List.getElem_toArray, List.getElem_cons_succ, List.getElem_cons_zero, List.setIfInBounds_toArray, List.set_cons_succ, List.set_cons_zero])
                refine wpTwo_takeT (i := 12) (v := .int .u64 (a0 : Int)) rfl (by kernel_rfl) (by kernel_rfl) (by kernel_rfl) (fun _ _ _ h => h) ⟨by rfl, ?_⟩ hT ?_
                · intro w hTw
                  obtain ⟨t0, t1, t2, t3, t4, t5⟩ := hTw
                  go_simp
                (try simp only [Act.put, List.getElem_toArray, List.getElem_cons_succ, List.getElem_cons_zero, List.setIfInBounds_toArray, List.set_cons_succ, List.set_cons_zero])
                refine wpTwo_takeT (i := 13) (v := .slice (some ⟨b, off, none⟩) n d) rfl (by kernel_rfl) (by kernel_rfl) (by kernel_rfl) (fun _ _ _ h => h) ⟨by rfl, ?_⟩ hT ?_
                · intro w hTw
                  obtain ⟨t0, t1, t2, t3, t4, t5⟩ := hTw
                  go_simp
                (try simp only [Act.put, List.getElem_toArray, List.getElem_cons_succ, List.getElem_cons_zero, List.setIfInBounds_toArray, List.set_cons_succ, List.set_cons_zero])
                refine wpTwo_takeT (i := 14) (v := .int .i64 (i : Int)) rfl (by kernel_rfl) (by kernel_rfl) (by kernel_rfl) (fun _ _ _ h => h) ⟨by rfl, ?_⟩ hT ?_
                · intro w hTw
                  obtain ⟨t0, t1, t2, t3, t4, t5⟩ := hTw
                  go_simp
                (try simp only [Act.put, List.getElem_toArray, List.getElem_cons_succ, List.getElem_cons_zero, List.setIfInBounds_toArray, List.set_cons_succ, List.set_cons_zero])
                refine wpTwo_takeT (i := 15) (v := .int .i64 ((i : Int) + 2)) rfl (by kernel_rfl) (by kernel_rfl) (by kernel_rfl) (fun _ _ _ h => h) ⟨by rfl, ?_⟩ hT ?_
                · intro w hTw
                  obtain ⟨t0, t1, t2, t3, t4, t5⟩ := hTw
                  go_simp
                (try simp only [Act.put, List.getElem_toArray, List.getElem_cons_succ, List.getElem_cons_zero, List.setIfInBounds_toArray, List.set_cons_succ, List.set_cons_zero])
                refine wpTwo_takeT (i := 16) (v := .pointer (some ⟨b, off + (i + 2), none⟩)) rfl (by kernel_rfl) (by kernel_rfl) (by kernel_rfl) (fun _ _ _ h => h) ⟨by rfl, ?_⟩ hT ?_
                · intro w hTw
                  obtain ⟨t0, t1, t2, t3, t4, t5⟩ := hTw
                  go_simp
                (try simp only [Act.put, List.getElem_toArray, List.getElem_cons_succ, List.getElem_cons_zero, List.setIfInBounds_toArray, List.set_cons_succ, List.set_cons_zero])
                refine wpTwo_takeT (i := 17) (v := .int .u64 (a1 : Int)) rfl (by kernel_rfl) (by kernel_rfl) (by kernel_rfl) (fun _ _ _ h => h) ⟨by rfl, ?_⟩ hT ?_
                · intro w hTw
                  obtain ⟨t0, t1, t2, t3, t4, t5⟩ := hTw
                  go_simp
                (try simp only [Act.put, List.getElem_toArray, List.getElem_cons_succ, List.getElem_cons_zero, List.setIfInBounds_toArray, List.set_cons_succ, List.set_cons_zero])
                refine wpTwo_takeT (i := 18) (v := .slice (some ⟨b, off, none⟩) n d) rfl (by kernel_rfl) (by kernel_rfl) (by kernel_rfl) (fun _ _ _ h => h) ⟨by rfl, ?_⟩ hT ?_
                · intro w hTw
                  obtain ⟨t0, t1, t2, t3, t4, t5⟩ := hTw
                  go_simp
                (try simp only [Act.put, List.getElem_toArray, List.getElem_cons_succ, List.getElem_cons_zero, List.setIfInBounds_toArray, List.set_cons_succ, List.set_cons_zero])
                refine wpTwo_takeT (i := 19) (v := .int .i64 (i : Int)) rfl (by kernel_rfl) (by kernel_rfl) (by kernel_rfl) (fun _ _ _ h => h) ⟨by rfl, ?_⟩ hT ?_
                · intro w hTw
                  obtain ⟨t0, t1, t2, t3, t4, t5⟩ := hTw
                  go_simp
                (try simp only [Act.put, List.getElem_toArray, List.getElem_cons_succ, List.getElem_cons_zero, List.setIfInBounds_toArray, List.set_cons_succ, List.set_cons_zero])
                refine wpTwo_takeT (i := 20) (v := .int .i64 ((i : Int) + 3)) rfl (by kernel_rfl) (by kernel_rfl) (by kernel_rfl) (fun _ _ _ h => h) ⟨by rfl, ?_⟩ hT ?_
                · intro w hTw
                  obtain ⟨t0, t1, t2, t3, t4, t5⟩ := hTw
                  go_simp
                (try simp only [Act.put, List.getElem_toArray, List.getElem_cons_succ, List.getElem_cons_zero, List.setIfInBounds_toArray, List.set_cons_succ, List.set_cons_zero])
                refine wpTwo_takeT (i := 21) (v := .pointer (some ⟨b, off + (i + 3), none⟩)) rfl (by kernel_rfl) (by kernel_rfl) (by kernel_rfl) (fun _ _ _ h => h) ⟨by rfl, ?_⟩ hT ?_
                · intro w hTw
                  obtain ⟨t0, t1, t2, t3, t4, t5⟩ := hTw
                  go_simp
                (try simp only [Act.put, List.getElem_toArray, List.getElem_cons_succ, List.getElem_cons_zero, List.setIfInBounds_toArray, List.set_cons_succ, List.set_cons_zero])
                refine wpTwo_takeT (i := 22) (v := .int .u64 (a2 : Int)) rfl (by kernel_rfl) (by kernel_rfl) (by kernel_rfl) (fun _ _ _ h => h) ⟨by rfl, ?_⟩ hT ?_
                · intro w hTw
                  obtain ⟨t0, t1, t2, t3, t4, t5⟩ := hTw
                  go_simp
                (try simp only [Act.put, List.getElem_toArray, List.getElem_cons_succ, List.getElem_cons_zero, List.setIfInBounds_toArray, List.set_cons_succ, List.set_cons_zero])
                refine wpTwo_takeT (i := 23) (v := .slice (some ⟨b, off, none⟩) n d) rfl (by kernel_rfl) (by kernel_rfl) (by kernel_rfl) (fun _ _ _ h => h) ⟨by rfl, ?_⟩ hT ?_
                · intro w hTw
                  obtain ⟨t0, t1, t2, t3, t4, t5⟩ := hTw
                  go_simp
                (try simp only [Act.put, List.getElem_toArray, List.getElem_cons_succ, List.getElem_cons_zero, List.setIfInBounds_toArray, List.set_cons_succ, List.set_cons_zero])
                refine wpTwo_takeT (i := 24) (v := .int .i64 (i : Int)) rfl (by kernel_rfl) (by kernel_rfl) (by kernel_rfl) (fun _ _ _ h => h) ⟨by rfl, ?_⟩ hT ?_
                · intro w hTw
                  obtain ⟨t0, t1, t2, t3, t4, t5⟩ := hTw
                  go_simp
                (try simp only [Act.put, List.getElem_toArray, List.getElem_cons_succ, List.getElem_cons_zero, List.setIfInBounds_toArray, List.set_cons_succ, List.set_cons_zero])
                refine wpTwo_takeT (i := 25) (v := .int .i64 ((i : Int) + 4)) rfl (by kernel_rfl) (by kernel_rfl) (by kernel_rfl) (fun _ _ _ h => h) ⟨by rfl, ?_⟩ hT ?_
                · intro w hTw
                  obtain ⟨t0, t1, t2, t3, t4, t5⟩ := hTw
                  go_simp
                (try simp only [Act.put, List.getElem_toArray, List.getElem_cons_succ, List.getElem_cons_zero, List.setIfInBounds_toArray, List.set_cons_succ, List.set_cons_zero])
                refine wpTwo_takeT (i := 26) (v := .pointer (some ⟨b, off + (i + 4), none⟩)) rfl (by kernel_rfl) (by kernel_rfl) (by kernel_rfl) (fun _ _ _ h => h) ⟨by rfl, ?_⟩ hT ?_
                · intro w hTw
                  obtain ⟨t0, t1, t2, t3, t4, t5⟩ := hTw
                  go_simp
                (try simp only [Act.put, List.getElem_toArray, List.getElem_cons_succ, List.getElem_cons_zero, List.setIfInBounds_toArray, List.set_cons_succ, List.set_cons_zero])
                refine wpTwo_takeT (i := 27) (v := .int .u64 (a3 : Int)) rfl (by kernel_rfl) (by kernel_rfl) (by kernel_rfl) (fun _ _ _ h => h) ⟨by rfl, ?_⟩ hT ?_
                · intro w hTw
                  obtain ⟨t0, t1, t2, t3, t4, t5⟩ := hTw
                  go_simp
                (try simp only [Act.put, List.getElem_toArray, List.getElem_cons_succ, List.getElem_cons_zero, List.setIfInBounds_toArray, List.set_cons_succ, List.set_cons_zero])
                refine wpTwo_takeT (i := 28) (v := .slice (some ⟨b, off, none⟩) n d) rfl (by kernel_rfl) (by kernel_rfl) (by kernel_rfl) (fun _ _ _ h => h) ⟨by rfl, ?_⟩ hT ?_
                · intro w hTw
                  obtain ⟨t0, t1, t2, t3, t4, t5⟩ := hTw
                  go_simp
                (try simp only [Act.put, List.getElem_toArray, List.getElem_cons_succ, List.getElem_cons_zero, List.setIfInBounds_toArray, List.set_cons_succ, List.set_cons_zero])
                refine wpTwo_takeT (i := 29) (v := .int .i64 (i : Int)) rfl (by kernel_rfl) (by kernel_rfl) (by kernel_rfl) (fun _ _ _ h => h) ⟨by rfl, ?_⟩ hT ?_
                · intro w hTw
                  obtain ⟨t0, t1, t2, t3, t4, t5⟩ := hTw
                  go_simp
                (try simp only [Act.put, List.getElem_toArray, List.getElem_cons_succ, List.getElem_cons_zero, List.setIfInBounds_toArray, List.set_cons_succ, List.set_cons_zero])
                refine wpTwo_takeT (i := 30) (v := .int .i64 ((i : Int) + 5)) rfl (by kernel_rfl) (by kernel_rfl) (by kernel_rfl) (fun _ _ _ h => h) ⟨by rfl, ?_⟩ hT ?_
                · intro w hTw
                  obtain ⟨t0, t1, t2, t3, t4, t5⟩ := hTw
                  go_simp
                (try simp only [Act.put, List.getElem_toArray, List.getElem_cons_succ, List.getElem_cons_zero, List.setIfInBounds_toArray, List.set_cons_succ, List.set_cons_zero])
                refine wpTwo_takeT (i := 31) (v := .pointer (some ⟨b, off + (i + 5), none⟩)) rfl (by kernel_rfl) (by kernel_rfl) (by kernel_rfl) (fun _ _ _ h => h) ⟨by rfl, ?_⟩ hT ?_
                · intro w hTw
                  obtain ⟨t0, t1, t2, t3, t4, t5⟩ := hTw
                  go_simp
                (try simp only [Act.put, List.getElem_toArray, List.getElem_cons_succ, List.getElem_cons_zero, List.setIfInBounds_toArray, List.set_cons_succ, List.set_cons_zero])
                refine wpTwo_takeT (i := 32) (v := .int .u64 (a4 : Int)) rfl (by kernel_rfl) (by kernel_rfl) (by kernel_rfl) (fun _ _ _ h => h) ⟨by rfl, ?_⟩ hT ?_
                · intro w hTw
                  obtain ⟨t0, t1, t2, t3, t4, t5⟩ := hTw
                  go_simp
                (try simp only [Act.put, List.getElem_toArray, List.getElem_cons_succ, List.getElem_cons_zero, List.setIfInBounds_toArray, List.set_cons_succ, List.set_cons_zero])
                refine wpTwo_takeT (i := 33) (v := .agg #[.int .u64 (a1 : Int), .int .u64 (a2 : Int), .int .u64 (a3 : Int), .int .u64 (a4 : Int)]) rfl (by kernel_rfl) (by kernel_rfl) (by kernel_rfl) (fun _ _ _ h => h) ⟨by rfl, ?_⟩ hT ?_
                · intro w hTw
                  obtain ⟨t0, t1, t2, t3, t4, t5⟩ := hTw
                  go_simp
                (try simp only [Act.put, List.getElem_toArray, List.getElem_cons_succ, List.getElem_cons_zero, List.setIfInBounds_toArray, List.set_cons_succ, List.set_cons_zero])
                refine wpTwo_takeT (i := 34) (v := .agg #[.int .u64 (a0 : Int), .int .u64 (a1 : Int), .int .u64 (a2 : Int), .int .u64 (a3 : Int), .int .u64 (a4 : Int)]) rfl (by kernel_rfl) (by kernel_rfl) (by kernel_rfl) (fun _ _ _ h => h) ⟨by rfl, ?_⟩ hT ?_
                · intro w hTw
                  obtain ⟨t0, t1, t2, t3, t4, t5⟩ := hTw
                  go_simp
                (try simp only [Act.put, List.getElem_toArray, List.getElem_cons_succ, List.getElem_cons_zero, List.setIfInBounds_toArray, List.set_cons_succ, List.set_cons_zero])
                refine wpTwo_ready (rs := [35]) (by kernel_rfl) (by simp) ?_
                refine (AllTwo.cons rfl (fun K hK => ?_) AllTwo.nil)
                go_simp
                have HNEW := Lib.hid (World.alloc_heap_new Xd (.cells #[.int .u64 (a0 : Int), .int .u64 (a1 : Int), .int .u64 (a2 : Int), .int .u64 (a3 : Int), .int .u64 (a4 : Int)] 53))
                obtain ⟨yc, hyc⟩ : ∃ q, q = Xd.heap.size := ⟨_, rfl⟩
                obtain ⟨Xa, hXa⟩ : ∃ X : World, X = Xd.alloc (.cells #[.int .u64 (a0 : Int), .int .u64 (a1 : Int), .int .u64 (a2 : Int), .int .u64 (a3 : Int), .int .u64 (a4 : Int)] 53) := ⟨_, rfl⟩
                rw [← hXa, ← hyc] at HNEW ⊢
                have hba : Below Xd.heap.size Xd Xa := by rw [hXa]; exact (Below.refl _ _).alloc (Nat.le_refl _) _
                have hTa := And.intro (below_cell hba hT.1) (And.intro (below_cell hba hT.2.1) (And.intro (below_cell hba hT.2.2.1) (And.intro (below_cell hba hT.2.2.2.1) (And.intro (below_cell hba hT.2.2.2.2.1) (below_cell hba hT.2.2.2.2.2)))))
                have hSa := below_cell hba hS
                refine hK.out _ _ ⟨hTa, fun _ _ => hSa⟩ ?_
                clear hK K
                (try simp only [Act.put, List.getElem_toArray, List.getElem_cons_succ, List.getElem_cons_zero, List.setIfInBounds_toArray, List.set_cons_succ, List.set_cons_zero])
                refine wpTwo_ready (rs := [36]) (by kernel_rfl) (by simp) ?_
                refine (AllTwo.cons rfl (fun K hK => ?_) AllTwo.nil)
                clear hw1 hw2 hw3 hw4 hw5 hr1 hr2 hr3 hr4 hr5
                have hszd := HXB.out.2
                have hsza := hba.size
                refine step_append_at (by rfl) _ _ 47 rfl B 53 iC zC 5 40 Tryd.underlying47 HIC.out.1 HIC.out.2.1 HIC.out.2.2.1 HIC.out.2.2.2.1 HIC.out.2.2.2.2 (by decide) u nn (cellsC st.1[J]) (by rfl) (owns_below (owns_below HOWN.out hbdH.out) hba) ⟨yc, 0, none⟩ 1 1 (cells5 ⟨a0, a1, a2, a3, a4⟩) (by rfl) (by rfl) (World.news_of_block HNEW.out) (by intro v hv; simp only [cells5, nv, List.mem_cons, List.not_mem_nil, or_false] at hv; rcases hv with rfl | rfl | rfl | rfl | rfl <;> rfl) (by unfold maxLen; omega) (by omega) (by omega) ?_
                intro v' Xg hown' hgrow hat
                have hgk := keeps_grown hgrow
                have hny : ∀ q, q ≤ y → ¬ (some q = u.ownBlock) := fun q hq e => by have := (HOWN.out.lt q e.symm).1; omega
                have hTg := And.intro (hgk.cell hTa.1 (hny y (Nat.le_refl _))) (And.intro (hgk.cell hTa.2.1 (hny b (by omega))) (And.intro (hgk.cell hTa.2.2.1 (hny b (by omega))) (And.intro (hgk.cell hTa.2.2.2.1 (hny b (by omega))) (And.intro (hgk.cell hTa.2.2.2.2.1 (hny b (by omega))) (hgk.cell hTa.2.2.2.2.2 (hny b (by omega)))))))
                have HRA := Lib.hid (HXR.out.2)
                have hzne : ¬ (some z = u.ownBlock) := fun e => owns_ne HXR.out.2.out (owns_below HOWN.out hbdH.out) (by decide) rfl e.symm rfl
                have hcg := hgk.cell hSa hzne
                have hfa : Xa.frozen? ⟨z, J, none⟩ = false := by rw [hXa]; exact (HXR.out.2.out.alloc _).frozenAt J
                have hfg : Xg.frozen? ⟨z, J, none⟩ = false := (hgk.frozen (World.block_lt_of_cell? Xa _ hSa) hzne).trans hfa
                have hrow := HXR.out.2.call (o := (.cells #[.int .u64 (a0 : Int), .int .u64 (a1 : Int), .int .u64 (a2 : Int), .int .u64 (a3 : Int), .int .u64 (a4 : Int)] 53)) (x := ⟨a0, a1, a2, a3, a4⟩) (v' := v') hJv hJs (by rw [← HU.out.2]; exact hown') (by rw [← hXa, ← HU.out.1]; exact hgrow) (by rw [← hXa, ← HU.out.1]; exact hat)
                have hSB : SBlk Xg y k g (some ⟨z, 0, none⟩) k cap q m d2 := (HXR.out.1.below hba).keeps hgk (hny y (Nat.le_refl _))
                refine hK.out _ _ ⟨hTg, fun h _ => absurd h (by decide)⟩ ?_
                clear hK K
                (try simp only [Act.put, List.getElem_toArray, List.getElem_cons_succ, List.getElem_cons_zero, List.setIfInBounds_toArray, List.set_cons_succ, List.set_cons_zero])
                refine wpTwo_takeT (i := 37) (v := .pointer (some ⟨z, J, none⟩)) rfl (by kernel_rfl) (by kernel_rfl) (by kernel_rfl) (fun _ _ _ h => h) ⟨by rfl, ?_⟩ hTg ?_
                · intro w hTw
                  go_simp
                (try simp only [Act.put, List.getElem_toArray, List.getElem_cons_succ, List.getElem_cons_zero, List.setIfInBounds_toArray, List.set_cons_succ, List.set_cons_zero])
                refine wpTwo_ready (rs := [38]) (by kernel_rfl) (by simp) ?_
                refine (AllTwo.cons rfl (fun K hK => ?_) AllTwo.nil)
                obtain ⟨Xs, hXs⟩ : ∃ X : World, X = Xg.setCell ⟨z, J, none⟩ v' := ⟨_, rfl⟩
                obtain ⟨pv, cv, rfl⟩ := owns_slice hown'
                have hrow' : RdR Xs B (addC st.1 J ⟨a0, a1, a2, a3, a4⟩, st.2) (vs.set J (.slice pv (nn + 1) cv)) (some ⟨z, 0, none⟩) k cap q m d2 := by rw [hXs]; exact hrow
                have hzB := (HXR.out.2.out.lt z rfl).1
                have hks : Keeps (fun q => q = z) Xg Xs := by rw [hXs]; exact Keeps.setCell Xg (S := fun q => q = z) (p := ⟨z, J, none⟩) rfl _
                have hSBs : SBlk Xs y k g (some ⟨z, 0, none⟩) k cap q m d2 := hSB.keeps hks (fun e => by omega)
                have hTs := And.intro (hks.cell hTg.1 (show ¬ y = z by omega)) (And.intro (hks.cell hTg.2.1 (show ¬ b = z by omega)) (And.intro (hks.cell hTg.2.2.1 (show ¬ b = z by omega)) (And.intro (hks.cell hTg.2.2.2.1 (show ¬ b = z by omega)) (And.intro (hks.cell hTg.2.2.2.2.1 (show ¬ b = z by omega)) (hks.cell hTg.2.2.2.2.2 (show ¬ b = z by omega))))))
                have hgs := hgrow.size
                have HBS := Lib.hid (show Below y w0 Xs ∧ B ≤ Xs.heap.size from ⟨((HXB.out.1.trans (hba.mono (by omega))).grown hgrow (by omega) (fun r hr => by have := (HOWN.out.lt r hr).1; omega)).trans (hks.below (by omega) (fun q hq => by omega)), by have := hks.size; omega⟩)
                go_simp
                rw [← hXs]
                refine hK.out _ _ ⟨hTs, fun h _ => absurd h (by decide)⟩ ?_
                clear hK K
                (try simp only [Act.put, List.getElem_toArray, List.getElem_cons_succ, List.getElem_cons_zero, List.setIfInBounds_toArray, List.set_cons_succ, List.set_cons_zero])
                refine wpTwo_end (by kernel_rfl) ?_ _
                have HN := Lib.hid (show T + 1 = tot (addC st.1 J ⟨a0, a1, a2, a3, a4⟩) ∧ Inv k (addC st.1 J ⟨a0, a1, a2, a3, a4⟩, st.2) ∧ rd k (ws.drop (i + 5 + 1)) (addC st.1 J ⟨a0, a1, a2, a3, a4⟩, st.2) = rd k ws.tail (List.replicate k [], []) from by
                  have hcs : callS k x (callAt (ws.drop (i + 1))) st = (addC st.1 J ⟨a0, a1, a2, a3, a4⟩, st.2) := by
                    unfold callS
                    rw [if_pos (by rw [← HI.out.1]; exact ht), HCA.out, ← HJK.out.1]
                  refine ⟨by rw [addC_tot _ _ _ hJs, HI.out.1], by rw [← hcs]; exact HI.out.2.1.call hc1 x _, ?_⟩
                  rw [← HI.out.2.2, HDR.out, rd_call k x _ st HJK.out.2.1.symm (by rw [List.length_drop]; have := HLEN.out; omega), List.drop_drop, hcs])
                have HR2 := Lib.hid (And.intro hSBs hrow')
                clear hrow hrow' hSB hSBs hks hTs hTg hTa hT hS hSa hXs hgk hgrow hown' hat hny hcg hfa hfg hba hXa HXR HXB HRA HOWN hzne hzB hgs hp1 hq1 hp2 hq2 hp3 hq3 hp4 hq4 hp5 hq5
                go_wp2
                go_roundw
                case rel => exact ⟨i + 5 + 1, T + 1, _, _, z, cap, q, m, d2, by go_num, by go_num, by omega, by omega, by omega, hm4, HN, HR2, HBS⟩
                case measure => simp [intOf]; omega
                --END call
              · --BEGIN full
                have HN := Lib.hid (show T = tot st.1 ∧ Inv k st ∧ rd k (ws.drop (i + 5 + 1)) st = rd k ws.tail (List.replicate k [], []) from ⟨HI.out.1, HI.out.2.1, by
                  rw [← HI.out.2.2, HDR.out, rd_call k x _ st HJK.out.2.1.symm (by rw [List.length_drop]; have := HLEN.out; omega), List.drop_drop]
                  unfold callS
                  rw [if_neg (by rw [← HI.out.1]; exact ht)]⟩)
                clear hx
                go_wp2
                go_roundw
                case rel => exact ⟨i + 5 + 1, T, st, vs, z, cap, q, m, d2, by go_num, rfl, by omega, by omega, hT64, hm4, HN, HR1, HB1⟩
                case measure => simp [intOf]; omega
                --END full
            · --BEGIN short
              have hge : (n : Int) ≤ (i : Int) + 5 := by omega
              have HN := Lib.hid (show T = tot st.1 ∧ Inv k st ∧ rd k (ws.drop (i + 1)) st = rd k ws.tail (List.replicate k [], []) from ⟨HI.out.1, HI.out.2.1, by
                rw [← HI.out.2.2, HDR.out, rd_short k x _ st HJK.out.2.1.symm (by rw [List.length_drop]; have := HLEN.out; omega)]⟩)
              clear hx
              go_wp2
              go_roundw
              case rel => exact ⟨i + 1, T, st, vs, z, cap, q, m, d2, by go_num, rfl, by omega, by omega, hT64, hm4, HN, HR1, HB1⟩
              case measure => simp [intOf]; omega
              --END short
          · --BEGIN picks
            go_wp2_with fail
            refine (HB8.out _).mono ?_
            rintro e w3 ⟨rfl, rfl⟩
            obtain ⟨L, hL⟩ : ∃ L, L = st.2.length := ⟨_, rfl⟩
            have hL4 : L ≤ 4096 := by rw [hL]; exact HI.out.2.1.2.2.1
            have HL := Lib.hid hL
            have HR0 := Lib.hid (show SBlk w3 y k g (some ⟨z, 0, none⟩) k cap q m d2 ∧ RdR w3 B (st.1, st.2 ++ List.replicate (min 0 (4096 - L)) (J : Int)) vs (some ⟨z, 0, none⟩) k cap q m d2 from by
              rw [Nat.zero_min, List.replicate_zero, List.append_nil]; exact HR1.out)
            clear hx hL
            go_wp2
            go_loopw [111] (fun kv wr => ∃ (o : Nat) (q : Option Addr) (m d2 : Nat), o ≤ G + 1 ∧ kv = .int .i64 o ∧ m ≤ 4096 ∧ Hid (SBlk wr y k g (some ⟨z, 0, none⟩) k cap q m d2 ∧ RdR wr B (st.1, st.2 ++ List.replicate (min o (4096 - L)) (J : Int)) vs (some ⟨z, 0, none⟩) k cap q m d2) ∧ Hid (Below y w0 wr ∧ B ≤ wr.heap.size)) (fun kv _ => G + 1 - (intOf kv).toNat)
            case atStart => exact ⟨0, q, m, d2, by omega, rfl, hm4, HR0, HB1⟩
            case round =>
              clear HR0 HB1 HR1 hm4
              obtain ⟨o, q, m, d2, ho, rfl, hm4, HR, HB⟩ := hrel
              have hml := HR.out.2.plen
              simp only [List.length_append, List.length_replicate] at hml
              rw [← HL.out] at hml
              by_cases hog : o < G + 1
              · obtain ⟨h00, h01, h02, h03⟩ := HR.out.1.cells
                by_cases hm : m < 4096
                · have hmn : min (o + 1) (4096 - L) = min o (4096 - L) + 1 := by omega
                  have HMN := Lib.hid hmn
                  have HO := Lib.hid HR.out.2.picks
                  have hszr := HB.out.2
                  clear hmn hml
                  go_wp2_with (at_builtin; refine wpList_append_own _ rfl _ _ 23 rfl B 3 iI (.int .i64 0) 1 8 Tryd.underlying23 HII.out.1 HII.out.2.1 HII.out.2.2.1 HII.out.2.2.2 rfl (by decide) _ _ _ rfl (HO.out.alloc _) ⟨wr.heap.size, 0, none⟩ 1 1 [.int .i64 (J : Int)] rfl rfl (World.news_of_block (World.alloc_heap_new _ _)) (by intro u hu; rw [List.mem_singleton.1 hu]; rfl) (by unfold maxLen; omega) (by omega) (by simp; omega) ?_; intro v' w1 hown' hgrow _; obtain ⟨q6, d6, rfl⟩ := owns_slice hown'; have hx1 := ((HR.out.1.below ((Below.refl _ _).alloc (Nat.le_refl _) _)).keeps (keeps_grown hgrow) (fun e => by have := (HO.out.lt y e.symm).1; omega)); obtain ⟨g0, g1, g2, g3⟩ := hx1.cells; have gf := hx1.free 3; have XX := Lib.hid (And.intro hown' (And.intro hgrow hx1)); clear hown' hgrow hx1)
                  have hs2 := XX.out.2.2.set3 q6 (m + 1) d6
                  have hk3 : Keeps (fun q => q = y) w1 (w1.setCell ⟨y, 3, none⟩ (.slice q6 (m + 1) d6)) := Keeps.setCell _ (S := fun q => q = y) (p := ⟨y, 3, none⟩) rfl _
                  have HX2 := Lib.hid (show SBlk (w1.setCell ⟨y, 3, none⟩ (.slice q6 (m + 1) d6)) y k g (some ⟨z, 0, none⟩) k cap q6 (m + 1) d6 ∧ RdR (w1.setCell ⟨y, 3, none⟩ (.slice q6 (m + 1) d6)) B (st.1, st.2 ++ List.replicate (min (o + 1) (4096 - L)) (J : Int)) vs (some ⟨z, 0, none⟩) k cap q6 (m + 1) d6 from ⟨hs2, by
                    rw [HMN.out, List.replicate_succ', ← List.append_assoc]
                    exact (((HR.out.2.below ((Below.refl _ _).alloc (Nat.le_refl _) _)).pick rfl XX.out.1 XX.out.2.1).keeps hk3 (fun k hk e => by omega))⟩)
                  have HB2 := Lib.hid (show Below y w0 (w1.setCell ⟨y, 3, none⟩ (.slice q6 (m + 1) d6)) ∧ B ≤ (w1.setCell ⟨y, 3, none⟩ (.slice q6 (m + 1) d6)).heap.size from by
                    have h1 := XX.out.2.1
                    have h2 := h1.size
                    refine ⟨((HB.out.1.alloc (by omega) _).grown h1 (by simp; omega) (fun r hr => by have := (HO.out.lt r hr).1; omega)).setCell (p := ⟨y, 3, none⟩) (Nat.le_refl _) _, ?_⟩
                    simp only [World.size_setCell]
                    rw [World.size_alloc] at h2; omega)
                  clear XX hs2 hk3 g0 g1 g2 g3 gf h00 h01 h02 h03
                  go_roundw
                  case rel => exact ⟨o + 1, q6, m + 1, d6, by omega, by go_num, by omega, HX2, HB2⟩
                  case measure => simp [intOf]; omega
                · have hmn : min (o + 1) (4096 - L) = min o (4096 - L) := by omega
                  have HX2 := Lib.hid (show SBlk wr y k g (some ⟨z, 0, none⟩) k cap q m d2 ∧ RdR wr B (st.1, st.2 ++ List.replicate (min (o + 1) (4096 - L)) (J : Int)) vs (some ⟨z, 0, none⟩) k cap q m d2 from ⟨HR.out.1, by rw [hmn]; exact HR.out.2⟩)
                  clear hmn hml
                  go_wp2
                  clear h00 h01 h02 h03
                  go_roundw
                  case rel => exact ⟨o + 1, q, m, d2, by omega, by go_num, hm4, HX2, HB⟩
                  case measure => simp [intOf]; omega
              · obtain rfl : o = G + 1 := by omega
                have HN := Lib.hid (show T = tot (pickS k x st).1 ∧ Inv k (pickS k x st) ∧ rd k (ws.drop (i + 1)) (pickS k x st) = rd k ws.tail (List.replicate k [], []) from ⟨HI.out.1, HI.out.2.1.pick hc1 x, by
                  rw [← HI.out.2.2, HDR.out, rd_pick k x _ st HJK.out.2.1.symm]⟩)
                have HR2 := Lib.hid (show SBlk wr y k g (some ⟨z, 0, none⟩) k cap q m d2 ∧ RdR wr B (pickS k x st) vs (some ⟨z, 0, none⟩) k cap q m d2 from ⟨HR.out.1, by
                  have h1 := HR.out.2
                  rw [HL.out, HJK.out.1, HJK.out.2.2] at h1
                  exact h1⟩)
                clear hml
                go_wp2
                go_roundw
                case rel => exact ⟨i + 1, T, _, vs, z, cap, q, m, d2, by go_num, rfl, by omega, by omega, hT64, hm4, HN, HR2, HB⟩
                case measure => simp [intOf]; omega
            --END picks
          · --BEGIN pass
            have HN := Lib.hid (show T = tot st.1 ∧ Inv k st ∧ rd k (ws.drop (i + 1)) st = rd k ws.tail (List.replicate k [], []) from ⟨HI.out.1, HI.out.2.1, by
              rw [← HI.out.2.2, HDR.out, rd_pass k x _ st (by rw [← HJK.out.2.1]; exact hn1) (by rw [← HJK.out.2.1]; exact hn2)]⟩)
            clear hx hn1 hn2
            go_wp2
            go_roundw
            case rel => exact ⟨i + 1, T, st, vs, z, cap, q, m, d2, by go_num, rfl, by omega, by omega, hT64, hm4, HN, HR1, HB1⟩
            case measure => simp [intOf]; omega
            --END pass
        · --BEGIN end
          have hdn : ws.drop i = [] := List.drop_eq_nil_of_le (by have := HLEN.out; omega)
          obtain ⟨h00, h01, h02, h03⟩ := HR.out.1.cells
          have hsb : SBlk wr s0 0 0 none 0 0 none 0 0 := (HB.out.1.block s0 hsy).trans HR0.out
          obtain ⟨hq0, hq1, hq2, hq3⟩ := hsb.cells
          have hqf0 := hsb.free 0
          have hqf1 := hsb.free 1
          have hqf2 := hsb.free 2
          have hqf3 := hsb.free 3
          obtain ⟨x5, hx5⟩ : ∃ x : World, x = (((wr.setCell ⟨s0, 0, none⟩ (.int .i64 (k : Int))).setCell ⟨s0, 1, none⟩ (.int .i64 (g : Int))).setCell ⟨s0, 2, none⟩ (.slice (some ⟨z, 0, none⟩) k cap)).setCell ⟨s0, 3, none⟩ (.slice q m d2) := ⟨_, rfl⟩
          have hxb : SBlk x5 s0 k g (some ⟨z, 0, none⟩) k cap q m d2 := by rw [hx5]; exact ((((hsb.set0 _).set1 _).set2 _ _ _).set3 _ _ _)
          have k0 : ∀ (X : World) (i : Nat) (v : Value), Keeps (fun q => q = s0) X (X.setCell ⟨s0, i, none⟩ v) := fun X i v => Keeps.setCell X (S := fun q => q = s0) (p := ⟨s0, i, none⟩) rfl v
          have hxk : Keeps (fun q => q = s0) wr x5 := by rw [hx5]; exact ((k0 _ 0 _).trans (k0 _ 1 _)).trans ((k0 _ 2 _).trans (k0 _ 3 _))
          have HX5 := Lib.hid hx5
          have HX := Lib.hid (And.intro hxb hxk)
          have HD := Lib.hid hdn
          clear k0 hx5 hsb hxb hxk hdn
          go_wp2
          rw [← HX5.out]
          obtain ⟨hd0, hd1, hd2, hd3⟩ := HX.out.1.cells
          have HF := Lib.hid (show (∃ v, Ending.returned (.agg #[.int .i64 (k : Int), .int .i64 (g : Int), .slice (some ⟨z, 0, none⟩) k cap, .slice q m d2]) = .returned v ∧ Built W.heap.size (readL ws) v x5) ∧ Below W.heap.size W x5 from by
            have hrd := HI.out.2.2
            rw [HD.out, rd_nil] at hrd
            rw [HRES.out, ← hrd, ← HE.out.2.1]
            refine ⟨⟨_, rfl, vs, _, _, _, _, _, _, rfl, ?_⟩, ?_⟩
            · have h1 := HR.out.2.keeps HX.out.2 (fun k hk e => by omega)
              exact ⟨h1.out.mono (by omega), h1.len, fun j h2 h3 => (h1.own j h2 h3).mono (by omega), h1.apart, h1.picks.mono (by omega), h1.plen⟩
            · have h1 := HBW.out
              rw [← HE.out.2.1] at h1
              exact (h1.trans (HB.out.1.mono (by omega))).trans (HX.out.2.below (by have := HB.out.2; omega) (fun q hq => Nat.le_of_eq hq.symm)))
          refine bodyPost_ret (v := .agg #[.int .i64 (k : Int), .int .i64 (g : Int), .slice (some ⟨z, 0, none⟩) k cap, .slice q m d2]) (by simp [results, Tryd.results22, go_sem, hd0, hd1, hd2, hd3]) rfl HF.out
          --END end

end Go.Proofs.YtjgdkfgcfningaaDoor
