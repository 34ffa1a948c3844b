/-
  Read, of package script: the script that words say.
  Conditions: at most 2 to the power 40 words; the package's table of parts is as it was laid.
-/
import Derived.Test.YtjgdkfgcfningaaDoorSRead
namespace Go.Proofs.YtjgdkfgcfningaaDoor
open Go.RowKit Go.Shelf
attribute [local go_sem] Oper.semAt_some

/-- The table of what reads a record. -/
def FBox (w : World) (y r : Nat) : Prop := w.heap[y]? = some (.cells #[Value.nilFunc, .func (.func 35) #[.pointer (some ⟨r, 0, none⟩)] #[], .func (.func 36) #[.pointer (some ⟨r, 0, none⟩)] #[], Value.nilFunc] 71 (0, 0))
theorem FBox.lt {w : World} {y r : Nat} (h : FBox w y r) : y < w.heap.size := (Array.getElem?_eq_some_iff.1 h).1
theorem FBox.cells {w : World} {y r : Nat} (h : FBox w y r) : w.cell? ⟨y, 0, none⟩ = some Value.nilFunc ∧ w.cell? ⟨y, 1, none⟩ = some (.func (.func 35) #[.pointer (some ⟨r, 0, none⟩)] #[]) ∧ w.cell? ⟨y, 2, none⟩ = some (.func (.func 36) #[.pointer (some ⟨r, 0, none⟩)] #[]) ∧ w.cell? ⟨y, 3, none⟩ = some Value.nilFunc := by
  have h' : w.heap[y]? = _ := h
  exact ⟨by simp [World.cell?, h'], by simp [World.cell?, h'], by simp [World.cell?, h'], by simp [World.cell?, h']⟩
theorem FBox.fars {w w' : World} {y r : Nat} (h : FBox w y r) (hf : Fars w w') : FBox w' y r := hf _ (by decide) (by decide) (by decide) (by decide) _ _ _ h
/-- How many words are left. -/
noncomputable def leftN (r : Nat) (w : World) : Nat := match w.cell? ⟨r, 4, none⟩ with
  | some (.slice _ n _) => n
  | _ => 0
theorem Rdr.leftN {w : World} {r z c g : Nat} {st : RdS} {ws : List Nat} (h : Rdr w r z c g st ws) : leftN r w = ws.length := by
  obtain ⟨vs, vp, p, n, d, h⟩ := h
  unfold Go.Proofs.YtjgdkfgcfningaaDoor.leftN
  rw [h.box.cells.1.2.2.2.2]
  exact h.left.len
/-- next, over all that the reader has. -/
theorem rnext_no (r z c g : Nat) (st : RdS) (W : World) (h : Rdr W r z c g st []) : Calls Tryd.prog 37 #[.pointer (some ⟨r, 0, none⟩)] W fun e w' => e = .returned (.tuple #[.int .u64 0, .bool false]) ∧ w' = W := by
  obtain ⟨vs, vp, p, n, d, h⟩ := h
  have hn := h.left.len
  simp only [List.length_nil] at hn
  subst hn
  exact next_no r d p _ _ _ _ W h.box
theorem rnext_yes (r z c g x : Nat) (ws : List Nat) (st : RdS) (W : World) (h : Rdr W r z c g st (x :: ws)) : Calls Tryd.prog 37 #[.pointer (some ⟨r, 0, none⟩)] W fun e w' => e = .returned (.tuple #[.int .u64 (x : Int), .bool true]) ∧ Rdr w' r z c g st ws ∧ Below r W w' ∧ Fars W w' := by
  obtain ⟨vs, vp, p, n, d, h⟩ := h
  refine (next_yes r n d x p ws _ _ _ _ W h.box h.left).mono ?_
  rintro e w' ⟨rfl, ⟨p', h1, h2⟩, h3, h4⟩
  exact ⟨rfl, ⟨_, _, _, _, _, h.left' h3 h1 h2⟩, h4, fun T hT _ _ _ => Far.keep h3 h.box hT⟩
/-- call, whatever is left. -/
theorem rcall (r z c g h : Nat) (st : RdS) (ws : List Nat) (W : World) (H : Rdr W r z c g st ws) (hh : h < 18446744073709551616) (hc1 : 1 ≤ c) (hc8 : c ≤ 8) (hI : Inv c st) (hT : Tab W) (hr0 : 0 < r) :
    Calls Tryd.prog 35 #[.pointer (some ⟨r, 0, none⟩), .int .u64 (h : Int)] W fun e w' => e = .returned (.tuple #[]) ∧ Rdr w' r z c g (if 5 ≤ ws.length then callS c h (callAt ws) st else st) (if 5 ≤ ws.length then ws.drop 5 else ws) ∧ Below r W w' ∧ Fars W w' := by
  by_cases h5 : 5 ≤ ws.length
  · rw [if_pos h5, if_pos h5]
    by_cases ht : tot st.1 < 64
    · refine (call_more r z c g h st ws W H hh h5 hc1 hc8 hI.1 ht hT hr0).mono fun e w' hh => ?_
      unfold callS
      rw [if_pos ht]; exact hh
    · refine (call_full r z c g h st ws W H h5 hc8 hI.1 (by omega) hI.2.1).mono fun e w' hh => ?_
      unfold callS
      rw [if_neg ht]; exact hh
  · rw [if_neg h5, if_neg h5]
    refine (call_short r z c g h st ws W H (by omega)).mono ?_
    rintro e w' ⟨rfl, rfl⟩
    exact ⟨rfl, H, Below.refl _ _, Fars.below (Below.refl _ _)⟩
/-- A store into a block of cells. -/
theorem store_at {w : World} {b i : Nat} {cs : Array Value} {T : TypeId} (h : w.heap[b]? = some (.cells cs T (0, 0))) (hi : i < cs.size) {v : Value} (hv : v.oneCell' = true) : (store ⟨b, i, none⟩ v).run Tryd.prog w = .ok () (w.setCell ⟨b, i, none⟩ v) := by
  have hc : w.cell? ⟨b, i, none⟩ = some cs[i] := by simp [World.cell?, h, hi]
  have hf : w.frozen? ⟨b, i, none⟩ = false := by simp [World.frozen?, h]
  rw [run_store _ _ _ _ _ hv, hc]
  simp [hf]
/-- Four cells are filled, one behind the other. -/
theorem fill4 {w : World} {b : Nat} {T : TypeId} {a0 a1 a2 a3 v0 v1 v2 v3 : Value} (h : w.heap[b]? = some (.cells #[a0, a1, a2, a3] T (0, 0))) (h0 : v0.oneCell' = true) (h1 : v1.oneCell' = true) (h2 : v2.oneCell' = true) (h3 : v3.oneCell' = true) :
    ∃ w1 w2 w3 w4 : World, (store ⟨b, 0, none⟩ v0).run Tryd.prog w = .ok () w1 ∧ (store ⟨b, 1, none⟩ v1).run Tryd.prog w1 = .ok () w2 ∧ (store ⟨b, 2, none⟩ v2).run Tryd.prog w2 = .ok () w3 ∧ (store ⟨b, 3, none⟩ v3).run Tryd.prog w3 = .ok () w4 ∧
      w4.heap[b]? = some (.cells #[v0, v1, v2, v3] T (0, 0)) ∧ Keeps (fun q => q = b) w w4 := by
  have e1 : (w.setCell ⟨b, 0, none⟩ v0).heap[b]? = some (.cells #[v0, a1, a2, a3] T (0, 0)) := by rw [heap_setCell_same w b 0 _ _ v0 h]; rfl
  have e2 : ((w.setCell ⟨b, 0, none⟩ v0).setCell ⟨b, 1, none⟩ v1).heap[b]? = some (.cells #[v0, v1, a2, a3] T (0, 0)) := by rw [heap_setCell_same _ b 1 _ _ v1 e1]; rfl
  have e3 : (((w.setCell ⟨b, 0, none⟩ v0).setCell ⟨b, 1, none⟩ v1).setCell ⟨b, 2, none⟩ v2).heap[b]? = some (.cells #[v0, v1, v2, a3] T (0, 0)) := by rw [heap_setCell_same _ b 2 _ _ v2 e2]; rfl
  have e4 : ((((w.setCell ⟨b, 0, none⟩ v0).setCell ⟨b, 1, none⟩ v1).setCell ⟨b, 2, none⟩ v2).setCell ⟨b, 3, none⟩ v3).heap[b]? = some (.cells #[v0, v1, v2, v3] T (0, 0)) := by rw [heap_setCell_same _ b 3 _ _ v3 e3]; rfl
  have k0 : ∀ (X : World) (i : Nat) (v : Value), Keeps (fun q => q = b) X (X.setCell ⟨b, i, none⟩ v) := fun X i v => Keeps.setCell X (S := fun q => q = b) (p := ⟨b, i, none⟩) rfl v
  exact ⟨_, _, _, _, store_at h (by simp) h0, store_at e1 (by simp) h1, store_at e2 (by simp) h2, store_at e3 (by simp) h3, e4, ((k0 _ 0 v0).trans (k0 _ 1 v1)).trans ((k0 _ 2 v2).trans (k0 _ 3 v3))⟩
/-- What Read answers. -/
def Gives (B : Nat) (s : SM) (e : Ending) (w' : World) : Prop := ∃ z vs vp, e = .returned (.agg #[.int .i64 s.c, .int .i64 s.g, .slice (some ⟨z, 0, none⟩) s.ls.length s.ls.length, vp]) ∧ RowsC w' z vs s.ls ∧ w'.ownsRow (z + 1) 3 1 vp s.ps.length (s.ps.map (Value.int .i64)) ∧ B ≤ z

set_option maxRecDepth 100000 in
set_option maxHeartbeats 8000000 in
theorem read_c (p : Option Addr) (n d : Nat) (ws : List Nat) (W : World) (h : WAt W p n d ws) (hT : Tab W) :
    Calls Tryd.prog 21 #[.slice p n d] W fun e w' => Gives W.heap.size (readL ws) e w' ∧ Below W.heap.size W w' := by
  obtain ⟨f, hf⟩ : ∃ f, f = ws.headD 0 := ⟨_, rfl⟩
  obtain ⟨hc1, hc8⟩ := cpusN_le f
  obtain ⟨c, hc⟩ : ∃ c, c = cpusN f := ⟨_, rfl⟩
  obtain ⟨g, hg⟩ : ∃ g, g = pagesN f := ⟨_, rfl⟩
  rw [← hc] at hc1 hc8
  obtain ⟨wS, hwS⟩ : ∃ w : World, w = W.alloc (.cells #[.int .i64 0, .int .i64 0, .slice none 0 0, .slice none 0 0] 25) := ⟨_, rfl⟩
  have hbS : Below W.heap.size W wS := by rw [hwS]; exact (Below.refl _ _).alloc (Nat.le_refl _) _
  have hsS : wS.heap.size = W.heap.size + 1 := by rw [hwS]; simp
  have HBG := Lib.hid (begin_c p n d ws wS (h.below hbS) (hT.below hbS))
  rw [← hf, ← hc, ← hg] at HBG
  have HSB := Lib.hid (show wS.heap[W.heap.size]? = some (.cells #[.int .i64 0, .int .i64 0, .slice none 0 0, .slice none 0 0] 25 (0, 0)) by rw [hwS]; exact World.alloc_heap_new _ _)
  obtain ⟨r, hr⟩ : ∃ r, r = wS.heap.size := ⟨_, rfl⟩
  rw [← hr] at HBG
  have hr0 : 0 < r := by omega
  have hWr : W.heap.size < r := by omega
  have HBS := Lib.hid hbS
  have HTW := Lib.hid hT
  have HWS := Lib.hid hwS
  have HBIG := Lib.hid h.big
  have HRES := Lib.hid (show readL ws = ⟨(c : Int), (g : Int), (rd c ws.tail (List.replicate c [], [])).1, (rd c ws.tail (List.replicate c [], [])).2⟩ by rw [hc, hg, hf]; rfl)
  obtain ⟨s0, hs0⟩ : ∃ s, s = W.heap.size := ⟨_, rfl⟩
  rw [← hs0] at HSB hWr
  have HS0 := Lib.hid hs0
  have HR0 := Lib.hid hr
  clear hbS hT hwS hf hc hg h hsS hs0 hr
  go_enter Tryd.func21, Tryd.ntmps21
  go_wp2_with fail
  refine (wpIn_wide (n := 9)).1 (wpIn_scope ((wpIn_wide (n := 9)).2 ?_))
  go_wp2_with fail
  rw [← HWS.out, ← HS0.out]
  refine HBG.out.mono ?_
  rintro e w1 ⟨rfl, ⟨z, hR1⟩, hb1⟩
  have HR1 := Lib.hid hR1
  have HB1 := Lib.hid (show Below r wS w1 from hb1)
  have hr1 : r < w1.heap.size := by obtain ⟨_, _, _, _, _, h⟩ := hR1; exact h.box.lt
  clear hR1 hb1 HBG
  have hnew := World.alloc_heap_new w1 (.cells #[Value.nilFunc, Value.nilFunc, Value.nilFunc, Value.nilFunc] 71)
  obtain ⟨x1, x2, x3, x4, hx1, hx2, hx3, hx4, hxb, hxk⟩ := fill4 (v0 := Value.nilFunc) (v1 := .func (.func 35) #[.pointer (some ⟨r, 0, none⟩)] #[]) (v2 := .func (.func 36) #[.pointer (some ⟨r, 0, none⟩)] #[]) (v3 := Value.nilFunc) hnew rfl rfl rfl rfl
  have hbx : Below w1.heap.size w1 x4 := ((Below.refl _ w1).alloc (Nat.le_refl _) _).trans (hxk.below (by simp) (fun q hq => Nat.le_of_eq hq.symm))
  have HFB := Lib.hid (show FBox x4 w1.heap.size r from hxb)
  have HRX := Lib.hid (HR1.out.below hbx)
  have HBX := Lib.hid (HB1.out.trans (hbx.mono (Nat.le_of_lt hr1)))
  have HFX := Lib.hid (Fars.below hbx)
  clear hnew hxb hxk hbx
  go_wp2_with fail
  refine wp_label ?_
  go_wp2
  clear hx1 hx2 hx3 hx4
  have hWx : W.heap.size ≤ r := by rw [← HS0.out]; omega
  have HTAB := Lib.hid (show ∀ X, Below r wS X → Tab X from fun X hX => HTW.out.old (HBS.out.trans (hX.mono hWx)) HTW.out.lt)
  have hneq0 : ∀ w : World, (binOp BinOp.neq 70 .nilFunc .nilFunc).run Tryd.prog w = .ok (.bool false) w := fun _ => by kernel_rfl
  have hneq1 : ∀ w : World, (binOp BinOp.neq 70 (.func (.func 35) #[.pointer (some ⟨r, 0, none⟩)] #[]) .nilFunc).run Tryd.prog w = .ok (.bool true) w := fun _ => by kernel_rfl
  have hneq2 : ∀ w : World, (binOp BinOp.neq 70 (.func (.func 36) #[.pointer (some ⟨r, 0, none⟩)] #[]) .nilFunc).run Tryd.prog w = .ok (.bool true) w := fun _ => by kernel_rfl
  go_loopw [5] (fun _ wr => ∃ (st : RdS) (l : List Nat), Hid (Rdr wr r z c g st l ∧ Below r wS wr ∧ FBox wr w1.heap.size r ∧ Inv c st ∧ rd c l st = rd c ws.tail (List.replicate c [], []) ∧ ∀ x ∈ l, x < 18446744073709551616)) (fun _ w => leftN r w)
  case atStart => exact ⟨_, _, Lib.hid ⟨HRX.out, HBX.out, HFB.out, inv_start c, rfl, fun x hx => HBIG.out x (List.mem_of_mem_tail hx)⟩⟩
  case round =>
    obtain ⟨st, l, HI⟩ := hrel
    cases l with
    | nil =>
      have HG := Lib.hid (show Calls Tryd.prog 38 #[.int .u64 0, .int .i64 2] wr fun e w' => e = .returned (.int .i64 0) ∧ Below wr.heap.size wr w' from part_c 0 (by decide) 2 (by omega) wr (HTAB.out _ HI.out.2.1))
      have HNX := Lib.hid (rnext_no r z c g st wr HI.out.1)
      go_wp2_with fail
      refine HNX.out.mono ?_
      rintro e w2 ⟨rfl, rfl⟩
      go_wp2_with fail
      refine HG.out.mono ?_
      rintro e w3 ⟨rfl, hb3⟩
      have hfb := (HI.out.2.2.1.fars (Fars.below hb3)).cells.1
      obtain ⟨vs, vp, p', n', d', hR⟩ := HI.out.1.below hb3
      have hr3 : r < w2.heap.size := by obtain ⟨_, _, _, _, _, h⟩ := HI.out.1; exact h.box.lt
      have hBB := HI.out.2.1.trans (hb3.mono (Nat.le_of_lt hr3))
      have HI2 := Lib.hid HI.out.2.2.2
      have HR := Lib.hid hR
      obtain ⟨⟨h0, h1, h2, h3, h4⟩, -⟩ := hR.box.cells
      have hsb : w3.heap[s0]? = some (.cells #[.int .i64 0, .int .i64 0, .slice none 0 0, .slice none 0 0] 25 (0, 0)) := (hBB.block s0 hWr).trans HSB.out
      obtain ⟨pv, cv, rfl⟩ := owns_slice hR.picks
      have hq0 : w3.cell? ⟨s0, 0, none⟩ = some (.int .i64 0) := by simp [World.cell?, hsb]
      have hq1 : w3.cell? ⟨s0, 1, none⟩ = some (.int .i64 0) := by simp [World.cell?, hsb]
      have hq2 : w3.cell? ⟨s0, 2, none⟩ = some (.slice none 0 0) := by simp [World.cell?, hsb]
      have hq3 : w3.cell? ⟨s0, 3, none⟩ = some (.slice none 0 0) := by simp [World.cell?, hsb]
      have hqf : ∀ i, w3.frozen? ⟨s0, i, none⟩ = false := fun i => by simp [World.frozen?, hsb]
      have hqf0 := hqf 0
      have hqf1 := hqf 1
      have hqf2 := hqf 2
      have hqf3 := hqf 3
      obtain ⟨x5, hx5⟩ : ∃ x : World, x = (((w3.setCell ⟨s0, 0, none⟩ (.int .i64 (c : Int))).setCell ⟨s0, 1, none⟩ (.int .i64 (g : Int))).setCell ⟨s0, 2, none⟩ (.slice (some ⟨z, 0, none⟩) c c)).setCell ⟨s0, 3, none⟩ (.slice pv st.2.length cv) := ⟨_, rfl⟩
      have e1 : (w3.setCell ⟨s0, 0, none⟩ (.int .i64 (c : Int))).heap[s0]? = some (.cells #[.int .i64 (c : Int), .int .i64 0, .slice none 0 0, .slice none 0 0] 25 (0, 0)) := by rw [heap_setCell_same w3 s0 0 _ _ _ hsb]; rfl
      have e2 : ((w3.setCell ⟨s0, 0, none⟩ (.int .i64 (c : Int))).setCell ⟨s0, 1, none⟩ (.int .i64 (g : Int))).heap[s0]? = some (.cells #[.int .i64 (c : Int), .int .i64 (g : Int), .slice none 0 0, .slice none 0 0] 25 (0, 0)) := by rw [heap_setCell_same _ s0 1 _ _ _ e1]; rfl
      have e3 : (((w3.setCell ⟨s0, 0, none⟩ (.int .i64 (c : Int))).setCell ⟨s0, 1, none⟩ (.int .i64 (g : Int))).setCell ⟨s0, 2, none⟩ (.slice (some ⟨z, 0, none⟩) c c)).heap[s0]? = some (.cells #[.int .i64 (c : Int), .int .i64 (g : Int), .slice (some ⟨z, 0, none⟩) c c, .slice none 0 0] 25 (0, 0)) := by rw [heap_setCell_same _ s0 2 _ _ _ e2]; rfl
      have hxb : x5.heap[s0]? = some (.cells #[.int .i64 (c : Int), .int .i64 (g : Int), .slice (some ⟨z, 0, none⟩) c c, .slice pv st.2.length cv] 25 (0, 0)) := by rw [hx5, heap_setCell_same _ s0 3 _ _ _ e3]; rfl
      have k0 : ∀ (X : World) (i : Nat) (v : Value), Keeps (fun q => q = s0) X (X.setCell ⟨s0, i, none⟩ v) := fun X i v => Keeps.setCell X (S := fun q => q = s0) (p := ⟨s0, i, none⟩) rfl v
      have hxk : Keeps (fun q => q = s0) w3 x5 := by rw [hx5]; exact ((k0 _ 0 _).trans (k0 _ 1 _)).trans ((k0 _ 2 _).trans (k0 _ 3 _))
      have HX5 := Lib.hid hx5
      clear e1 e2 e3 k0 hx5 hqf
      have hWs : s0 < r := hWr
      have HX := Lib.hid (And.intro hxb hxk)
      have HB3 := Lib.hid hBB
      clear hxb hxk hBB hR h4 hsb hb3
      go_wp2
      rw [← HX5.out]
      have hd0 : x5.cell? ⟨s0, 0, none⟩ = some (.int .i64 (c : Int)) := by simp [World.cell?, HX.out.1]
      have hd1 : x5.cell? ⟨s0, 1, none⟩ = some (.int .i64 (g : Int)) := by simp [World.cell?, HX.out.1]
      have hd2 : x5.cell? ⟨s0, 2, none⟩ = some (.slice (some ⟨z, 0, none⟩) c c) := by simp [World.cell?, HX.out.1]
      have hd3 : x5.cell? ⟨s0, 3, none⟩ = some (.slice pv st.2.length cv) := by simp [World.cell?, HX.out.1]
      have hrz := HR.out.lt
      have hF : Gives W.heap.size (readL ws) (.returned (.agg #[.int .i64 (c : Int), .int .i64 (g : Int), .slice (some ⟨z, 0, none⟩) c c, .slice pv st.2.length cv])) x5 ∧ Below W.heap.size W x5 := by
        have hrd := HI2.out.2.1
        rw [rd_nil] at hrd
        have hcl := HI2.out.1.1
        rw [HRES.out, ← hrd]
        refine ⟨⟨z, vs, _, by simp only; rw [hcl], HR.out.rows.keeps HX.out.2 (by omega) (fun j hj q hq e => ?_), HX.out.2.row HR.out.picks (fun q hq e => ?_), ?_⟩, ?_⟩
        · have h2 : j < st.1.length := by rw [← HR.out.rows.len]; exact hj
          have := ((HR.out.rows.own j hj h2).lt _ hq).1
          omega
        · have := (HR.out.picks.lt _ hq).1; omega
        · rw [← HS0.out]; omega
        · exact (HBS.out.trans (HB3.out.mono hWx)).trans (HX.out.2.below (by have := HBS.out.size; have := HB3.out.size; omega) (fun q hq => by rw [← HS0.out, hq]; exact Nat.le_refl _))
      have HF := Lib.hid hF
      clear hF
      rw [Exit.noGoto_ret]
      exact bodyPost_ret (v := .agg #[.int .i64 (c : Int), .int .i64 (g : Int), .slice (some ⟨z, 0, none⟩) c c, .slice pv st.2.length cv]) (by simp [results, Tryd.results21, go_sem, hd0, hd1, hd2, hd3]) rfl HF.out
    | cons x l =>
      have hxb := HI.out.2.2.2.2.2 x (by simp)
      have HNX := Lib.hid (rnext_yes r z c g x l st wr HI.out.1)
      have HME := Lib.hid (HI.out.1.leftN)
      go_wp2_with fail
      refine HNX.out.mono ?_
      rintro e w2 ⟨rfl, hR2, hB2, hF2⟩
      have HB2 := Lib.hid (HI.out.2.1.trans hB2)
      have HR2 := Lib.hid hR2
      have HF2 := Lib.hid (HI.out.2.2.1.fars hF2)
      have hr2 : r < w2.heap.size := by obtain ⟨_, _, _, _, _, h⟩ := hR2; exact h.box.lt
      have hk4 : kindN x < 4 := getN_lt x 0 2
      obtain ⟨k, hk⟩ : ∃ k, k = kindN x := ⟨_, rfl⟩
      have HG := Lib.hid (show Calls Tryd.prog 38 #[.int .u64 (x : Int), .int .i64 2] w2 fun e w' => e = .returned (.int .i64 (k : Nat)) ∧ Below w2.heap.size w2 w' from by rw [hk]; exact part_c x hxb 2 (by omega) w2 (HTAB.out _ HB2.out))
      rw [← hk] at hk4
      have HK := Lib.hid hk
      clear hR2 hB2 hF2 HNX hk
      go_wp2_with fail
      refine HG.out.mono ?_
      rintro e w3 ⟨rfl, hb3⟩
      have HB3 := Lib.hid (HB2.out.trans (hb3.mono (Nat.le_of_lt hr2)))
      have HR3 := Lib.hid (HR2.out.below hb3)
      have HF3 := Lib.hid (HF2.out.fars (Fars.below hb3))
      obtain ⟨hf0, hf1, hf2, hf3⟩ := HF3.out.cells
      clear hb3 HR2 HB2 HF2 HG
      have hkk : k = 0 ∨ k = 1 ∨ k = 2 ∨ k = 3 := by omega
      rcases hkk with rfl | rfl | rfl | rfl
      · have HN := Lib.hid (show Rdr w3 r z c g st l ∧ Below r wS w3 ∧ FBox w3 w1.heap.size r ∧ Inv c st ∧ rd c l st = rd c ws.tail (List.replicate c [], []) ∧ ∀ x ∈ l, x < 18446744073709551616 from ⟨HR3.out, HB3.out, HF3.out, HI.out.2.2.2.1, by rw [← HI.out.2.2.2.2.1, rd_pass c x l st (by rw [← HK.out]; decide) (by rw [← HK.out]; decide)], fun y hy => HI.out.2.2.2.2.2 y (List.mem_cons_of_mem _ hy)⟩)
        go_wp2
        go_roundw
        case rel => exact ⟨st, l, HN⟩
        case measure => rw [HN.out.1.leftN, HME.out]; simp
      · have HCL := Lib.hid (rcall r z c g x st l w3 HR3.out hxb hc1 hc8 HI.out.2.2.2.1 (HTAB.out _ HB3.out) hr0)
        go_wp2_with fail
        refine HCL.out.mono ?_
        rintro e w4 ⟨rfl, hR4, hB4, hF4⟩
        have HN := Lib.hid (show ∃ st' l', l'.length ≤ l.length ∧ (Rdr w4 r z c g st' l' ∧ Below r wS w4 ∧ FBox w4 w1.heap.size r ∧ Inv c st' ∧ rd c l' st' = rd c ws.tail (List.replicate c [], []) ∧ ∀ x ∈ l', x < 18446744073709551616) from by
          refine ⟨_, _, ?_, hR4, HB3.out.trans hB4, HF3.out.fars hF4, ?_, ?_, ?_⟩
          · split
            · rw [List.length_drop]; omega
            · exact Nat.le_refl _
          · split
            · exact HI.out.2.2.2.1.call hc1 x _
            · exact HI.out.2.2.2.1
          · rw [← HI.out.2.2.2.2.1]
            by_cases h5 : 5 ≤ l.length
            · rw [if_pos h5, if_pos h5, rd_call c x l st HK.out.symm h5]
            · rw [if_neg h5, if_neg h5, rd_short c x l st HK.out.symm (by omega)]
          · intro y hy
            split at hy
            · exact HI.out.2.2.2.2.2 y (List.mem_cons_of_mem _ (List.mem_of_mem_drop hy))
            · exact HI.out.2.2.2.2.2 y (List.mem_cons_of_mem _ hy))
        clear hR4 hB4 hF4 HCL
        go_wp2
        obtain ⟨st', l', hll, hN⟩ := HN.out
        have HN2 := Lib.hid hN
        clear hN
        go_roundw
        case rel => exact ⟨st', l', HN2⟩
        case measure => rw [HN2.out.1.leftN, HME.out]; simp; omega
      · have HCL := Lib.hid (picks_c r z c g x st l w3 HR3.out hxb hc1 hc8 HI.out.2.2.2.1.2.2.1 (HTAB.out _ HB3.out))
        go_wp2_with fail
        refine HCL.out.mono ?_
        rintro e w4 ⟨rfl, hR4, hB4, hF4⟩
        have HN := Lib.hid (show Rdr w4 r z c g (pickS c x st) l ∧ Below r wS w4 ∧ FBox w4 w1.heap.size r ∧ Inv c (pickS c x st) ∧ rd c l (pickS c x st) = rd c ws.tail (List.replicate c [], []) ∧ ∀ x ∈ l, x < 18446744073709551616 from ⟨hR4, HB3.out.trans hB4, HF3.out.fars hF4, HI.out.2.2.2.1.pick hc1 x, by rw [← HI.out.2.2.2.2.1, rd_pick c x l st HK.out.symm], fun y hy => HI.out.2.2.2.2.2 y (List.mem_cons_of_mem _ hy)⟩)
        clear hR4 hB4 hF4 HCL
        go_wp2
        go_roundw
        case rel => exact ⟨_, l, HN⟩
        case measure => rw [HN.out.1.leftN, HME.out]; simp
      · have HN := Lib.hid (show Rdr w3 r z c g st l ∧ Below r wS w3 ∧ FBox w3 w1.heap.size r ∧ Inv c st ∧ rd c l st = rd c ws.tail (List.replicate c [], []) ∧ ∀ x ∈ l, x < 18446744073709551616 from ⟨HR3.out, HB3.out, HF3.out, HI.out.2.2.2.1, by rw [← HI.out.2.2.2.2.1, rd_pass c x l st (by rw [← HK.out]; decide) (by rw [← HK.out]; decide)], fun y hy => HI.out.2.2.2.2.2 y (List.mem_cons_of_mem _ hy)⟩)
        go_wp2
        go_roundw
        case rel => exact ⟨st, l, HN⟩
        case measure => rw [HN.out.1.leftN, HME.out]; simp

end Go.Proofs.YtjgdkfgcfningaaDoor
