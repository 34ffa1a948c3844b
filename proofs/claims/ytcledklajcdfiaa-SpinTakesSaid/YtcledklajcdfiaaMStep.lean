/-
  memory.Step: what one access comes to; what was in memory stays.
  Conditions: the memory reads as these lists.
-/
import Derived.Test.YtcledklajcdfiaaMRun
namespace Go.Proofs.Ytcledklajcdfiaa
open Go.RowKit Go.Shelf

/-- What Step hands over. -/
def StepOk (B : Nat) (ls : List Bool) (r : List Int × Bool × (Int × Bool)) (e : Ending) (w' : World) : Prop :=
  ∃ gw cw gl cl, e = .returned (.tuple #[.agg #[.slice (some ⟨gw, 0, none⟩) r.1.length cw, .slice (some ⟨gl, 0, none⟩) ls.length cl, .bool r.2.1], .agg #[.int .u64 r.2.2.1, .bool r.2.2.2], .int .i64 0]) ∧
  w'.ownsRow B 22 1 (.slice (some ⟨gw, 0, none⟩) r.1.length cw) r.1.length (r.1.map (Value.int .u64)) ∧ w'.ownsRow B 4 1 (.slice (some ⟨gl, 0, none⟩) ls.length cl) ls.length (ls.map Value.bool)

theorem accs_one (W : World) (b : Nat) (k a o n : Int) (h0 : W.cell? ⟨b, 0, none⟩ = some (.int .i64 k)) (h1 : W.cell? ⟨b, 1, none⟩ = some (.int .i64 a)) (h2 : W.cell? ⟨b, 2, none⟩ = some (.int .u64 o)) (h3 : W.cell? ⟨b, 3, none⟩ = some (.int .u64 n)) :
    AccsAt W (.slice (some ⟨b, 0, none⟩) 1 1) [⟨k, a, o, n⟩] := by
  refine ⟨_, _, rfl, fun _ => ⟨b, 0, rfl, fun i hi => ?_⟩⟩
  have : i = 0 := by simp at hi; omega
  subst this
  exact ⟨h0, h1, h2, h3⟩

/-- Block z is a variable that holds an answer. -/
def GBox (W : World) (z : Nat) (x : Int) (d : Bool) : Prop := W.heap[z]? = some (.cells #[.int .u64 x, .bool d] 36 (0, 0))
theorem gbox_cells {W : World} {z : Nat} {x : Int} {d : Bool} (h : GBox W z x d) : (W.cell? ⟨z, 0, none⟩ = some (.int .u64 x) ∧ W.cell? ⟨z, 1, none⟩ = some (.bool d)) ∧ W.frozen? ⟨z, 0, none⟩ = false ∧ W.frozen? ⟨z, 1, none⟩ = false := by
  have h' : W.heap[z]? = _ := h
  simp [World.cell?, World.frozen?, h']
theorem GBox.lt {W : World} {z : Nat} {x : Int} {d : Bool} (h : GBox W z x d) : z < W.heap.size := (Array.getElem?_eq_some_iff.1 h).1
theorem GBox.below {W W' : World} {z : Nat} {x : Int} {d : Bool} (h : GBox W z x d) (hk : Below W.heap.size W W') : GBox W' z x d := (hk.block z h.lt).trans h
theorem GBox.keeps {S : Nat → Prop} {W W' : World} {z : Nat} {x : Int} {d : Bool} (h : GBox W z x d) (hk : Keeps S W W') (hz : ¬ S z) : GBox W' z x d := (hk.block z h.lt hz).trans h
theorem GBox.alloc {W : World} {z : Nat} {x : Int} {d : Bool} (h : GBox W z x d) (o : Obj) : GBox (W.alloc o) z x d := h.keeps (Keeps.alloc (fun _ => False) W o) (fun h => h)

set_option maxRecDepth 100000 in
set_option maxHeartbeats 4000000 in
theorem step_no (v : Value) (k a o n : Int) (ws : List Int) (ls : List Bool) (f : Bool) (W : World) (hv : MemAt W v ws ls f) (hw : ws.length ≤ 9223372036854775807) (c : Int) (hc : (rightB ws ls = false ∧ c = 120) ∨ (rightB ws ls = true ∧ kindB k = false ∧ c = 121)) :
    Calls Try.prog 65 #[v, .agg #[.int .i64 k, .int .i64 a, .int .u64 o, .int .u64 n]] W fun e w' => e = .returned (.tuple #[memZ, .agg #[.int .u64 0, .bool false], .int .i64 c]) ∧ Below W.heap.size W w' := by
  have hm := hv
  obtain ⟨vw, vl, rfl, ⟨pw, cw, rfl, hcw⟩, pl, cl, rfl, hcl⟩ := hv
  have HRUN : ∀ (W' : World) (b : Nat), Below W.heap.size W W' → AccsAt W' (.slice (some ⟨b, 0, none⟩) 1 1) [⟨k, a, o, n⟩] → Calls Try.prog 38 #[.agg #[.slice pw ws.length cw, .slice pl ls.length cl, .bool f], .slice (some ⟨b, 0, none⟩) 1 1] W' fun e w' => e = .returned (.tuple #[.agg #[.slice none 0 0, .slice none 0 0, .bool false], .slice none 0 0, .int .i64 c]) ∧ Below W'.heap.size W' w' := by
    intro W' b hb ha
    rcases hc with ⟨hr, rfl⟩ | ⟨hr, hk, rfl⟩
    · exact run_bad _ _ ws ls f W' (hm.below hb) hw hr ⟨_, _, _, rfl⟩
    · exact run_kind _ _ ws ls f [⟨k, a, o, n⟩] W' (hm.below hb) hw hr ha (by simp) (by simp [kindAll, hk])
  have hcne : (c != 0) = true := by rcases hc with ⟨_, rfl⟩ | ⟨_, _, rfl⟩ <;> decide
  clear hm hcw hcl hc
  obtain ⟨z, hz⟩ : ∃ z, z = W.heap.size := ⟨_, rfl⟩
  obtain ⟨wo, hwo⟩ : ∃ wo : World, wo = ((((W.alloc (.cells #[.slice pw ws.length cw, .slice pl ls.length cl, .bool f] 46)).alloc (.cells #[.int .i64 k, .int .i64 a, .int .u64 o, .int .u64 n] 31)).alloc (.cells #[.slice none 0 0, .slice none 0 0, .bool false] 46)).alloc (.cells #[.int .u64 0, .bool false] 36)).alloc (.cells #[.int .i64 k, .int .i64 a, .int .u64 o, .int .u64 n] 31) := ⟨_, rfl⟩
  have hB : Below W.heap.size W wo := by rw [hwo]; exact (((((Below.refl _ _).alloc (Nat.le_refl _) _).alloc (by simp) _).alloc (by simp; omega) _).alloc (by simp; omega) _).alloc (by simp; omega) _
  have HZ := Lib.hid (show MBox wo z (.slice pw ws.length cw) (.slice pl ls.length cl) f by rw [hwo, hz]; exact ((((MBox.new _ _ _ _).alloc _).alloc _).alloc _).alloc _)
  have HR := Lib.hid (show MBox wo (z + 1 + 1) (.slice none 0 0) (.slice none 0 0) false by
    have := MBox.new ((W.alloc (.cells #[.slice pw ws.length cw, .slice pl ls.length cl, .bool f] 46)).alloc (.cells #[.int .i64 k, .int .i64 a, .int .u64 o, .int .u64 n] 31)) (.slice none 0 0) (.slice none 0 0) false
    rw [World.size_alloc, World.size_alloc] at this
    rw [hwo, hz]; exact (this.alloc _).alloc _)
  have HG := Lib.hid (show GBox wo (z + 1 + 1 + 1) 0 false by
    have : GBox ((((W.alloc (.cells #[.slice pw ws.length cw, .slice pl ls.length cl, .bool f] 46)).alloc (.cells #[.int .i64 k, .int .i64 a, .int .u64 o, .int .u64 n] 31)).alloc (.cells #[.slice none 0 0, .slice none 0 0, .bool false] 46)).alloc (.cells #[.int .u64 0, .bool false] 36)) _ 0 false := World.alloc_heap_new _ _
    rw [World.size_alloc, World.size_alloc, World.size_alloc] at this
    rw [hwo, hz]; exact this.alloc _)
  have hA : AccsAt wo (.slice (some ⟨z + 1 + 1 + 1 + 1, 0, none⟩) 1 1) [⟨k, a, o, n⟩] := by
    have h : wo.heap[z + 1 + 1 + 1 + 1]? = some (.cells #[.int .i64 k, .int .i64 a, .int .u64 o, .int .u64 n] 31 (0, 0)) := by
      have := World.alloc_heap_new ((((W.alloc (.cells #[.slice pw ws.length cw, .slice pl ls.length cl, .bool f] 46)).alloc (.cells #[.int .i64 k, .int .i64 a, .int .u64 o, .int .u64 n] 31)).alloc (.cells #[.slice none 0 0, .slice none 0 0, .bool false] 46)).alloc (.cells #[.int .u64 0, .bool false] 36)) (.cells #[.int .i64 k, .int .i64 a, .int .u64 o, .int .u64 n] 31)
      rw [World.size_alloc, World.size_alloc, World.size_alloc, World.size_alloc] at this
      rw [hwo, hz]; exact this
    refine accs_one wo _ k a o n ?_ ?_ ?_ ?_ <;> simp [World.cell?, h]
  have hsz : z + 1 + 1 + 1 + 1 < wo.heap.size := by rw [hwo, hz]; simp
  go_enter Try.func65, Try.ntmps65
  go_wp2_with fail
  rw [← hwo, ← hz]
  have hzW : W.heap.size ≤ z := Nat.le_of_eq hz.symm
  clear hwo hz
  refine (HRUN _ _ hB hA).mono ?_
  rintro e w1 ⟨rfl, hb1⟩
  obtain ⟨⟨hd0, hd1, hd2⟩, he0, he1, he2⟩ := mbox_cells (HZ.out.below hb1)
  obtain ⟨⟨hr0, hr1, hr2⟩, hs0, hs1, hs2⟩ := mbox_cells (HR.out.below hb1)
  obtain ⟨⟨hg0, hg1⟩, hf0, hf1⟩ := gbox_cells (HG.out.below hb1)
  have hB1 := below_then hB hB.size hb1
  have hBZ := ((hB1.setCell (p := ⟨z, 0, none⟩) hzW (.slice none 0 0)).setCell (p := ⟨z, 1, none⟩) hzW (.slice none 0 0)).setCell (p := ⟨z, 2, none⟩) hzW (.bool false)
  have hBR := ((hBZ.setCell (p := ⟨z + 1 + 1, 0, none⟩) (by simp; omega) (.slice none 0 0)).setCell (p := ⟨z + 1 + 1, 1, none⟩) (by simp; omega) (.slice none 0 0)).setCell (p := ⟨z + 1 + 1, 2, none⟩) (by simp; omega) (.bool false)
  have hBG := (hBR.setCell (p := ⟨z + 1 + 1 + 1, 0, none⟩) (by simp; omega) (.int .u64 0)).setCell (p := ⟨z + 1 + 1 + 1, 1, none⟩) (by simp; omega) (.bool false)
  clear hb1 hB1 hBZ hBR hB hA HRUN
  go_wp2
  exact bodyPost_ret (v := .tuple #[memZ, .agg #[.int .u64 0, .bool false], .int .i64 c]) (by simp [results, Try.results65, go_sem, hr0, hr1, hr2, hg0, hg1, memZ]) rfl ⟨rfl, hBG⟩

set_option maxRecDepth 100000 in
set_option maxHeartbeats 4000000 in
theorem step_yes (v : Value) (k a o n : Int) (ws : List Int) (ls : List Bool) (f : Bool) (W : World) (hv : MemAt W v ws ls f) (hr : rightB ws ls = true) (hkd : kindB k = true) :
    Calls Try.prog 65 #[v, .agg #[.int .i64 k, .int .i64 a, .int .u64 o, .int .u64 n]] W fun e w' => StepOk W.heap.size ls (accM ws ls f k a o n) e w' ∧ Below W.heap.size W w' := by
  have hm := hv
  obtain ⟨hn1, _, hlen, _⟩ := rightB_iff.1 hr
  obtain ⟨vw, vl, rfl, ⟨pw, cw, rfl, hcw⟩, pl, cl, rfl, hcl⟩ := hv
  obtain ⟨r, hrr⟩ : ∃ r, r = accM ws ls f k a o n := ⟨_, rfl⟩
  have hrl : r.1.length = ws.length := by rw [hrr, accM_length]
  have hrs : runS ls ws f [⟨k, a, o, n⟩] = (r.1, r.2.1, [r.2.2]) := by rw [hrr]; rfl
  have HRUN : ∀ (W' : World) (b : Nat), Below W.heap.size W W' → AccsAt W' (.slice (some ⟨b, 0, none⟩) 1 1) [⟨k, a, o, n⟩] → Calls Try.prog 38 #[.agg #[.slice pw ws.length cw, .slice pl ls.length cl, .bool f], .slice (some ⟨b, 0, none⟩) 1 1] W' fun e w' => RunOk W'.heap.size ls (r.1, r.2.1, [r.2.2]) e w' ∧ Below W'.heap.size W' w' := by
    intro W' b hb ha
    rw [← hrs]
    exact run_yes _ _ ws ls f [⟨k, a, o, n⟩] W' (hm.below hb) hr ha (by simp) (by simp [kindAll, hkd])
  rw [← hrr]
  have HRL := Lib.hid hrl
  have HLEN := Lib.hid hlen
  clear hm hcw hcl hrr hrs hrl hlen
  obtain ⟨z, hz⟩ : ∃ z, z = W.heap.size := ⟨_, rfl⟩
  obtain ⟨wo, hwo⟩ : ∃ wo : World, wo = ((((W.alloc (.cells #[.slice pw ws.length cw, .slice pl ls.length cl, .bool f] 46)).alloc (.cells #[.int .i64 k, .int .i64 a, .int .u64 o, .int .u64 n] 31)).alloc (.cells #[.slice none 0 0, .slice none 0 0, .bool false] 46)).alloc (.cells #[.int .u64 0, .bool false] 36)).alloc (.cells #[.int .i64 k, .int .i64 a, .int .u64 o, .int .u64 n] 31) := ⟨_, rfl⟩
  have hB : Below W.heap.size W wo := by rw [hwo]; exact (((((Below.refl _ _).alloc (Nat.le_refl _) _).alloc (by simp) _).alloc (by simp; omega) _).alloc (by simp; omega) _).alloc (by simp; omega) _
  have HZ := Lib.hid (show MBox wo z (.slice pw ws.length cw) (.slice pl ls.length cl) f by rw [hwo, hz]; exact ((((MBox.new _ _ _ _).alloc _).alloc _).alloc _).alloc _)
  have HR := Lib.hid (show MBox wo (z + 1 + 1) (.slice none 0 0) (.slice none 0 0) false by
    have := MBox.new ((W.alloc (.cells #[.slice pw ws.length cw, .slice pl ls.length cl, .bool f] 46)).alloc (.cells #[.int .i64 k, .int .i64 a, .int .u64 o, .int .u64 n] 31)) (.slice none 0 0) (.slice none 0 0) false
    rw [World.size_alloc, World.size_alloc] at this
    rw [hwo, hz]; exact (this.alloc _).alloc _)
  have HG := Lib.hid (show GBox wo (z + 1 + 1 + 1) 0 false by
    have : GBox ((((W.alloc (.cells #[.slice pw ws.length cw, .slice pl ls.length cl, .bool f] 46)).alloc (.cells #[.int .i64 k, .int .i64 a, .int .u64 o, .int .u64 n] 31)).alloc (.cells #[.slice none 0 0, .slice none 0 0, .bool false] 46)).alloc (.cells #[.int .u64 0, .bool false] 36)) _ 0 false := World.alloc_heap_new _ _
    rw [World.size_alloc, World.size_alloc, World.size_alloc] at this
    rw [hwo, hz]; exact this.alloc _)
  have hA : AccsAt wo (.slice (some ⟨z + 1 + 1 + 1 + 1, 0, none⟩) 1 1) [⟨k, a, o, n⟩] := by
    have h : wo.heap[z + 1 + 1 + 1 + 1]? = some (.cells #[.int .i64 k, .int .i64 a, .int .u64 o, .int .u64 n] 31 (0, 0)) := by
      have := World.alloc_heap_new ((((W.alloc (.cells #[.slice pw ws.length cw, .slice pl ls.length cl, .bool f] 46)).alloc (.cells #[.int .i64 k, .int .i64 a, .int .u64 o, .int .u64 n] 31)).alloc (.cells #[.slice none 0 0, .slice none 0 0, .bool false] 46)).alloc (.cells #[.int .u64 0, .bool false] 36)) (.cells #[.int .i64 k, .int .i64 a, .int .u64 o, .int .u64 n] 31)
      rw [World.size_alloc, World.size_alloc, World.size_alloc, World.size_alloc] at this
      rw [hwo, hz]; exact this
    refine accs_one wo _ k a o n ?_ ?_ ?_ ?_ <;> simp [World.cell?, h]
  have hsz : z + 1 + 1 + 1 + 1 < wo.heap.size := by rw [hwo, hz]; simp
  go_enter Try.func65, Try.ntmps65
  go_wp2_with fail
  rw [← hwo, ← hz]
  have hzW : W.heap.size ≤ z := Nat.le_of_eq hz.symm
  clear hwo hz
  refine (HRUN _ _ hB hA).mono ?_
  rintro e w1 ⟨⟨gw, cw2, gl, cl2, vg, rfl, how, hol, hog⟩, hb1⟩
  obtain ⟨y, d, hyd⟩ : ∃ y d, r.2.2 = (y, d) := ⟨_, _, rfl⟩
  obtain ⟨gg, cg, rfl, hgg, _⟩ := own_form hog (by simp)
  simp only [hyd] at hog how ⊢
  have HYD := Lib.hid hyd
  have hgn : wo.heap.size ≤ gg := hgg
  have hwn : wo.heap.size ≤ gw := by
    rcases how.2 with ⟨h', _⟩ | ⟨g, c, cur, h', hb, _⟩
    · cases h'
    · injection h' with e1 _ _; injection e1 with e1; injection e1 with e1 _ _; omega
  have hln : wo.heap.size ≤ gl := by
    rcases hol.2 with ⟨h', _⟩ | ⟨g, c, cur, h', hb, _⟩
    · cases h'
    · injection h' with e1 _ _; injection e1 with e1; injection e1 with e1 _ _; omega
  have hy0 := hog.cellAt 0 (by simp)
  have hy1 := hog.cellAt 1 (by simp)
  simp only [flatG, List.getElem?_cons_zero, List.getElem?_cons_succ] at hy0 hy1
  obtain ⟨⟨hd0, hd1, hd2⟩, he0, he1, he2⟩ := mbox_cells (HZ.out.below hb1)
  obtain ⟨⟨hr0, hr1, hr2⟩, hs0, hs1, hs2⟩ := mbox_cells (HR.out.below hb1)
  obtain ⟨⟨hg0, hg1⟩, hf0, hf1⟩ := gbox_cells (HG.out.below hb1)
  have hB1 := below_then hB hB.size hb1
  have hsz1 : z + 1 + 1 + 1 + 1 < w1.heap.size := by have := hsz; have := hb1.size; omega
  have HOW := Lib.hid how
  have HOL := Lib.hid hol
  have HZ1 := Lib.hid (HZ.out.below hb1)
  have HR1 := Lib.hid (HR.out.below hb1)
  have HG1 := Lib.hid (HG.out.below hb1)
  clear hb1 hB hA HRUN how hol hog hyd HZ HR HG hr0 hr1 hr2 hs0 hs1 hs2 hg0 hg1 hf0 hf1
  go_upto_region 4 with fail
  obtain ⟨w2, hw2⟩ : ∃ w2 : World, w2 = ((w1.setCell ⟨z, 0, none⟩ (.slice (some ⟨gw, 0, none⟩) r.1.length cw2)).setCell ⟨z, 1, none⟩ (.slice (some ⟨gl, 0, none⟩) ls.length cl2)).setCell ⟨z, 2, none⟩ (.bool r.2.1) := ⟨_, rfl⟩
  rw [← hw2]
  have hkz : Keeps (· = z) w1 w2 := by
    rw [hw2]
    exact ((Keeps.setCell w1 (S := (· = z)) (p := ⟨z, 0, none⟩) rfl _).trans (Keeps.setCell _ (S := (· = z)) (p := ⟨z, 1, none⟩) rfl _)).trans (Keeps.setCell _ (S := (· = z)) (p := ⟨z, 2, none⟩) rfl _)
  obtain ⟨⟨hm0, hm1, hm2⟩, _⟩ := mbox_cells (show MBox w2 z (.slice (some ⟨gw, 0, none⟩) r.1.length cw2) (.slice (some ⟨gl, 0, none⟩) ls.length cl2) r.2.1 by rw [hw2]; exact HZ1.out.set _ _ _)
  obtain ⟨⟨hr0, hr1, hr2⟩, hs0, hs1, hs2⟩ := mbox_cells (HR1.out.keeps hkz (by omega))
  obtain ⟨⟨hg0, hg1⟩, hf0, hf1⟩ := gbox_cells (HG1.out.keeps hkz (by omega))
  have hzg : gg ≠ z := by omega
  replace hy0 := hkz.cell hy0 hzg
  replace hy1 := hkz.cell hy1 hzg
  have HOW2 := Lib.hid (hkz.row HOW.out (by intro g hg; simp [Value.ownBlock] at hg; omega))
  have HOL2 := Lib.hid (hkz.row HOL.out (by intro g hg; simp [Value.ownBlock] at hg; omega))
  have hB2 : Below W.heap.size W w2 := hB1.trans (hkz.below hB1.size (fun q hq => by omega))
  have hkr : ∀ x, x = w2 ∨ x = w2.drew → Keeps (fun q => q = z + 1 + 1 ∨ q = z + 1 + 1 + 1) w2 (((((x.setCell ⟨z + 1 + 1, 0, none⟩ (.slice (some ⟨gw, 0, none⟩) r.1.length cw2)).setCell ⟨z + 1 + 1, 1, none⟩ (.slice (some ⟨gl, 0, none⟩) ls.length cl2)).setCell ⟨z + 1 + 1, 2, none⟩ (.bool r.2.1)).setCell ⟨z + 1 + 1 + 1, 0, none⟩ (.int .u64 y)).setCell ⟨z + 1 + 1 + 1, 1, none⟩ (.bool d)) := by
    intro x hx
    have hx0 : Keeps (fun q => q = z + 1 + 1 ∨ q = z + 1 + 1 + 1) w2 x := by rcases hx with rfl | rfl <;> exact ⟨rfl, rfl, rfl, Nat.le_refl _, fun _ _ _ => rfl⟩
    exact ((((hx0.trans (Keeps.setCell _ (p := ⟨z + 1 + 1, 0, none⟩) (.inl rfl) _)).trans (Keeps.setCell _ (p := ⟨z + 1 + 1, 1, none⟩) (.inl rfl) _)).trans (Keeps.setCell _ (p := ⟨z + 1 + 1, 2, none⟩) (.inl rfl) _)).trans (Keeps.setCell _ (p := ⟨z + 1 + 1 + 1, 0, none⟩) (.inr rfl) _)).trans (Keeps.setCell _ (p := ⟨z + 1 + 1 + 1, 1, none⟩) (.inr rfl) _)
  have HKR := Lib.hid hkr
  clear hw2 hkz HZ1 HR1 HG1 HOW HOL hB1 hd0 hd1 hd2 he0 he1 he2 hkr
  go_region
  all_goals go_wp2
  have hk := HKR.out w2 (.inl rfl)
  have ho1 := hk.row HOW2.out (by intro g hg; simp [Value.ownBlock] at hg; omega)
  have ho2 := hk.row HOL2.out (by intro g hg; simp [Value.ownBlock] at hg; omega)
  have hBe := hB2.trans (hk.below hB2.size (fun q hq => by omega))
  refine bodyPost_ret (v := .tuple #[.agg #[.slice (some ⟨gw, 0, none⟩) r.1.length cw2, .slice (some ⟨gl, 0, none⟩) ls.length cl2, .bool r.2.1], .agg #[.int .u64 y, .bool d], .int .i64 0]) (by simp [results, Try.results65, go_sem, hr0, hr1, hr2, hg0, hg1]) rfl ⟨⟨gw, cw2, gl, cl2, by rw [HYD.out], (ho1.mono (by omega)).drew, (ho2.mono (by omega)).drew⟩, hBe.drew⟩

end Go.Proofs.Ytcledklajcdfiaa
