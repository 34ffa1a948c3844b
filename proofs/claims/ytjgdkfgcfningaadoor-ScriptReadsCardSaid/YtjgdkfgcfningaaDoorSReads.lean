/-
  ScriptReads returns true for every row of words; what was in memory stays.
  Conditions: the words lie so; the package's table of parts is as it was laid.
-/
import Derived.Test.YtjgdkfgcfningaaDoorSRefRead
import Derived.Test.YtjgdkfgcfningaaDoorSRefSame
import Derived.Test.YtjgdkfgcfningaaDoorSWord2
namespace Go.Proofs.YtjgdkfgcfningaaDoor
open Go.RowKit Go.Shelf
attribute [local go_sem] Oper.semAt_some

theorem WAt.vals {w : World} {p : Option Addr} {n d : Nat} {ws : List Nat} (h : WAt w p n d ws) (hz : p = none → d = 0) : ValsAt w (.slice p n d) 1 n (ws.map nv) := by
  obtain ⟨q, cap, e, hc⟩ := h.nums
  injection e with e1 e2 e3
  subst e1
  have hl := h.len
  refine ⟨by rw [List.length_map, hl, Nat.mul_one], p, d, rfl, ?_⟩
  by_cases hne : ws = []
  · subst hne
    simp only [List.length_nil] at hl
    subst hl
    cases p with
    | none => exact .inl ⟨rfl, rfl, hz rfl⟩
    | some a => exact .inr ⟨a, rfl, fun j u hj => by simp at hj⟩
  · obtain ⟨b, off, rfl, hcs⟩ := hc (by simpa using hne)
    refine .inr ⟨_, rfl, fun j u hj => ?_⟩
    rw [List.getElem?_map] at hj
    obtain ⟨x, hx, rfl⟩ := Option.map_eq_some_iff.1 hj
    obtain ⟨hlt, rfl⟩ := List.getElem?_eq_some_iff.1 hx
    rw [addr_add_off]
    have := hcs j (by simpa using hlt)
    simpa [nv] using this
theorem WAt.of_owns {w : World} {B n c : Nat} {p : Option Addr} {ws : List Nat} (hl : n = ws.length) (hb : ∀ x ∈ ws, x < 18446744073709551616) (h : w.ownsRow B 37 1 (.slice p n c) n (ws.map nv)) : WAt w p n c ws := by
  refine ⟨?_, hl, (owns_room h).2.1, hb⟩
  have e : ws.map nv = (ws.map Int.ofNat).map (Value.int .u64) := by rw [List.map_map]; rfl
  rw [e] at h
  exact nums_of_owns (by rw [List.length_map, hl]) h
/-- The words still read so, behind stores into a block that they do not lie in. -/
theorem own_keeps {S : Nat → Prop} {w w' : World} {B E s n : Nat} {v : Value} {xs : List Value} (h : w.ownsRow B E s v n xs) (hk : Keeps S w w') (hS : ∀ q, S q → ∀ g, v.ownBlock = some g → q ≠ g) : w'.ownsRow B E s v n xs :=
  hk.row h fun g hg hs => hS g hs g hg rfl

set_option maxRecDepth 100000 in
set_option maxHeartbeats 8000000 in
theorem scriptReads_walk (p8 : Option Addr) (n8 d8 : Nat) (ws : List Nat) (W : World) (hw : WAt W p8 n8 d8 ws) (hz8 : p8 = none → d8 = 0) (hn8 : n8 ≤ 9223372036854775807) (hT : Tab W) :
    Calls Tryd.prog 4 #[.slice p8 n8 d8] W fun e w' => e = .returned (.bool true) ∧ Below W.heap.size W w' := by
  obtain ⟨k, hk⟩ : ∃ k, k = min n8 600 := ⟨_, rfl⟩
  have hkn : k ≤ n8 := by omega
  have hk2 : k ≤ 600 := by omega
  have hm : ∀ w, (Builtin.min_ #[3, 3] 3 #[.int .i64 (n8 : Int), .int .i64 600]).run Tryd.prog w = .ok (.int .i64 (k : Int)) w := run_minI n8 k 600 hk
  have hcut := run_cutU p8 n8 d8 k (Nat.le_trans hkn hw.room)
  have HT := Lib.hid hT
  have HWK := Lib.hid (wakes_c W hT)
  have HWS := Lib.hid (hw.take k hkn)
  obtain ⟨us, hus⟩ : ∃ l, l = ws.take k := ⟨_, rfl⟩
  have HU := Lib.hid (show us.length = k ∧ ∀ x ∈ us, x < 18446744073709551616 from ⟨by rw [hus, List.length_take]; have := hw.len; omega, fun x hx => hw.big x (List.mem_of_mem_take (by rw [← hus]; exact hx))⟩)
  rw [← hus] at HWS
  have HZ := Lib.hid hz8
  obtain ⟨s, hs⟩ : ∃ s, s = readL us := ⟨_, rfl⟩
  have hok : okS s := by rw [hs]; exact read_ok _
  have HFW := Lib.hid (okS_few hok)
  have HPS := Lib.hid hok.2.2.2.2.1
  have HPB := Lib.hid hok.2.2.2.2.2
  have HC8 := Lib.hid hok.1.2
  have HS := Lib.hid hs
  clear hw hT hk hus hz8 hs hok
  go_enter Tryd.func4, Tryd.ntmps4
  go_wp2_with fail
  refine HWK.out.mono ?_
  rintro e w1 ⟨rfl, hb1⟩
  have HB1 := Lib.hid hb1
  have hw1s := hb1.size
  have HCL := Lib.hid (cloneU (.slice p8 k d8) k (us.map nv) w1 ((HWS.out.below hb1).vals HZ.out) (by intro u hu; obtain ⟨x, _, rfl⟩ := List.mem_map.1 hu; rfl) (by omega))
  clear hb1 HWK
  go_wp2_with fail
  refine HCL.out.mono ?_
  rintro e w2 ⟨⟨vl, rfl, hO⟩, hb2⟩
  obtain ⟨p, cl, rfl⟩ := owns_slice hO
  have HB2 := Lib.hid (below_then HB1.out hw1s hb2)
  have hw2s := HB2.out.size
  have HO := Lib.hid hO
  have HWL := Lib.hid (WAt.of_owns HU.out.1.symm HU.out.2 hO)
  have HRD := Lib.hid (read_c p k cl us w2 HWL.out (HT.out.below HB2.out))
  rw [← HS.out] at HRD
  clear hO hb2 HCL
  go_wp2_with fail
  refine HRD.out.mono ?_
  rintro e w3 ⟨⟨z, vs, vp, rfl, hR, hP, hz⟩, hb3⟩
  obtain ⟨q, dq, rfl⟩ := owns_slice hP
  have HB3 := Lib.hid (below_then HB2.out hw2s hb3)
  have hw3s := HB3.out.size
  obtain ⟨y, hy⟩ : ∃ y, y = w3.heap.size := ⟨_, rfl⟩
  obtain ⟨w4, hw4⟩ : ∃ X : World, X = w3.alloc (.cells #[.int .i64 s.c, .int .i64 s.g, .slice (some ⟨z, 0, none⟩) s.ls.length s.ls.length, .slice q s.ps.length dq] 25) := ⟨_, rfl⟩
  have hb4 : Below w3.heap.size w3 w4 := by rw [hw4]; exact (Below.refl _ _).alloc (Nat.le_refl _) _
  have HBX := Lib.hid (show SBlk w4 y s.c s.g (some ⟨z, 0, none⟩) s.ls.length s.ls.length q s.ps.length dq by rw [hw4, hy]; exact SBlk.new _ _ _ _ _ _ _ _ _)
  have HB4 := Lib.hid (below_then HB3.out hw3s hb4)
  have hw4s := HB4.out.size
  have hs4 : w4.heap.size = y + 1 := by rw [hw4, hy]; simp
  have HR4 := Lib.hid (And.intro (hR.below hb4) (owns_below hP hb4))
  have HO4 := Lib.hid (owns_below (owns_below HO.out hb3) hb4)
  have hzy : z < y := by rw [hy]; exact hR.box.lt
  have HWL4 := Lib.hid (WAt.of_owns HU.out.1.symm HU.out.2 HO4.out)
  have HRR := Lib.hid (refRead_c p k cl us w4 HWL4.out (by omega))
  rw [← HS.out] at HRR
  have HE := Lib.hid (And.intro hw4 hy)
  have hw2z : w2.heap.size ≤ z := hz
  have HPL := Lib.hid (show ∀ g, (Value.slice q s.ps.length dq).ownBlock = some g → z < g ∧ g < y from fun g hg => by have := hP.lt g hg; omega)
  have HGL := Lib.hid (show ∀ g, (Value.slice p k cl).ownBlock = some g → g < z from fun g hg => by have := (HO.out.lt g hg).2; omega)
  clear hR hP hb3 hb4 hw4 hy hz HRD HO HWL
  go_upto_region 5 with (fail)
  rw [← HE.out.1, ← HE.out.2]
  go_wp2_with fail
  refine HRR.out.mono ?_
  rintro e w5 ⟨⟨v, rfl, hBU⟩, hb5⟩
  obtain ⟨vs2, p2, c2, cap2, q2, m2, d2, rfl, hRR⟩ := hBU
  have HB5 := Lib.hid (below_then HB4.out hw4s hb5)
  have hw5s := HB5.out.size
  obtain ⟨y2, hy2⟩ : ∃ y, y = w5.heap.size := ⟨_, rfl⟩
  obtain ⟨w6, hw6⟩ : ∃ X : World, X = w5.alloc (.cells #[.int .i64 s.c, .int .i64 s.g, .slice p2 c2 cap2, .slice q2 m2 d2] 25) := ⟨_, rfl⟩
  have hb6 : Below w5.heap.size w5 w6 := by rw [hw6]; exact (Below.refl _ _).alloc (Nat.le_refl _) _
  have HBY := Lib.hid (show SBlk w6 y2 s.c s.g p2 c2 cap2 q2 m2 d2 by rw [hw6, hy2]; exact SBlk.new _ _ _ _ _ _ _ _ _)
  have HB6 := Lib.hid (below_then HB5.out hw5s hb6)
  have hw6s := HB6.out.size
  have HBX6 := Lib.hid ((HBX.out.below hb5).below hb6)
  have HR6 := Lib.hid (And.intro ((HR4.out.1.below hb5).below hb6) (owns_below (owns_below HR4.out.2 hb5) hb6))
  have HO6 := Lib.hid (owns_below (owns_below HO4.out hb5) hb6)
  have HRR6 := Lib.hid (hRR.below hb6)
  have hyy : y < y2 := by have := hb5.size; omega
  have hs5 := hb5.size
  have HE := Lib.hid (And.intro hw6 hy2)
  clear hRR hb5 hb6 hw6 hy2 HBX HR4 HO4 HRR
  obtain ⟨hx0, hx1, hx2, hx3⟩ := HBX6.out.cells
  obtain ⟨hy0, hy1, hy2, hy3⟩ := HBY.out.cells
  have HSM := Lib.hid (refSame_c (.agg #[.int .i64 s.c, .int .i64 s.g, .slice (some ⟨z, 0, none⟩) s.ls.length s.ls.length, .slice q s.ps.length dq]) (.agg #[.int .i64 s.c, .int .i64 s.g, .slice p2 c2 cap2, .slice q2 m2 d2]) s s w6 ⟨_, _, _, _, _, _, rfl, HR6.out.1.lrow (Nat.le_refl _), RI.of_owns HR6.out.2⟩ ⟨_, _, _, _, _, _, rfl, HRR6.out.lrow, HRR6.out.ri⟩ HFW.out HFW.out)
  rw [sameB_refl] at HSM
  go_upto_region 6 with (fail)
  rw [← HE.out.1, ← HE.out.2]
  go_wp2_with fail
  refine HSM.out.mono ?_
  rintro e w7 ⟨rfl, hb7⟩
  have HB7 := Lib.hid (below_then HB6.out hw6s hb7)
  have hw7s := HB7.out.size
  have HX7 := Lib.hid (And.intro (HBX6.out.below hb7) (And.intro (HBY.out.below hb7) (And.intro (owns_below HR6.out.2 hb7) (And.intro (HRR6.out.below hb7) (owns_below HO6.out hb7)))))
  have HEQ := Lib.hid (show Calls Tryd.prog 16 #[.slice p k cl, .slice p8 k d8] w7 fun e w' => e = .returned (.bool true) ∧ Below w7.heap.size w7 w' from by
    have h1 := equalW_c (.slice p k cl) (.slice p8 k d8) (us.map Int.ofNat) (us.map Int.ofNat) w7 (WAt.of_owns HU.out.1.symm HU.out.2 HX7.out.2.2.2.2).nums (HWS.out.below HB7.out).nums (by rw [List.length_map, HU.out.1]; omega) (by rw [List.length_map, HU.out.1]; omega)
    rw [decide_eq_true rfl] at h1
    exact h1)
  clear hx0 hx1 hx2 hx3 hy0 hy1 hy2 hy3 hb7 HSM HBX6 HBY HR6 HRR6 HO6 HE
  go_wp2_with fail
  refine HEQ.out.mono ?_
  rintro e w8 ⟨rfl, hb8⟩
  have HB8 := Lib.hid (below_then HB7.out hw7s hb8)
  have hw8s := HB8.out.size
  obtain ⟨L, hL⟩ : ∃ L, L = s.ps.length := ⟨_, rfl⟩
  have HX8 := Lib.hid (show SBlk w8 y s.c s.g (some ⟨z, 0, none⟩) s.ls.length s.ls.length q L dq ∧ SBlk w8 y2 s.c s.g p2 c2 cap2 q2 m2 d2 ∧ w8.ownsRow (z + 1) 3 1 (.slice q L dq) L (s.ps.map (Value.int .i64)) ∧ RdR w8 w4.heap.size (s.ls, s.ps) vs2 p2 c2 cap2 q2 m2 d2 ∧ w8.ownsRow w1.heap.size 37 1 (.slice p k cl) k (us.map nv) from by
    rw [hL]
    exact ⟨HX7.out.1.below hb8, HX7.out.2.1.below hb8, owns_below HX7.out.2.2.1 hb8, HX7.out.2.2.2.1.below hb8, owns_below HX7.out.2.2.2.2 hb8⟩)
  have hL4 : L ≤ 4096 := by rw [hL]; exact HPS.out
  have HPL2 := Lib.hid (show ∀ g, (Value.slice q L dq).ownBlock = some g → z < g ∧ g < y from by rw [hL]; exact HPL.out)
  have HLL := Lib.hid hL
  obtain ⟨hx0, hx1, hx2, hx3⟩ := HX8.out.1.cells
  have hh0 : W.heap.size ≤ z := by omega
  clear hb8 HX7 HEQ hL HPL
  go_wp2_with fail
  clear hx0 hx1 hx2 hx3
  have HI0 := Lib.hid (show (s.ps).length = L from HLL.out.symm)
  go_loopw [35] (fun iv wr => ∃ (i : Nat) (xs : List Int), i ≤ L ∧ iv = .int .i64 i ∧ Hid (xs.length = L) ∧ Hid (SBlk wr y s.c s.g (some ⟨z, 0, none⟩) s.ls.length s.ls.length q L dq ∧ SBlk wr y2 s.c s.g p2 c2 cap2 q2 m2 d2 ∧ wr.ownsRow (z + 1) 3 1 (.slice q L dq) L (xs.map (Value.int .i64)) ∧ RdR wr w4.heap.size (s.ls, s.ps) vs2 p2 c2 cap2 q2 m2 d2 ∧ wr.ownsRow w1.heap.size 37 1 (.slice p k cl) k (us.map nv)) ∧ Hid (Below W.heap.size W wr)) (fun iv _ => L - (intOf iv).toNat)
  case atStart => exact ⟨0, s.ps, Nat.zero_le _, rfl, HI0, HX8, HB8⟩
  case round =>
    clear HX8 HB8 HI0
    obtain ⟨i, xs, hi, rfl, HXL, HX, HB⟩ := hrel
    have hwrs := HB.out.size
    by_cases hlt : i < L
    · obtain ⟨L', rfl⟩ : ∃ l, L = l + 1 := ⟨L - 1, by omega⟩
      obtain ⟨g, cg, hgv⟩ := owns_some HX.out.2.2.1
      injection hgv with hg1 _ hg2
      subst hg1 hg2
      obtain ⟨hzg, hgy⟩ := HPL2.out g rfl
      obtain ⟨hx0, hx1, hx2, hx3⟩ := HX.out.1.cells
      have hil : i < xs.length := by rw [HXL.out]; exact hlt
      have hc := HX.out.2.2.1.cellAt i (by omega)
      rw [List.getElem?_map, List.getElem?_eq_getElem hil] at hc
      simp only [Option.map_some] at hc
      have hf := HX.out.2.2.1.frozenAt i
      obtain ⟨x, hx⟩ : ∃ x, x = xs[i] := ⟨_, rfl⟩
      rw [← hx] at hc
      have hst := (HX.out.2.2.1.stored i (.int .i64 (wrap64 (x + 1)))).1
      rw [← List.map_set] at hst
      have hkg : Keeps (fun q => q = g) wr (wr.setCell ⟨g, i, none⟩ (.int .i64 (wrap64 (x + 1)))) := Keeps.setCell wr (S := fun q => q = g) (p := ⟨g, i, none⟩) rfl _
      have HXS := Lib.hid (show (xs.set i (wrap64 (x + 1))).length = L' + 1 by rw [List.length_set]; exact HXL.out)
      obtain ⟨wn, hwn⟩ : ∃ X : World, X = wr.setCell ⟨g, i, none⟩ (.int .i64 (wrap64 (x + 1))) := ⟨_, rfl⟩
      rw [← hwn] at hst hkg
      have HXN := Lib.hid (show SBlk wn y s.c s.g (some ⟨z, 0, none⟩) s.ls.length s.ls.length (some ⟨g, 0, none⟩) (L' + 1) dq ∧ SBlk wn y2 s.c s.g p2 c2 cap2 q2 m2 d2 ∧ wn.ownsRow (z + 1) 3 1 (.slice (some ⟨g, 0, none⟩) (L' + 1) dq) (L' + 1) ((xs.set i (wrap64 (x + 1))).map (Value.int .i64)) ∧ RdR wn w4.heap.size (s.ls, s.ps) vs2 p2 c2 cap2 q2 m2 d2 ∧ wn.ownsRow w1.heap.size 37 1 (.slice p k cl) k (us.map nv) from
        ⟨HX.out.1.keeps hkg (fun e => by omega), HX.out.2.1.keeps hkg (fun e => by omega), hst, HX.out.2.2.2.1.keeps hkg (fun q hq e => by omega), hkg.row HX.out.2.2.2.2 (fun q hq e => by have := HGL.out q hq; omega)⟩)
      have HBN := Lib.hid (show Below W.heap.size W wn from HB.out.trans (hkg.below (by omega) (fun q hq => by omega)))
      have HWN := Lib.hid hwn
      clear hst hkg hwn hx
      go_wp2
      rw [← HWN.out]
      clear hx0 hx1 hx2 hx3 hc hf
      go_roundw
      case rel => exact ⟨i + 1, _, by omega, by go_num, HXS, HXN, HBN⟩
      case measure => simp [intOf]; omega
    · obtain rfl : i = L := by omega
      have HRD := Lib.hid (read_c p k cl us wr (WAt.of_owns HU.out.1.symm HU.out.2 HX.out.2.2.2.2) (HT.out.below HB.out))
      rw [← HS.out] at HRD
      go_upto_region 13 with (fail)
      refine wpTwo_begin (T := fun w' => SBlk w' y2 s.c s.g p2 c2 cap2 q2 m2 d2) (S := fun _ => True) (late := fun _ => false) (by kernel_rfl) ?_
      obtain ⟨X0, hX0⟩ : ∃ X : World, X = wr.drew := ⟨_, rfl⟩
      have hbX : Below wr.heap.size wr X0 := by rw [hX0]; exact (Below.refl _ _).drew
      rw [← hX0]
      have hT := HX.out.2.1.below hbX
      have HRR := Lib.hid (HX.out.2.2.2.1.below hbX)
      have HRX := Lib.hid (read_c p k cl us X0 ((WAt.of_owns HU.out.1.symm HU.out.2 HX.out.2.2.2.2).below hbX) (HT.out.below (below_then HB.out hwrs hbX)))
      rw [← HS.out] at HRX
      have HBX := Lib.hid (below_then HB.out hwrs hbX)
      have hXs := HBX.out.size
      clear hX0 hbX HX HRD
      refine wpTwo_takeT (i := 0) (v := .slice p k cl) rfl (by kernel_rfl) (by kernel_rfl) (by kernel_rfl) (fun _ _ _ h => h) ⟨by rfl, ?_⟩ hT ?_
      · intro w hTw
        go_simp
      (try simp only [Act.put, List.getElem_toArray, List.getElem_cons_zero, List.setIfInBounds_toArray, List.set_cons_succ, List.set_cons_zero])
      refine wpTwo_takeT (i := 2) (v := .agg #[.int .i64 s.c, .int .i64 s.g, .slice p2 c2 cap2, .slice q2 m2 d2]) rfl (by kernel_rfl) (by kernel_rfl) (by kernel_rfl) (fun _ _ _ h => h) ⟨by rfl, ?_⟩ hT ?_
      · intro w hTw
        obtain ⟨t0, t1, t2, t3⟩ := SBlk.cells hTw
        go_simp
      (try simp only [Act.put, List.getElem_toArray, List.getElem_cons_succ, List.getElem_cons_zero, List.setIfInBounds_toArray, List.set_cons_succ, List.set_cons_zero])
      refine wpTwo_ready (rs := [1]) (by kernel_rfl) (by simp) ?_
      refine (AllTwo.cons rfl (fun K hK => ?_) AllTwo.nil)
      go_simp
      refine HRX.out.mono ?_
      rintro e X1 ⟨hG, hb1⟩
      have HT1 := Lib.hid (show SBlk X1 y2 s.c s.g p2 c2 cap2 q2 m2 d2 from hT.below hb1)
      have HR1 := Lib.hid (HRR.out.below hb1)
      have HB1 := Lib.hid (below_then HBX.out hXs hb1)
      have hX1s := HB1.out.size
      obtain ⟨pa, na, ca, qa, ma, da, rfl, hla, hpa⟩ := hG.sat
      have HSM := Lib.hid (refSame_c (.agg #[.int .i64 s.c, .int .i64 s.g, .slice pa na ca, .slice qa ma da]) (.agg #[.int .i64 s.c, .int .i64 s.g, .slice p2 c2 cap2, .slice q2 m2 d2]) s s X1 ⟨_, _, _, _, _, _, rfl, hla, hpa⟩ ⟨_, _, _, _, _, _, rfl, HR1.out.lrow, HR1.out.ri⟩ HFW.out HFW.out)
      rw [sameB_refl] at HSM
      clear hla hpa hG hb1 hT HRX HRR
      go_wp2_with fail
      refine hK.out _ _ ⟨HT1.out, fun _ _ => trivial⟩ ?_
      clear hK K
      (try simp only [Act.put, List.getElem_toArray, List.getElem_cons_succ, List.getElem_cons_zero, List.setIfInBounds_toArray, List.set_cons_succ, List.set_cons_zero])
      refine wpTwo_ready (rs := [3]) (by kernel_rfl) (by simp) ?_
      refine (AllTwo.cons rfl (fun K hK => ?_) AllTwo.nil)
      go_simp
      refine HSM.out.mono ?_
      rintro e X2 ⟨rfl, hb2⟩
      have HT2 := Lib.hid (show SBlk X2 y2 s.c s.g p2 c2 cap2 q2 m2 d2 from HT1.out.below hb2)
      have HB2 := Lib.hid (below_then HB1.out hX1s hb2)
      clear hb2 HSM
      go_wp2_with fail
      refine hK.out _ _ ⟨HT2.out, fun _ _ => trivial⟩ ?_
      clear hK K
      (try simp only [Act.put, List.getElem_toArray, List.getElem_cons_succ, List.getElem_cons_zero, List.setIfInBounds_toArray, List.set_cons_succ, List.set_cons_zero])
      refine wpTwo_takeT (i := 4) (v := .bool true) rfl (by kernel_rfl) (by kernel_rfl) (by kernel_rfl) (fun _ _ _ h => h) ⟨by rfl, ?_⟩ HT2.out ?_
      · intro w hTw
        go_simp
      (try simp only [Act.put, List.getElem_toArray, List.getElem_cons_succ, List.getElem_cons_zero, List.setIfInBounds_toArray, List.set_cons_succ, List.set_cons_zero])
      refine wpTwo_end (by kernel_rfl) ?_ _
      go_wp2
      go_ret
      exact ⟨rfl, HB2.out⟩

end Go.Proofs.YtjgdkfgcfningaaDoor
