/-
  Same, of the document's answers of layer 3: whether both scripts are the same; what was in memory stays.
  Conditions: both lie so; their rows are at most 2 to the power 40 long.
-/
import Derived.Test.YtjgdkfgcfningaaDoorSSame2
import Derived.Test.YtjgdkfgcfningaaDoorSBack0
namespace Go.Proofs.YtjgdkfgcfningaaDoor
open Go.RowKit Go.Shelf
attribute [local go_sem] Oper.semAt_some

theorem RI.cells {w : World} {p : Option Addr} {n c : Nat} {xs : List Int} (h : RI w p n c xs) (hn : 0 < n) : ∃ b off, p = some ⟨b, off, none⟩ ∧ ∀ i (hi : i < xs.length), w.cell? ⟨b, off + i, none⟩ = some (.int .i64 xs[i]) := by
  obtain ⟨q, cap, e, hc⟩ := h.nums
  injection e with e1 e2 e3
  subst e1
  exact hc (by intro e; have := h.len; rw [e] at this; simp at this; omega)
set_option maxRecDepth 100000 in
set_option maxHeartbeats 8000000 in
theorem refSame_c (va vb : Value) (a b : SM) (W : World) (ha : SAt W va a) (hb : SAt W vb b) (hfa : Few a) (hfb : Few b) :
    Calls Tryd.prog 13 #[va, vb] W fun e w' => e = .returned (.bool (sameB a b)) ∧ Below W.heap.size W w' := by
  obtain ⟨p0, n0, c0, q0, m0, d0, rfl, hl0, hp0⟩ := ha
  obtain ⟨p1, n1, c1, q1, m1, d1, rfl, hl1, hp1⟩ := hb
  obtain ⟨y, hy⟩ : ∃ y, y = W.heap.size := ⟨_, rfl⟩
  obtain ⟨w0, hw0⟩ : ∃ w : World, w = (W.alloc (.cells #[.int .i64 a.c, .int .i64 a.g, .slice p0 n0 c0, .slice q0 m0 d0] 25)).alloc (.cells #[.int .i64 b.c, .int .i64 b.g, .slice p1 n1 c1, .slice q1 m1 d1] 25) := ⟨_, rfl⟩
  have hB0 : Below W.heap.size W w0 := by rw [hw0]; exact ((Below.refl _ _).alloc (Nat.le_refl _) _).alloc (by simp) _
  have hx0 : SBlk w0 y a.c a.g p0 n0 c0 q0 m0 d0 := by
    rw [hw0, hy]; exact (SBlk.new _ _ _ _ _ _ _ _ _).below ((Below.refl _ _).alloc (Nat.le_refl _) _)
  have hx1 : SBlk w0 (y + 1) b.c b.g p1 n1 c1 q1 m1 d1 := by
    have := SBlk.new (W.alloc (.cells #[.int .i64 a.c, .int .i64 a.g, .slice p0 n0 c0, .slice q0 m0 d0] 25)) b.c b.g p1 n1 c1 q1 m1 d1
    rw [World.size_alloc] at this
    rw [hw0, hy]; exact this
  have HX0 := Lib.hid hx0
  have HX1 := Lib.hid hx1
  have HL0 := Lib.hid (hl0.below hB0)
  have HL1 := Lib.hid (hl1.below hB0)
  have HP0 := Lib.hid (hp0.below hB0)
  have HP1 := Lib.hid (hp1.below hB0)
  have hn0 : n0 ≤ 1048576 := by rw [hl0.len]; exact hfa.ls
  have hn1 : n1 ≤ 1048576 := by rw [hl1.len]; exact hfb.ls
  have hm0 : m0 ≤ 1099511627776 := by rw [hp0.len]; exact hfa.ps
  have hm1 : m1 ≤ 1099511627776 := by rw [hp1.len]; exact hfb.ps
  have HFA := Lib.hid hfa
  have HFB := Lib.hid hfb
  have HE := Lib.hid (And.intro hw0 hy)
  have HB0 := Lib.hid hB0
  have hs0 := hB0.size
  obtain ⟨h00, h01, h02, h03⟩ := hx0.cells
  obtain ⟨h10, h11, h12, h13⟩ := hx1.cells
  clear hl0 hl1 hp0 hp1 hfa hfb hx0 hx1 hw0 hy hB0
  go_enter Tryd.func13, Tryd.ntmps13
  go_upto_region 1 with (fail)
  rw [← HE.out.1, ← HE.out.2]
  by_cases hc : a.c = b.c
  rotate_left
  · have hne : (a.c != b.c) = true := by rw [bne_iff_ne]; exact hc
    have HR := Lib.hid (show sameB a b = false by simp [sameB, hc])
    clear hc
    go_wp2
    go_ret
    exact ⟨ret_bool HR.out.symm, HB0.out⟩
  have hnc : (a.c != b.c) = false := by rw [bne_eq_false_iff_eq]; exact hc
  have HC := Lib.hid hc
  clear hc
  by_cases hg : a.g = b.g
  rotate_left
  · have hne : (a.g != b.g) = true := by rw [bne_iff_ne]; exact hg
    have HR := Lib.hid (show sameB a b = false by simp [sameB, hg])
    clear hg
    go_wp2
    go_ret
    exact ⟨ret_bool HR.out.symm, HB0.out⟩
  have hng : (a.g != b.g) = false := by rw [bne_eq_false_iff_eq]; exact hg
  have HG := Lib.hid hg
  clear hg
  by_cases hn : n0 = n1
  rotate_left
  · have hne : ((n0 : Int) != (n1 : Int)) = true := by rw [bne_iff_ne]; omega
    have HR := Lib.hid (show sameB a b = false by
      have : a.ls ≠ b.ls := fun e => by have h0 := HL0.out.len; have h1 := HL1.out.len; rw [e] at h0; omega
      simp [sameB, this])
    clear hn
    go_wp2
    go_ret
    exact ⟨ret_bool HR.out.symm, HB0.out⟩
  subst hn
  have hnn : ((n0 : Int) != (n0 : Int)) = false := by rw [bne_eq_false_iff_eq]
  by_cases hm : m0 = m1
  rotate_left
  · have hne : ((m0 : Int) != (m1 : Int)) = true := by rw [bne_iff_ne]; omega
    have HR := Lib.hid (show sameB a b = false by
      have : a.ps ≠ b.ps := fun e => by have h0 := HP0.out.len; have h1 := HP1.out.len; rw [e] at h0; omega
      simp [sameB, this])
    clear hm
    go_wp2
    go_ret
    exact ⟨ret_bool HR.out.symm, HB0.out⟩
  subst hm
  have hnm : ((m0 : Int) != (m0 : Int)) = false := by rw [bne_eq_false_iff_eq]
  go_wp2
  clear hnc hng hnn hnm h00 h01 h02 h03 h10 h11 h12 h13
  go_loopw [44] (fun iv wr => ∃ i : Nat, i ≤ n0 ∧ iv = .int .i64 i ∧ Hid (a.ls.take i = b.ls.take i) ∧ Below w0.heap.size w0 wr) (fun iv _ => n0 - (intOf iv).toNat)
  case atStart => exact ⟨0, Nat.zero_le _, rfl, Lib.hid rfl, Below.refl _ _⟩
  case round =>
    obtain ⟨i, hi, rfl, HT, hB⟩ := hrel
    by_cases hlt : i < n0
    · have hil0 : i < a.ls.length := by have := HL0.out.len; omega
      have hil1 : i < b.ls.length := by have := HL1.out.len; omega
      obtain ⟨b0, off0, rfl, hcs0⟩ := HL0.out.cells (by intro e; rw [e] at hil0; cases hil0)
      obtain ⟨b1, off1, rfl, hcs1⟩ := HL1.out.cells (by intro e; rw [e] at hil1; cases hil1)
      obtain ⟨r0, e0, hx0, hr0⟩ := hcs0 i hil0
      obtain ⟨r1, e1, hy0, hr1⟩ := hcs1 i hil1
      have hb0 := HFA.out.calls _ (List.getElem_mem hil0)
      have hb1 := HFB.out.calls _ (List.getElem_mem hil1)
      obtain ⟨x, hxe⟩ : ∃ x, x = a.ls[i] := ⟨_, rfl⟩
      obtain ⟨z, hze⟩ : ∃ x, x = b.ls[i] := ⟨_, rfl⟩
      rw [← hxe] at hx0 hr0 hb0
      rw [← hze] at hy0 hr1 hb1
      have hx := below_cell hB hx0
      have hy := below_cell hB hy0
      obtain ⟨lx, hlx⟩ : ∃ l, l = x.length := ⟨_, rfl⟩
      obtain ⟨lz, hlz⟩ : ∃ l, l = z.length := ⟨_, rfl⟩
      rw [← hlx] at hx hr0 hb0
      rw [← hlz] at hy hr1 hb1
      have HY0 := Lib.hid hy0
      have HR0 := Lib.hid hr0
      have HR1 := Lib.hid hr1
      have HLX := Lib.hid (And.intro hlx hlz)
      have HA := Lib.hid (List.take_succ_eq_append_getElem hil0)
      have HBB := Lib.hid (List.take_succ_eq_append_getElem hil1)
      have HXZ := Lib.hid (And.intro hxe hze)
      have HNE := Lib.hid (show x ≠ z → sameB a b = false from fun h => by
        have : a.ls ≠ b.ls := fun e => h (by rw [hxe, hze]; simp [e])
        simp [sameB, this])
      obtain ⟨g0, g1, g2, g3⟩ := (HX1.out.below hB).cells
      clear hx0 hy0 hr0 hr1 hcs0 hcs1 hxe hze hlx hlz
      by_cases hll : lx = lz
      rotate_left
      · have hne : ((lx : Int) != (lz : Int)) = true := by rw [bne_iff_ne]; omega
        have HR := Lib.hid (HNE.out fun e => hll (by rw [HLX.out.1, HLX.out.2, e]))
        clear hll
        go_wp2
        go_ret
        exact ⟨ret_bool HR.out.symm, below_then HB0.out hs0 hB⟩
      subst hll
      have hne : ((lx : Int) != (lx : Int)) = false := by rw [bne_eq_false_iff_eq]
      go_wp2
      clear hne g0 g1 g2 g3 hx hy
      go_loopw [60] (fun kv wk => ∃ k : Nat, k ≤ lx ∧ kv = .int .i64 k ∧ Hid (x.take k = z.take k) ∧ Below w0.heap.size w0 wk) (fun kv _ => lx - (intOf kv).toNat)
      case atStart => exact ⟨0, Nat.zero_le _, rfl, Lib.hid rfl, hB⟩
      case round =>
        obtain ⟨k, hk, rfl, HTK, hBk⟩ := hrel
        by_cases hkl : k < lx
        · obtain ⟨f0, o0, rfl, hc0⟩ := HR0.out.calls (by omega)
          obtain ⟨f1, o1, rfl, hc1⟩ := HR1.out.calls (by omega)
          have hkx : k < x.length := by have := HLX.out.1; omega
          have hkz : k < z.length := by have := HLX.out.2; omega
          have hcx := hc0 k hkx
          have hcz := hc1 k hkz
          have HAK := Lib.hid (List.take_succ_eq_append_getElem hkx)
          have HBK := Lib.hid (List.take_succ_eq_append_getElem hkz)
          obtain ⟨u, hu⟩ : ∃ u, u = x[k] := ⟨_, rfl⟩
          obtain ⟨v, hv⟩ : ∃ u, u = z[k] := ⟨_, rfl⟩
          rw [← hu] at hcx
          rw [← hv] at hcz
          have HUV := Lib.hid (And.intro hu hv)
          have hx0 : wr.cell? ⟨f0, o0 + k * 5, none⟩ = some (.int .u64 (u.k : Int)) := below_cell hBk (hcx 0 (by decide) _ rfl)
          have hx1 : wr.cell? ⟨f0, o0 + k * 5 + 1, none⟩ = some (.int .u64 (u.a0 : Int)) := below_cell hBk (hcx 1 (by decide) _ rfl)
          have hx2 : wr.cell? ⟨f0, o0 + k * 5 + 2, none⟩ = some (.int .u64 (u.a1 : Int)) := below_cell hBk (hcx 2 (by decide) _ rfl)
          have hx3 : wr.cell? ⟨f0, o0 + k * 5 + 3, none⟩ = some (.int .u64 (u.a2 : Int)) := below_cell hBk (hcx 3 (by decide) _ rfl)
          have hx4 : wr.cell? ⟨f0, o0 + k * 5 + 4, none⟩ = some (.int .u64 (u.a3 : Int)) := below_cell hBk (hcx 4 (by decide) _ rfl)
          obtain ⟨w3, hw3⟩ : ∃ w : World, w = wr.alloc (.cells #[.int .u64 (u.k : Int), .int .u64 (u.a0 : Int), .int .u64 (u.a1 : Int), .int .u64 (u.a2 : Int), .int .u64 (u.a3 : Int)] 53) := ⟨_, rfl⟩
          obtain ⟨yk, hyk⟩ : ∃ y, y = wr.heap.size := ⟨_, rfl⟩
          have hb3 : Below wr.heap.size wr w3 := by rw [hw3]; exact (Below.refl _ _).alloc (Nat.le_refl _) _
          have hB3 := below_then hBk hBk.size hb3
          have hblk : w3.heap[yk]? = some (.cells #[.int .u64 (u.k : Int), .int .u64 (u.a0 : Int), .int .u64 (u.a1 : Int), .int .u64 (u.a2 : Int), .int .u64 (u.a3 : Int)] 53 (0, 0)) := by rw [hw3, hyk]; exact World.alloc_heap_new _ _
          have HU := Lib.hid (show w3.cell? ⟨yk, 0, none⟩ = some (.int .u64 (u.k : Int)) ∧ w3.cell? ⟨yk, 1, none⟩ = some (.int .u64 (u.a0 : Int)) ∧ w3.cell? ⟨yk, 2, none⟩ = some (.int .u64 (u.a1 : Int)) ∧ w3.cell? ⟨yk, 3, none⟩ = some (.int .u64 (u.a2 : Int)) ∧ w3.cell? ⟨yk, 4, none⟩ = some (.int .u64 (u.a3 : Int)) by
            refine ⟨?_, ?_, ?_, ?_, ?_⟩ <;> simp [World.cell?, hblk])
          have HV := Lib.hid (show w3.cell? ⟨f1, o1 + k * 5, none⟩ = some (.int .u64 (v.k : Int)) ∧ w3.cell? ⟨f1, o1 + k * 5 + 1, none⟩ = some (.int .u64 (v.a0 : Int)) ∧ w3.cell? ⟨f1, o1 + k * 5 + 2, none⟩ = some (.int .u64 (v.a1 : Int)) ∧ w3.cell? ⟨f1, o1 + k * 5 + 3, none⟩ = some (.int .u64 (v.a2 : Int)) ∧ w3.cell? ⟨f1, o1 + k * 5 + 4, none⟩ = some (.int .u64 (v.a3 : Int)) from
            ⟨below_cell hB3 (hcz 0 (by decide) _ rfl), below_cell hB3 (hcz 1 (by decide) _ rfl), below_cell hB3 (hcz 2 (by decide) _ rfl), below_cell hB3 (hcz 3 (by decide) _ rfl), below_cell hB3 (hcz 4 (by decide) _ rfl)⟩)
          have HW3 := Lib.hid (And.intro hw3 hyk)
          have HB3 := Lib.hid hB3
          clear hc0 hc1 hcx hcz hu hv hw3 hyk hb3 hB3 hblk
          go_upto_region 11 with (fail)
          rw [← HW3.out.1, ← HW3.out.2]
          clear hx0 hx1 hx2 hx3 hx4
          obtain ⟨g0, g1, g2, g3⟩ := (HX1.out.below HB3.out).cells
          have hyi := below_cell HB3.out HY0.out
          obtain ⟨hu0, hu1, hu2, hu3, hu4⟩ := HU.out
          obtain ⟨hv0, hv1, hv2, hv3, hv4⟩ := HV.out
          by_cases huv : u = v
          · have hcmp : ∀ w, (binOp .neq 53 (.agg #[.int .u64 (u.k : Int), .int .u64 (u.a0 : Int), .int .u64 (u.a1 : Int), .int .u64 (u.a2 : Int), .int .u64 (u.a3 : Int)]) (.agg #[.int .u64 (v.k : Int), .int .u64 (v.a0 : Int), .int .u64 (v.a1 : Int), .int .u64 (v.a2 : Int), .int .u64 (v.a3 : Int)])).run Tryd.prog w = .ok (.bool false) w := fun w => by
              have := run_neq_call u v w
              rw [decide_eq_true huv] at this
              exact this
            have HE2 := Lib.hid (show x.take (k + 1) = z.take (k + 1) by rw [HAK.out, HBK.out, HTK.out, ← HUV.out.1, ← HUV.out.2, huv])
            clear huv
            go_quiet (fail)
            go_wp2
            all_goals
              go_roundw
              case rel => exact ⟨k + 1, by omega, by go_num, HE2, below_drewN HB3.out _⟩
              case measure => simp [intOf]; omega
          · have hcmp : ∀ w, (binOp .neq 53 (.agg #[.int .u64 (u.k : Int), .int .u64 (u.a0 : Int), .int .u64 (u.a1 : Int), .int .u64 (u.a2 : Int), .int .u64 (u.a3 : Int)]) (.agg #[.int .u64 (v.k : Int), .int .u64 (v.a0 : Int), .int .u64 (v.a1 : Int), .int .u64 (v.a2 : Int), .int .u64 (v.a3 : Int)])).run Tryd.prog w = .ok (.bool true) w := fun w => by
              have := run_neq_call u v w
              rw [decide_eq_false huv] at this
              exact this
            have HR := Lib.hid (HNE.out fun e => huv (by rw [HUV.out.1, HUV.out.2]; simp [e]))
            clear huv
            go_quiet (fail)
            go_wp2
            all_goals go_ret
            all_goals exact ⟨ret_bool HR.out.symm, below_drewN (below_then HB0.out hs0 HB3.out) _⟩
        · have HXE := Lib.hid (show x = z by
            have := HTK.out
            rw [List.take_of_length_le (by have := HLX.out.1; omega), List.take_of_length_le (by have := HLX.out.2; omega)] at this
            exact this)
          have HE3 := Lib.hid (show a.ls.take (i + 1) = b.ls.take (i + 1) by rw [HA.out, HBB.out, HT.out, ← HXZ.out.1, ← HXZ.out.2, HXE.out])
          go_wp2
          go_roundw
          case rel => exact ⟨i + 1, by omega, by go_num, HE3, hBk⟩
          case measure => simp [intOf]; omega
    · have HLS := Lib.hid (show a.ls = b.ls by
        have := HT.out
        rw [List.take_of_length_le (by have := HL0.out.len; omega), List.take_of_length_le (by have := HL1.out.len; omega)] at this
        exact this)
      obtain ⟨f0, f1, f2, f3⟩ := (HX0.out.below hB).cells
      go_wp2
      clear f0 f1 f2 f3
      go_loopw [80] (fun kv wk => ∃ k : Nat, k ≤ m0 ∧ kv = .int .i64 k ∧ Hid (a.ps.take k = b.ps.take k) ∧ Below w0.heap.size w0 wk) (fun kv _ => m0 - (intOf kv).toNat)
      case atStart => exact ⟨0, Nat.zero_le _, rfl, Lib.hid rfl, hB⟩
      case round =>
        obtain ⟨k, hk, rfl, HTK, hBk⟩ := hrel
        by_cases hkl : k < m0
        · have hk0 : k < a.ps.length := by have := HP0.out.len; omega
          have hk1 : k < b.ps.length := by have := HP1.out.len; omega
          obtain ⟨f0, o0, rfl, hc0⟩ := HP0.out.cells (by omega)
          obtain ⟨f1, o1, rfl, hc1⟩ := HP1.out.cells (by omega)
          have hx := below_cell hBk (hc0 k hk0)
          have hy := below_cell hBk (hc1 k hk1)
          have HAK := Lib.hid (List.take_succ_eq_append_getElem hk0)
          have HBK := Lib.hid (List.take_succ_eq_append_getElem hk1)
          obtain ⟨u, hu⟩ : ∃ u, u = a.ps[k] := ⟨_, rfl⟩
          obtain ⟨v, hv⟩ : ∃ u, u = b.ps[k] := ⟨_, rfl⟩
          rw [← hu] at hx
          rw [← hv] at hy
          have HUV := Lib.hid (And.intro hu hv)
          obtain ⟨g0, g1, g2, g3⟩ := (HX1.out.below hBk).cells
          clear hc0 hc1 hu hv
          by_cases huv : u = v
          · have hcmp : (u != v) = false := by rw [bne_eq_false_iff_eq]; exact huv
            have HE2 := Lib.hid (show a.ps.take (k + 1) = b.ps.take (k + 1) by rw [HAK.out, HBK.out, HTK.out, ← HUV.out.1, ← HUV.out.2, huv])
            clear huv
            go_wp2
            go_roundw
            case rel => exact ⟨k + 1, by omega, by go_num, HE2, hBk⟩
            case measure => simp [intOf]; omega
          · have hcmp : (u != v) = true := by rw [bne_iff_ne]; exact huv
            have HR := Lib.hid (show sameB a b = false by
              have : a.ps ≠ b.ps := fun e => huv (by rw [HUV.out.1, HUV.out.2]; simp [e])
              simp [sameB, this])
            clear huv
            go_wp2
            go_ret
            exact ⟨ret_bool HR.out.symm, below_then HB0.out hs0 hBk⟩
        · have HR := Lib.hid (show sameB a b = true by
            have := HTK.out
            rw [List.take_of_length_le (by have := HP0.out.len; omega), List.take_of_length_le (by have := HP1.out.len; omega)] at this
            simp [sameB, HC.out, HG.out, HLS.out, this])
          go_wp2
          go_ret
          exact ⟨ret_bool HR.out.symm, below_then HB0.out hs0 hBk⟩

end Go.Proofs.YtjgdkfgcfningaaDoor
