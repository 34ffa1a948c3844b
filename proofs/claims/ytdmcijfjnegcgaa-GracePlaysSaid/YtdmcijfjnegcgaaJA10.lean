/-
  The reference of layer 11: Step.
  Conditions: the readers may be.
-/
import Derived.Test.YtdmcijfjnegcgaaJA9
import Derived.Test.YtdmcijfjnegcgaaJA6
import Derived.Deep.RegionLawGrows
import Derived.IntWalk
namespace Go.Proofs.Ytdmcijfjnegcgaa
set_option maxRecDepth 100000
open Go.RowKit Go.Shelf
attribute [local go_sem] Oper.semAt_some

/-- The readers that a step makes, in a box, with rows of their own. -/
structure OutAt (W : World) (z : Nat) (now : Int) (ns os : List Int) (p1 : Option Addr) (c1 : Nat) (p2 : Option Addr) (c2 : Nat) (w : World) : Prop where
  box : RBox w z now (.slice p1 ns.length c1) (.slice p2 os.length c2)
  nest : w.ownsRow W.heap.size 3 1 (.slice p1 ns.length c1) ns.length (ns.map (Value.int .i64))
  opened : w.ownsRow W.heap.size 3 1 (.slice p2 os.length c2) os.length (os.map (Value.int .i64))
  apart : ∀ g h : Nat, (Value.slice p1 ns.length c1).ownBlock = some g → (Value.slice p2 os.length c2).ownBlock = some h → g ≠ h
  below : Below W.heap.size W w
  late : W.heap.size ≤ z
theorem own_blk {g n c k : Nat} (h : (Value.slice (some ⟨g, 0, none⟩) n c).ownBlock = some k) : g = k := by simpa [Value.ownBlock] using h
theorem nums_src {W : World} {p : Option Addr} {n c : Nat} {ns : List Int} (h : NumsAt W .i64 (.slice p n c) ns) (hne : ns ≠ []) : ∃ b o, p = some ⟨b, o, none⟩ ∧ ∀ j u, (ns.map (Value.int .i64))[j]? = some u → W.cell? ((⟨b, o, none⟩ : Addr).add j) = some u := by
  obtain ⟨q, cap, e, hc⟩ := h
  injection e with e1 e2 e3
  subst e1
  obtain ⟨b, off, e, hcs⟩ := hc hne
  refine ⟨b, off, e, fun j u hj => ?_⟩
  obtain ⟨hj1, rfl⟩ := List.getElem?_eq_some_iff.1 hj
  rw [List.length_map] at hj1
  rw [addr_add_off, List.getElem_map]
  exact hcs j hj1

set_option maxHeartbeats 32000000 in
theorem rstep_c (s : RdS) (u v : Value) (cpu : Int) (en : Bool) (W : World) (g : Good s) (hu : NumsAt W .i64 u s.ns) (hv : NumsAt W .i64 v s.os) :
    Calls Try.prog 70 #[.agg #[.int .i64 s.now, u, v], .agg #[.int .i64 cpu, .bool en]] W fun e w' => (∃ nw p1 n1 c1 p2 n2 c2, e = .returned (.tuple #[.agg #[.int .i64 nw, .slice p1 n1 c1, .slice p2 n2 c2], .int .i64 (stepE s cpu en)]) ∧
      ((stepE s cpu en ≠ 0 ∧ nw = 0 ∧ (p1 = none ∧ n1 = 0 ∧ c1 = 0) ∧ (p2 = none ∧ n2 = 0 ∧ c2 = 0)) ∨ (stepE s cpu en = 0 ∧ nw = (stepS s cpu en).now ∧ n1 = (stepS s cpu en).ns.length ∧ n2 = (stepS s cpu en).os.length ∧ OwnR W.heap.size (stepS s cpu en) (.slice p1 n1 c1) (.slice p2 n2 c2) w'))) ∧ Below W.heap.size W w' := by
  obtain ⟨z0, hz0⟩ : ∃ z, z = W.heap.size := ⟨_, rfl⟩
  have hne : s.ns ≠ [] := fun e => by have := g.l1; rw [e] at this; simp at this
  have hne2 : s.os ≠ [] := fun e => by have := g.l1; have := g.lo; rw [e] at this; simp at this; omega
  obtain ⟨b1, o1, c, hsu⟩ : ∃ b o, ∃ c, u = .slice (some ⟨b, o, none⟩) s.ns.length c := by
    obtain ⟨p, c, rfl, hc⟩ := hu
    obtain ⟨b, o, rfl, _⟩ := hc hne
    exact ⟨b, o, c, rfl⟩
  obtain ⟨b2, o2, d, hsv⟩ : ∃ b o, ∃ c, v = .slice (some ⟨b, o, none⟩) s.os.length c := by
    obtain ⟨p, c, rfl, hc⟩ := hv
    obtain ⟨b, o, rfl, _⟩ := hc hne2
    exact ⟨b, o, c, rfl⟩
  subst hsu
  subst hsv
  obtain ⟨w1, hw1⟩ : ∃ X : World, X = ((W.alloc (.cells #[.int .i64 s.now, .slice (some ⟨b1, o1, none⟩) s.ns.length c, .slice (some ⟨b2, o2, none⟩) s.os.length d] 45)).alloc (.cells #[.int .i64 cpu, .bool en] 102)).alloc (.cells #[.int .i64 0, .slice none 0 0, .slice none 0 0] 45) := ⟨_, rfl⟩
  have hb1 : Below W.heap.size W w1 := by rw [hw1]; exact below3 _ _ _ _
  have HW1 := Lib.hid (show RBox w1 z0 s.now (.slice (some ⟨b1, o1, none⟩) s.ns.length c) (.slice (some ⟨b2, o2, none⟩) s.os.length d) ∧ QBox w1 (z0 + 1) cpu en ∧ RBox w1 (z0 + 1 + 1) 0 (.slice none 0 0) (.slice none 0 0) ∧ Below W.heap.size W w1 by
    refine ⟨?_, ?_, ?_, hb1⟩
    · rw [hw1, hz0]; exact ((RBox.new _ _ _ _).below (below1 _ _)).below (below1 _ _)
    · have := (QBox.new (W.alloc (.cells #[.int .i64 s.now, .slice (some ⟨b1, o1, none⟩) s.ns.length c, .slice (some ⟨b2, o2, none⟩) s.os.length d] 45)) cpu en).below (below1 _ (.cells #[.int .i64 0, .slice none 0 0, .slice none 0 0] 45))
      rw [World.size_alloc] at this
      rw [hw1, hz0]; exact this
    · have := RBox.new ((W.alloc (.cells #[.int .i64 s.now, .slice (some ⟨b1, o1, none⟩) s.ns.length c, .slice (some ⟨b2, o2, none⟩) s.os.length d] 45)).alloc (.cells #[.int .i64 cpu, .bool en] 102)) 0 (.slice none 0 0) (.slice none 0 0)
      rw [World.size_alloc, World.size_alloc] at this
      rw [hw1, hz0]; exact this)
  have HZ0 := Lib.hid (show W.heap.size = z0 ∧ w1.heap.size = z0 + 3 from ⟨hz0.symm, by rw [hw1, hz0]; simp⟩)
  have HNS := Lib.hid (And.intro (nums_below hu hb1) (nums_below hv hb1))
  have HSU := Lib.hid (fun (X : World) (hb : Below w1.heap.size w1 X) => show ∀ j u, (s.ns.map (Value.int .i64))[j]? = some u → X.cell? ((⟨b1, o1, none⟩ : Addr).add j) = some u from fun j u hj => by
    obtain ⟨b, o, e, h⟩ := nums_src (nums_below HNS.out.1 hb) hne
    injection e with e
    rw [e]; exact h j u hj)
  have HSV := Lib.hid (fun (X : World) (hb : Below w1.heap.size w1 X) => show ∀ j u, (s.os.map (Value.int .i64))[j]? = some u → X.cell? ((⟨b2, o2, none⟩ : Addr).add j) = some u from fun j u hj => by
    obtain ⟨b, o, e, h⟩ := nums_src (nums_below HNS.out.2 hb) hne2
    injection e with e
    rw [e]; exact h j u hj)
  have HZL := Lib.hid (fun (X : World) (hb : Below w1.heap.size w1 X) => show RBox X z0 s.now (.slice (some ⟨b1, o1, none⟩) s.ns.length c) (.slice (some ⟨b2, o2, none⟩) s.os.length d) from HW1.out.1.below hb)
  have hl1 := g.l1
  have hl8 := g.l8
  have HLO := Lib.hid g.lo
  have hlo8 : 1 ≤ s.os.length ∧ s.os.length ≤ 8 := by have := g.lo; omega
  have hn0 := g.n0
  have hn1 := g.n1
  have HG := Lib.hid g
  obtain ⟨e0, e1, e2⟩ := HW1.out.1.cells
  obtain ⟨x0, x1⟩ := HW1.out.2.1.cells
  clear hu hv hne hne2 hb1 g
  by_cases hh : hasB s.ns.length cpu = true
  · obtain ⟨i, rfl, hi⟩ := (has_iff _ _).1 hh
    obtain ⟨n, hn⟩ : ∃ n, n = nN s i := ⟨_, rfl⟩
    have hx : w1.cell? ⟨b1, o1 + i, none⟩ = some (.int .i64 n) := by
      obtain ⟨b, o, e, h⟩ := nums_at HNS.out.1 hi
      injection e with e
      injection e with ea eb
      rw [ea, eb, hn]; exact h
    have hi0 : (0 : Int) ≤ (i : Int) := by omega
    have his : (i : Int) < (s.ns.length : Int) := by omega
    have hnn : 0 ≤ n ∧ n ≤ 8 := by have := HG.out.each i hi; rw [← hn] at this; omega
    have HN := Lib.hid hn
    have HHH := Lib.hid hh
    clear hh hn
    go_enter Try.func70, Try.ntmps70
    have hd1 : decide ((i : Int) < 0) = false := decide_eq_false (by omega)
    have hd2 : decide (s.ns.length ≤ i) = false := decide_eq_false (by omega)
    go_upto_region 1 with fail
    rw [← hw1, ← hz0]
    clear hw1 hz0
    go_upto_region 4 with fail
    by_cases h6 : s.now = 2147483647 ∨ (en = true ∧ n = 8)
    · have hE : stepE s (i : Int) en = 6 := by
        unfold stepE
        rw [if_neg (by rw [HHH.out]; exact Bool.noConfusion), Int.toNat_natCast, if_pos (by rw [HN.out] at h6; exact h6)]
      rcases (show (s.now = 2147483647) ∨ (s.now ≠ 2147483647 ∧ en = true ∧ n = 8) by by_cases e : s.now = 2147483647; exact .inl e; exact .inr ⟨e, by rcases h6 with h | h; exact absurd h e; exact h⟩) with h | ⟨h, rfl, h8⟩
      · have HZX := Lib.hid HW1.out.2.2.1
        obtain ⟨f0, f1, f2⟩ := HZX.out.cells
        have m0 := HZX.out.marks 0
        have m1 := HZX.out.marks 1
        have m2 := HZX.out.marks 2
        have HP := Lib.hid (HZX.out.put 0 (.slice none 0 0) (.slice none 0 0))
        have HK := Lib.hid (RBox.putK w1 (z0 + 1 + 1) 0 (.slice none 0 0) (.slice none 0 0))
        obtain ⟨w3, hw3⟩ : ∃ X : World, X = (((w1.setCell ⟨z0 + 1 + 1, 0, none⟩ (.int .i64 0)).setCell ⟨z0 + 1 + 1, 1, none⟩ (.slice none 0 0)).setCell ⟨z0 + 1 + 1, 2, none⟩ (.slice none 0 0)) := ⟨_, rfl⟩
        rw [← hw3] at HP HK
        have HW3 := Lib.hid hw3
        have HEN := Lib.hid (show _ = (6 : Int) from hE)
        clear hw3 hE
        have hq1 : (s.now == 2147483647) = true := by rw [h]; rfl
        clear h h6 hx
        go_wp2
        rw [← HW3.out]
        exact bodyPost_ret (v := .tuple #[zeroR, .int .i64 6]) (HP.out.result2 rfl _ rfl rfl) rfl ⟨⟨0, none, 0, 0, none, 0, 0, by rw [HEN.out]; rfl, .inl ⟨by rw [HEN.out]; decide, rfl, ⟨rfl, rfl, rfl⟩, ⟨rfl, rfl, rfl⟩⟩⟩, HW1.out.2.2.2.trans (HK.out.below HW1.out.2.2.2.size (fun k e => by have := HZ0.out; omega))⟩
      · have HZX := Lib.hid HW1.out.2.2.1
        obtain ⟨f0, f1, f2⟩ := HZX.out.cells
        have m0 := HZX.out.marks 0
        have m1 := HZX.out.marks 1
        have m2 := HZX.out.marks 2
        have HP := Lib.hid (HZX.out.put 0 (.slice none 0 0) (.slice none 0 0))
        have HK := Lib.hid (RBox.putK w1 (z0 + 1 + 1) 0 (.slice none 0 0) (.slice none 0 0))
        obtain ⟨w3, hw3⟩ : ∃ X : World, X = (((w1.setCell ⟨z0 + 1 + 1, 0, none⟩ (.int .i64 0)).setCell ⟨z0 + 1 + 1, 1, none⟩ (.slice none 0 0)).setCell ⟨z0 + 1 + 1, 2, none⟩ (.slice none 0 0)) := ⟨_, rfl⟩
        rw [← hw3] at HP HK
        have HW3 := Lib.hid hw3
        have HEN := Lib.hid (show _ = (6 : Int) from hE)
        clear hw3 hE
        have hq1 : (s.now == 2147483647) = false := by rw [beq_eq_false_iff_ne]; exact h
        have hq2 : (n == 8) = true := by rw [h8]; rfl
        clear h h8 h6 hx
        go_wp2
        rw [← HW3.out]
        exact bodyPost_ret (v := .tuple #[zeroR, .int .i64 6]) (HP.out.result2 rfl _ rfl rfl) rfl ⟨⟨0, none, 0, 0, none, 0, 0, by rw [HEN.out]; rfl, .inl ⟨by rw [HEN.out]; decide, rfl, ⟨rfl, rfl, rfl⟩, ⟨rfl, rfl, rfl⟩⟩⟩, HW1.out.2.2.2.trans (HK.out.below HW1.out.2.2.2.size (fun k e => by have := HZ0.out; omega))⟩
    · by_cases h4 : en = false ∧ n = 0
      · have hE : stepE s (i : Int) en = 4 := by
          unfold stepE
          rw [if_neg (by rw [HHH.out]; exact Bool.noConfusion), Int.toNat_natCast, if_neg (by rw [HN.out] at h6; exact h6), if_pos (by rw [HN.out] at h4; exact h4)]
        obtain ⟨rfl, h0⟩ := h4
        have hq1 : (s.now == 2147483647) = false := by rw [beq_eq_false_iff_ne]; exact fun e => h6 (.inl e)
        have hq2 : (n == 0) = true := by rw [h0]; rfl
        have HZX := Lib.hid HW1.out.2.2.1
        obtain ⟨f0, f1, f2⟩ := HZX.out.cells
        have m0 := HZX.out.marks 0
        have m1 := HZX.out.marks 1
        have m2 := HZX.out.marks 2
        have HP := Lib.hid (HZX.out.put 0 (.slice none 0 0) (.slice none 0 0))
        have HK := Lib.hid (RBox.putK w1 (z0 + 1 + 1) 0 (.slice none 0 0) (.slice none 0 0))
        obtain ⟨w3, hw3⟩ : ∃ X : World, X = (((w1.setCell ⟨z0 + 1 + 1, 0, none⟩ (.int .i64 0)).setCell ⟨z0 + 1 + 1, 1, none⟩ (.slice none 0 0)).setCell ⟨z0 + 1 + 1, 2, none⟩ (.slice none 0 0)) := ⟨_, rfl⟩
        rw [← hw3] at HP HK
        have HW3 := Lib.hid hw3
        have HEN := Lib.hid (show _ = (4 : Int) from hE)
        clear hw3 hE
        clear h6 h0 hx
        go_wp2
        rw [← HW3.out]
        exact bodyPost_ret (v := .tuple #[zeroR, .int .i64 4]) (HP.out.result2 rfl _ rfl rfl) rfl ⟨⟨0, none, 0, 0, none, 0, 0, by rw [HEN.out]; rfl, .inl ⟨by rw [HEN.out]; decide, rfl, ⟨rfl, rfl, rfl⟩, ⟨rfl, rfl, rfl⟩⟩⟩, HW1.out.2.2.2.trans (HK.out.below HW1.out.2.2.2.size (fun k e => by have := HZ0.out; omega))⟩
      · have hE : stepE s (i : Int) en = 0 := by
          unfold stepE
          rw [if_neg (by rw [HHH.out]; exact Bool.noConfusion), Int.toNat_natCast, if_neg (by rw [HN.out] at h6; exact h6), if_neg (by rw [HN.out] at h4; exact h4)]
        have HE := Lib.hid hE
        have hq1 : (s.now == 2147483647) = false := by rw [beq_eq_false_iff_ne]; exact fun e => h6 (.inl e)
        have hnow : s.now < 2147483647 := by have : s.now ≠ 2147483647 := fun e => h6 (.inl e); omega
        obtain ⟨i0, hi1, hzz0, hzz1, hzz2⟩ := info_parts cloneI_info
        have HI0 := Lib.hid (And.intro hi1 (And.intro hzz0 (And.intro hzz1 hzz2)))
        have hq2 : en = true → (n == 8) = false := fun e => by rw [beq_eq_false_iff_ne]; exact fun e2 => h6 (.inr ⟨e, e2⟩)
        have hq3 : en = false → (n == 0) = false := fun e => by rw [beq_eq_false_iff_ne]; exact fun e2 => h4 ⟨e, e2⟩
        clear hE h6 h4 hi1 hzz0 hzz1 hzz2
        cases en with
        | true =>
          have hq4 := hq2 rfl
          clear hq2 hq3
          go_upto_region 8 with fail
          go_cut [7] (fun s7 wc => ∃ (z7 : Nat) (q1 : Option Addr) (r1 : Nat) (q2 : Option Addr) (r2 : Nat), s7 = .pointer (some ⟨z7, 0, none⟩) ∧ Hid (OutAt w1 z7 (s.now + 1) s.ns s.os q1 r1 q2 r2 wc))
          case first => as_aux_lemma =>
            refine wpTwo_begin (T := fun w' => RBox w' z0 s.now (.slice (some ⟨b1, o1, none⟩) s.ns.length c) (.slice (some ⟨b2, o2, none⟩) s.os.length d)) (S := fun _ => True) (late := fun _ => false) (by kernel_rfl) ?_
            obtain ⟨X0, hX0⟩ : ∃ X : World, X = w1.drew := ⟨_, rfl⟩
            rw [← hX0]
            have HB0 := Lib.hid (show Below w1.heap.size w1 X0 by rw [hX0]; exact (Below.refl _ _).drew)
            have hT0 : RBox X0 z0 s.now (.slice (some ⟨b1, o1, none⟩) s.ns.length c) (.slice (some ⟨b2, o2, none⟩) s.os.length d) := HZL.out _ HB0.out
            clear hX0 e0 e1 e2
            refine wpTwo_takeT (i := 0) (v := .pointer (some ⟨z0, 0, none⟩)) rfl (by kernel_rfl) (by kernel_rfl) (by kernel_rfl) (fun _ _ _ h => h) ⟨by rfl, ?_⟩ hT0 ?_
            · rintro w hTw
              go_simp
            (try simp only [Act.put, List.getElem_toArray, List.getElem_cons_zero, List.setIfInBounds_toArray, List.set_cons_succ, List.set_cons_zero])
            refine wpTwo_takeT (i := 1) (v := .int .i64 s.now) rfl (by kernel_rfl) (by kernel_rfl) (by kernel_rfl) (fun _ _ _ h => h) ⟨by rfl, ?_⟩ hT0 ?_
            · rintro w hTw
              obtain ⟨t0', t1', t2'⟩ := hTw.cells
              go_simp
            (try simp only [Act.put, List.getElem_toArray, List.getElem_cons_succ, List.getElem_cons_zero, List.setIfInBounds_toArray, List.set_cons_succ, List.set_cons_zero])
            refine wpTwo_takeT (i := 2) (v := .int .i64 (s.now + 1)) rfl (by kernel_rfl) (by kernel_rfl) (by kernel_rfl) (fun _ _ _ h => h) ⟨by rfl, ?_⟩ hT0 ?_
            · rintro w hTw
              have hwr : IntKind.i64.wrap (s.now + 1) = s.now + 1 := IntWalk.i64_in _ (by omega)
              go_simp
            (try simp only [Act.put, List.getElem_toArray, List.getElem_cons_succ, List.getElem_cons_zero, List.setIfInBounds_toArray, List.set_cons_succ, List.set_cons_zero])
            refine wpTwo_takeT (i := 4) (v := .pointer (some ⟨z0, 1, none⟩)) rfl (by kernel_rfl) (by kernel_rfl) (by kernel_rfl) (fun _ _ _ h => h) ⟨by rfl, ?_⟩ hT0 ?_
            · rintro w hTw
              go_simp
            (try simp only [Act.put, List.getElem_toArray, List.getElem_cons_succ, List.getElem_cons_zero, List.setIfInBounds_toArray, List.set_cons_succ, List.set_cons_zero])
            refine wpTwo_takeT (i := 5) (v := .slice (some ⟨b1, o1, none⟩) s.ns.length c) rfl (by kernel_rfl) (by kernel_rfl) (by kernel_rfl) (fun _ _ _ h => h) ⟨by rfl, ?_⟩ hT0 ?_
            · rintro w hTw
              obtain ⟨t0', t1', t2'⟩ := hTw.cells
              go_simp
            (try simp only [Act.put, List.getElem_toArray, List.getElem_cons_succ, List.getElem_cons_zero, List.setIfInBounds_toArray, List.set_cons_succ, List.set_cons_zero])
            refine wpTwo_takeT (i := 8) (v := .pointer (some ⟨z0, 2, none⟩)) rfl (by kernel_rfl) (by kernel_rfl) (by kernel_rfl) (fun _ _ _ h => h) ⟨by rfl, ?_⟩ hT0 ?_
            · rintro w hTw
              go_simp
            (try simp only [Act.put, List.getElem_toArray, List.getElem_cons_succ, List.getElem_cons_zero, List.setIfInBounds_toArray, List.set_cons_succ, List.set_cons_zero])
            refine wpTwo_takeT (i := 9) (v := .slice (some ⟨b2, o2, none⟩) s.os.length d) rfl (by kernel_rfl) (by kernel_rfl) (by kernel_rfl) (fun _ _ _ h => h) ⟨by rfl, ?_⟩ hT0 ?_
            · rintro w hTw
              obtain ⟨t0', t1', t2'⟩ := hTw.cells
              go_simp
            (try simp only [Act.put, List.getElem_toArray, List.getElem_cons_succ, List.getElem_cons_zero, List.setIfInBounds_toArray, List.set_cons_succ, List.set_cons_zero])
            refine wpTwo_ready (rs := [3, 7, 12]) (by kernel_rfl) (by simp) ?_
            refine (AllTwo.cons rfl (fun K hK => ?_) (AllTwo.cons rfl (fun K hK => ?_) (AllTwo.cons rfl (fun K hK => ?_) AllTwo.nil)))
            · go_simp
              obtain ⟨gHC, hy⟩ : ∃ q, q = X0.heap.size := ⟨_, rfl⟩
              obtain ⟨X1, hX⟩ : ∃ X : World, X = X0.alloc (.cells #[] 3) := ⟨_, rfl⟩
              rw [← hX, ← hy]
              have hb : Below X0.heap.size X0 X1 := by rw [hX]; exact below1 _ _
              have hT1 := hT0.below hb
              have HB1 := Lib.hid (below_then HB0.out HB0.out.size hb)
              have HC1 := Lib.hid True.intro
              clear hb hX hy
              refine hK.out _ _ ⟨hT1, fun _ _ => trivial⟩ ?_
              clear hK K
              (try simp only [Act.put, List.getElem_toArray, List.getElem_cons_succ, List.getElem_cons_zero, List.setIfInBounds_toArray, List.set_cons_succ, List.set_cons_zero])
              refine wpTwo_ready (rs := [6, 7, 12]) (by kernel_rfl) (by simp) ?_
              refine (AllTwo.cons rfl (fun K hK => ?_) (AllTwo.cons rfl (fun K hK => ?_) (AllTwo.cons rfl (fun K hK => ?_) AllTwo.nil)))
              · refine step_append_grows (by rfl) _ _ 25 (by rfl) 3 i0 (.int .i64 0) 1 8 Try.underlying25 HI0.out.1 HI0.out.2.1 HI0.out.2.2.1 HI0.out.2.2.2 rfl (by decide) (some ⟨gHC, 0, none⟩) 0 0 [] (by rfl) (fun e => by cases e) rfl (fun b _ j u hj => by cases hj) ⟨b1, o1, none⟩ s.ns.length c (s.ns.map (Value.int .i64)) (by rfl) (by rw [List.length_map]; omega) (HSU.out X1 HB1.out) (fun u hu => by obtain ⟨x, _, rfl⟩ := List.mem_map.1 hu; rfl) (by omega) (by unfold maxLen; omega) (by omega) ?_
                intro v' X2 hown hgr
                obtain ⟨qHP, rHP, rfl⟩ := owns_slice hown
                rw [Nat.zero_add] at hown
                simp only [Nat.zero_add]
                have hb : Below X1.heap.size X1 X2 := ⟨hgr.os, hgr.tape, hgr.output, hgr.size, fun k hk => hgr.block k hk (by simp)⟩
                have hT2 := hT1.below hb
                have HB2 := Lib.hid (below_then HB1.out HB1.out.size hb)
                have HC2 := Lib.hid (True.intro)
                have HP2 := Lib.hid (show X2.ownsRow w1.heap.size 3 1 (.slice qHP s.ns.length rHP) s.ns.length (s.ns.map (Value.int .i64)) from (by simpa using hown.mono HB1.out.size))
                clear hb hown hgr
                refine hK.out _ _ ⟨hT2, fun _ _ => trivial⟩ ?_
                clear hK K
                (try simp only [Act.put, List.getElem_toArray, List.getElem_cons_succ, List.getElem_cons_zero, List.setIfInBounds_toArray, List.set_cons_succ, List.set_cons_zero])
                refine wpTwo_ready (rs := [7, 12]) (by kernel_rfl) (by simp) ?_
                refine (AllTwo.cons rfl (fun K hK => ?_) (AllTwo.cons rfl (fun K hK => ?_) AllTwo.nil))
                · go_simp
                  obtain ⟨gHD, hy⟩ : ∃ q, q = X2.heap.size := ⟨_, rfl⟩
                  obtain ⟨X3, hX⟩ : ∃ X : World, X = X2.alloc (.cells #[] 3) := ⟨_, rfl⟩
                  rw [← hX, ← hy]
                  have hb : Below X2.heap.size X2 X3 := by rw [hX]; exact below1 _ _
                  have hT3 := hT2.below hb
                  have HB3 := Lib.hid (below_then HB2.out HB2.out.size hb)
                  have HC3 := Lib.hid (True.intro)
                  have HP3 := Lib.hid (owns_below HP2.out hb)
                  have HD3 := Lib.hid True.intro
                  clear hb hX hy
                  refine hK.out _ _ ⟨hT3, fun _ _ => trivial⟩ ?_
                  clear hK K
                  (try simp only [Act.put, List.getElem_toArray, List.getElem_cons_succ, List.getElem_cons_zero, List.setIfInBounds_toArray, List.set_cons_succ, List.set_cons_zero])
                  refine wpTwo_ready (rs := [10, 12]) (by kernel_rfl) (by simp) ?_
                  refine (AllTwo.cons rfl (fun K hK => ?_) (AllTwo.cons rfl (fun K hK => ?_) AllTwo.nil))
                  · refine step_append_grows (by rfl) _ _ 25 (by rfl) 3 i0 (.int .i64 0) 1 8 Try.underlying25 HI0.out.1 HI0.out.2.1 HI0.out.2.2.1 HI0.out.2.2.2 rfl (by decide) (some ⟨gHD, 0, none⟩) 0 0 [] (by rfl) (fun e => by cases e) rfl (fun b _ j u hj => by cases hj) ⟨b2, o2, none⟩ s.os.length d (s.os.map (Value.int .i64)) (by rfl) (by rw [List.length_map]; omega) (HSV.out X3 HB3.out) (fun u hu => by obtain ⟨x, _, rfl⟩ := List.mem_map.1 hu; rfl) (by omega) (by unfold maxLen; omega) (by omega) ?_
                    intro v' X4 hown hgr
                    obtain ⟨qHQ, rHQ, rfl⟩ := owns_slice hown
                    rw [Nat.zero_add] at hown
                    simp only [Nat.zero_add]
                    have hb : Below X3.heap.size X3 X4 := ⟨hgr.os, hgr.tape, hgr.output, hgr.size, fun k hk => hgr.block k hk (by simp)⟩
                    have hT4 := hT3.below hb
                    have HB4 := Lib.hid (below_then HB3.out HB3.out.size hb)
                    have HC4 := Lib.hid (True.intro)
                    have HP4 := Lib.hid (owns_below HP3.out hb)
                    have HD4 := Lib.hid (True.intro)
                    have HQ4 := Lib.hid (show X4.ownsRow w1.heap.size 3 1 (.slice qHQ s.os.length rHQ) s.os.length (s.os.map (Value.int .i64)) from (by simpa using hown.mono HB3.out.size))
                    have HAP := Lib.hid (show ∀ g h : Nat, (Value.slice qHP s.ns.length rHP).ownBlock = some g → (Value.slice qHQ s.os.length rHQ).ownBlock = some h → g ≠ h from fun g h e1 e2 e => by have h1 := (HP3.out.lt g e1).2; have h2 := (hown.lt h (by simpa using e2)).1; omega)
                    clear hb hown hgr
                    refine hK.out _ _ ⟨hT4, fun _ _ => trivial⟩ ?_
                    clear hK K
                    (try simp only [Act.put, List.getElem_toArray, List.getElem_cons_succ, List.getElem_cons_zero, List.setIfInBounds_toArray, List.set_cons_succ, List.set_cons_zero])
                    refine wpTwo_takeT (i := 11) (v := .agg #[.int .i64 (s.now + 1), .slice qHP s.ns.length rHP, .slice qHQ s.os.length rHQ]) rfl (by kernel_rfl) (by kernel_rfl) (by kernel_rfl) (fun _ _ _ h => h) ⟨by rfl, ?_⟩ hT4 ?_
                    · rintro w hTw
                      go_simp
                    (try simp only [Act.put, List.getElem_toArray, List.getElem_cons_succ, List.getElem_cons_zero, List.setIfInBounds_toArray, List.set_cons_succ, List.set_cons_zero])
                    refine wpTwo_ready (rs := [12]) (by kernel_rfl) (by simp) ?_
                    refine (AllTwo.cons rfl (fun K hK => ?_) AllTwo.nil)
                    · go_simp
                      obtain ⟨z7, hy⟩ : ∃ q, q = X4.heap.size := ⟨_, rfl⟩
                      obtain ⟨X5, hX⟩ : ∃ X : World, X = X4.alloc (.cells #[.int .i64 0, .slice none 0 0, .slice none 0 0] 45) := ⟨_, rfl⟩
                      rw [← hX, ← hy]
                      have hb : Below X4.heap.size X4 X5 := by rw [hX]; exact below1 _ _
                      have hz7 : w1.heap.size ≤ z7 := by rw [hy]; exact HB4.out.size
                      have hT5 := hT4.below hb
                      have HB5 := Lib.hid (below_then HB4.out HB4.out.size hb)
                      have HC5 := Lib.hid (True.intro)
                      have HP5 := Lib.hid (owns_below HP4.out hb)
                      have HD5 := Lib.hid (True.intro)
                      have HQ5 := Lib.hid (owns_below HQ4.out hb)
                      have HA5 := Lib.hid (show RBox X5 z7 0 (.slice none 0 0) (.slice none 0 0) by rw [hX, hy]; exact RBox.new _ _ _ _)
                      clear hb hX hy
                      refine hK.out _ _ ⟨hT5, fun _ _ => trivial⟩ ?_
                      clear hK K
                      (try simp only [Act.put, List.getElem_toArray, List.getElem_cons_succ, List.getElem_cons_zero, List.setIfInBounds_toArray, List.set_cons_succ, List.set_cons_zero])
                      refine wpTwo_ready (rs := [13]) (by kernel_rfl) (by simp) ?_
                      refine (AllTwo.cons rfl (fun K hK => ?_) AllTwo.nil)
                      obtain ⟨d0, d1, d2⟩ := HA5.out.cells
                      have v0 := HA5.out.marks 0
                      have v1 := HA5.out.marks 1
                      have v2 := HA5.out.marks 2
                      obtain ⟨Xa, hXa⟩ : ∃ X : World, X = ((X5.setCell ⟨z7, 0, none⟩ (.int .i64 (s.now + 1))).setCell ⟨z7, 1, none⟩ (.slice qHP s.ns.length rHP)).setCell ⟨z7, 2, none⟩ (.slice qHQ s.os.length rHQ) := ⟨_, rfl⟩
                      have hka : Keeps (fun q => q = z7) X5 Xa := by rw [hXa]; exact RBox.putK X5 z7 _ _ _
                      have hrw : ∀ {v : Value} {n : Nat} {xs : List Int}, X5.ownsRow w1.heap.size 3 1 v n (xs.map (Value.int .i64)) → Xa.ownsRow w1.heap.size 3 1 v n (xs.map (Value.int .i64)) := fun {v n xs} h => hka.row h (fun g hg e => by
                        obtain ⟨cc, f, h1⟩ := Lib.ownsRow_kind h g hg
                        have h2 : X5.heap[z7]? = _ := HA5.out
                        rw [e, h2] at h1
                        simp at h1)
                      have HF := Lib.hid (show OutAt w1 z7 (s.now + 1) s.ns s.os qHP rHP qHQ rHQ Xa from ⟨by rw [hXa]; exact HA5.out.put _ _ _, hrw HP5.out, hrw HQ5.out, HAP.out, HB5.out.trans (hka.below HB5.out.size (fun q hq => by omega)), hz7⟩)
                      have hTa : RBox Xa z0 s.now (.slice (some ⟨b1, o1, none⟩) s.ns.length c) (.slice (some ⟨b2, o2, none⟩) s.os.length d) := HZL.out _ HF.out.below
                      go_simp
                      rw [← hXa]
                      refine hK.out _ _ ⟨hTa, fun _ _ => trivial⟩ ?_
                      clear hK K d0 d1 d2 v0 v1 v2 hXa hka hrw
                      (try simp only [Act.put, List.getElem_toArray, List.getElem_cons_succ, List.getElem_cons_zero, List.setIfInBounds_toArray, List.set_cons_succ, List.set_cons_zero])
                      refine wpTwo_end (by kernel_rfl) ?_ _
                      go_wp2
                      go_meet
                      exact ⟨z7, qHP, rHP, qHQ, rHQ, rfl, HF⟩
                  · go_simp
                    obtain ⟨z7, hy⟩ : ∃ q, q = X3.heap.size := ⟨_, rfl⟩
                    obtain ⟨X4, hX⟩ : ∃ X : World, X = X3.alloc (.cells #[.int .i64 0, .slice none 0 0, .slice none 0 0] 45) := ⟨_, rfl⟩
                    rw [← hX, ← hy]
                    have hb : Below X3.heap.size X3 X4 := by rw [hX]; exact below1 _ _
                    have hz7 : w1.heap.size ≤ z7 := by rw [hy]; exact HB3.out.size
                    have hT4 := hT3.below hb
                    have HB4 := Lib.hid (below_then HB3.out HB3.out.size hb)
                    have HC4 := Lib.hid (True.intro)
                    have HP4 := Lib.hid (owns_below HP3.out hb)
                    have HD4 := Lib.hid (True.intro)
                    have HA4 := Lib.hid (show RBox X4 z7 0 (.slice none 0 0) (.slice none 0 0) by rw [hX, hy]; exact RBox.new _ _ _ _)
                    clear hb hX hy
                    refine hK.out _ _ ⟨hT4, fun _ _ => trivial⟩ ?_
                    clear hK K
                    (try simp only [Act.put, List.getElem_toArray, List.getElem_cons_succ, List.getElem_cons_zero, List.setIfInBounds_toArray, List.set_cons_succ, List.set_cons_zero])
                    refine wpTwo_ready (rs := [10]) (by kernel_rfl) (by simp) ?_
                    refine (AllTwo.cons rfl (fun K hK => ?_) AllTwo.nil)
                    · refine step_append_grows (by rfl) _ _ 25 (by rfl) 3 i0 (.int .i64 0) 1 8 Try.underlying25 HI0.out.1 HI0.out.2.1 HI0.out.2.2.1 HI0.out.2.2.2 rfl (by decide) (some ⟨gHD, 0, none⟩) 0 0 [] (by rfl) (fun e => by cases e) rfl (fun b _ j u hj => by cases hj) ⟨b2, o2, none⟩ s.os.length d (s.os.map (Value.int .i64)) (by rfl) (by rw [List.length_map]; omega) (HSV.out X4 HB4.out) (fun u hu => by obtain ⟨x, _, rfl⟩ := List.mem_map.1 hu; rfl) (by omega) (by unfold maxLen; omega) (by omega) ?_
                      intro v' X5 hown hgr
                      obtain ⟨qHQ, rHQ, rfl⟩ := owns_slice hown
                      rw [Nat.zero_add] at hown
                      simp only [Nat.zero_add]
                      have hb : Below X4.heap.size X4 X5 := ⟨hgr.os, hgr.tape, hgr.output, hgr.size, fun k hk => hgr.block k hk (by simp)⟩
                      have hT5 := hT4.below hb
                      have HB5 := Lib.hid (below_then HB4.out HB4.out.size hb)
                      have HC5 := Lib.hid (True.intro)
                      have HP5 := Lib.hid (owns_below HP4.out hb)
                      have HD5 := Lib.hid (True.intro)
                      have HA5 := Lib.hid (HA4.out.below hb)
                      have HQ5 := Lib.hid (show X5.ownsRow w1.heap.size 3 1 (.slice qHQ s.os.length rHQ) s.os.length (s.os.map (Value.int .i64)) from (by simpa using hown.mono HB4.out.size))
                      have HAP := Lib.hid (show ∀ g h : Nat, (Value.slice qHP s.ns.length rHP).ownBlock = some g → (Value.slice qHQ s.os.length rHQ).ownBlock = some h → g ≠ h from fun g h e1 e2 e => by have h1 := (HP4.out.lt g e1).2; have h2 := (hown.lt h (by simpa using e2)).1; omega)
                      clear hb hown hgr
                      refine hK.out _ _ ⟨hT5, fun _ _ => trivial⟩ ?_
                      clear hK K
                      (try simp only [Act.put, List.getElem_toArray, List.getElem_cons_succ, List.getElem_cons_zero, List.setIfInBounds_toArray, List.set_cons_succ, List.set_cons_zero])
                      refine wpTwo_takeT (i := 11) (v := .agg #[.int .i64 (s.now + 1), .slice qHP s.ns.length rHP, .slice qHQ s.os.length rHQ]) rfl (by kernel_rfl) (by kernel_rfl) (by kernel_rfl) (fun _ _ _ h => h) ⟨by rfl, ?_⟩ hT5 ?_
                      · rintro w hTw
                        go_simp
                      (try simp only [Act.put, List.getElem_toArray, List.getElem_cons_succ, List.getElem_cons_zero, List.setIfInBounds_toArray, List.set_cons_succ, List.set_cons_zero])
                      refine wpTwo_ready (rs := [13]) (by kernel_rfl) (by simp) ?_
                      refine (AllTwo.cons rfl (fun K hK => ?_) AllTwo.nil)
                      obtain ⟨d0, d1, d2⟩ := HA5.out.cells
                      have v0 := HA5.out.marks 0
                      have v1 := HA5.out.marks 1
                      have v2 := HA5.out.marks 2
                      obtain ⟨Xa, hXa⟩ : ∃ X : World, X = ((X5.setCell ⟨z7, 0, none⟩ (.int .i64 (s.now + 1))).setCell ⟨z7, 1, none⟩ (.slice qHP s.ns.length rHP)).setCell ⟨z7, 2, none⟩ (.slice qHQ s.os.length rHQ) := ⟨_, rfl⟩
                      have hka : Keeps (fun q => q = z7) X5 Xa := by rw [hXa]; exact RBox.putK X5 z7 _ _ _
                      have hrw : ∀ {v : Value} {n : Nat} {xs : List Int}, X5.ownsRow w1.heap.size 3 1 v n (xs.map (Value.int .i64)) → Xa.ownsRow w1.heap.size 3 1 v n (xs.map (Value.int .i64)) := fun {v n xs} h => hka.row h (fun g hg e => by
                        obtain ⟨cc, f, h1⟩ := Lib.ownsRow_kind h g hg
                        have h2 : X5.heap[z7]? = _ := HA5.out
                        rw [e, h2] at h1
                        simp at h1)
                      have HF := Lib.hid (show OutAt w1 z7 (s.now + 1) s.ns s.os qHP rHP qHQ rHQ Xa from ⟨by rw [hXa]; exact HA5.out.put _ _ _, hrw HP5.out, hrw HQ5.out, HAP.out, HB5.out.trans (hka.below HB5.out.size (fun q hq => by omega)), hz7⟩)
                      have hTa : RBox Xa z0 s.now (.slice (some ⟨b1, o1, none⟩) s.ns.length c) (.slice (some ⟨b2, o2, none⟩) s.os.length d) := HZL.out _ HF.out.below
                      go_simp
                      rw [← hXa]
                      refine hK.out _ _ ⟨hTa, fun _ _ => trivial⟩ ?_
                      clear hK K d0 d1 d2 v0 v1 v2 hXa hka hrw
                      (try simp only [Act.put, List.getElem_toArray, List.getElem_cons_succ, List.getElem_cons_zero, List.setIfInBounds_toArray, List.set_cons_succ, List.set_cons_zero])
                      refine wpTwo_end (by kernel_rfl) ?_ _
                      go_wp2
                      go_meet
                      exact ⟨z7, qHP, rHP, qHQ, rHQ, rfl, HF⟩
                · go_simp
                  obtain ⟨z7, hy⟩ : ∃ q, q = X2.heap.size := ⟨_, rfl⟩
                  obtain ⟨X3, hX⟩ : ∃ X : World, X = X2.alloc (.cells #[.int .i64 0, .slice none 0 0, .slice none 0 0] 45) := ⟨_, rfl⟩
                  rw [← hX, ← hy]
                  have hb : Below X2.heap.size X2 X3 := by rw [hX]; exact below1 _ _
                  have hz7 : w1.heap.size ≤ z7 := by rw [hy]; exact HB2.out.size
                  have hT3 := hT2.below hb
                  have HB3 := Lib.hid (below_then HB2.out HB2.out.size hb)
                  have HC3 := Lib.hid (True.intro)
                  have HP3 := Lib.hid (owns_below HP2.out hb)
                  have HA3 := Lib.hid (show RBox X3 z7 0 (.slice none 0 0) (.slice none 0 0) by rw [hX, hy]; exact RBox.new _ _ _ _)
                  clear hb hX hy
                  refine hK.out _ _ ⟨hT3, fun _ _ => trivial⟩ ?_
                  clear hK K
                  (try simp only [Act.put, List.getElem_toArray, List.getElem_cons_succ, List.getElem_cons_zero, List.setIfInBounds_toArray, List.set_cons_succ, List.set_cons_zero])
                  refine wpTwo_ready (rs := [7]) (by kernel_rfl) (by simp) ?_
                  refine (AllTwo.cons rfl (fun K hK => ?_) AllTwo.nil)
                  · go_simp
                    obtain ⟨gHD, hy⟩ : ∃ q, q = X3.heap.size := ⟨_, rfl⟩
                    obtain ⟨X4, hX⟩ : ∃ X : World, X = X3.alloc (.cells #[] 3) := ⟨_, rfl⟩
                    rw [← hX, ← hy]
                    have hb : Below X3.heap.size X3 X4 := by rw [hX]; exact below1 _ _
                    have hT4 := hT3.below hb
                    have HB4 := Lib.hid (below_then HB3.out HB3.out.size hb)
                    have HC4 := Lib.hid (True.intro)
                    have HP4 := Lib.hid (owns_below HP3.out hb)
                    have HA4 := Lib.hid (HA3.out.below hb)
                    have HD4 := Lib.hid True.intro
                    clear hb hX hy
                    refine hK.out _ _ ⟨hT4, fun _ _ => trivial⟩ ?_
                    clear hK K
                    (try simp only [Act.put, List.getElem_toArray, List.getElem_cons_succ, List.getElem_cons_zero, List.setIfInBounds_toArray, List.set_cons_succ, List.set_cons_zero])
                    refine wpTwo_ready (rs := [10]) (by kernel_rfl) (by simp) ?_
                    refine (AllTwo.cons rfl (fun K hK => ?_) AllTwo.nil)
                    · refine step_append_grows (by rfl) _ _ 25 (by rfl) 3 i0 (.int .i64 0) 1 8 Try.underlying25 HI0.out.1 HI0.out.2.1 HI0.out.2.2.1 HI0.out.2.2.2 rfl (by decide) (some ⟨gHD, 0, none⟩) 0 0 [] (by rfl) (fun e => by cases e) rfl (fun b _ j u hj => by cases hj) ⟨b2, o2, none⟩ s.os.length d (s.os.map (Value.int .i64)) (by rfl) (by rw [List.length_map]; omega) (HSV.out X4 HB4.out) (fun u hu => by obtain ⟨x, _, rfl⟩ := List.mem_map.1 hu; rfl) (by omega) (by unfold maxLen; omega) (by omega) ?_
                      intro v' X5 hown hgr
                      obtain ⟨qHQ, rHQ, rfl⟩ := owns_slice hown
                      rw [Nat.zero_add] at hown
                      simp only [Nat.zero_add]
                      have hb : Below X4.heap.size X4 X5 := ⟨hgr.os, hgr.tape, hgr.output, hgr.size, fun k hk => hgr.block k hk (by simp)⟩
                      have hT5 := hT4.below hb
                      have HB5 := Lib.hid (below_then HB4.out HB4.out.size hb)
                      have HC5 := Lib.hid (True.intro)
                      have HP5 := Lib.hid (owns_below HP4.out hb)
                      have HA5 := Lib.hid (HA4.out.below hb)
                      have HD5 := Lib.hid (True.intro)
                      have HQ5 := Lib.hid (show X5.ownsRow w1.heap.size 3 1 (.slice qHQ s.os.length rHQ) s.os.length (s.os.map (Value.int .i64)) from (by simpa using hown.mono HB4.out.size))
                      have HAP := Lib.hid (show ∀ g h : Nat, (Value.slice qHP s.ns.length rHP).ownBlock = some g → (Value.slice qHQ s.os.length rHQ).ownBlock = some h → g ≠ h from fun g h e1 e2 e => by have h1 := (HP4.out.lt g e1).2; have h2 := (hown.lt h (by simpa using e2)).1; omega)
                      clear hb hown hgr
                      refine hK.out _ _ ⟨hT5, fun _ _ => trivial⟩ ?_
                      clear hK K
                      (try simp only [Act.put, List.getElem_toArray, List.getElem_cons_succ, List.getElem_cons_zero, List.setIfInBounds_toArray, List.set_cons_succ, List.set_cons_zero])
                      refine wpTwo_takeT (i := 11) (v := .agg #[.int .i64 (s.now + 1), .slice qHP s.ns.length rHP, .slice qHQ s.os.length rHQ]) rfl (by kernel_rfl) (by kernel_rfl) (by kernel_rfl) (fun _ _ _ h => h) ⟨by rfl, ?_⟩ hT5 ?_
                      · rintro w hTw
                        go_simp
                      (try simp only [Act.put, List.getElem_toArray, List.getElem_cons_succ, List.getElem_cons_zero, List.setIfInBounds_toArray, List.set_cons_succ, List.set_cons_zero])
                      refine wpTwo_ready (rs := [13]) (by kernel_rfl) (by simp) ?_
                      refine (AllTwo.cons rfl (fun K hK => ?_) AllTwo.nil)
                      obtain ⟨d0, d1, d2⟩ := HA5.out.cells
                      have v0 := HA5.out.marks 0
                      have v1 := HA5.out.marks 1
                      have v2 := HA5.out.marks 2
                      obtain ⟨Xa, hXa⟩ : ∃ X : World, X = ((X5.setCell ⟨z7, 0, none⟩ (.int .i64 (s.now + 1))).setCell ⟨z7, 1, none⟩ (.slice qHP s.ns.length rHP)).setCell ⟨z7, 2, none⟩ (.slice qHQ s.os.length rHQ) := ⟨_, rfl⟩
                      have hka : Keeps (fun q => q = z7) X5 Xa := by rw [hXa]; exact RBox.putK X5 z7 _ _ _
                      have hrw : ∀ {v : Value} {n : Nat} {xs : List Int}, X5.ownsRow w1.heap.size 3 1 v n (xs.map (Value.int .i64)) → Xa.ownsRow w1.heap.size 3 1 v n (xs.map (Value.int .i64)) := fun {v n xs} h => hka.row h (fun g hg e => by
                        obtain ⟨cc, f, h1⟩ := Lib.ownsRow_kind h g hg
                        have h2 : X5.heap[z7]? = _ := HA5.out
                        rw [e, h2] at h1
                        simp at h1)
                      have HF := Lib.hid (show OutAt w1 z7 (s.now + 1) s.ns s.os qHP rHP qHQ rHQ Xa from ⟨by rw [hXa]; exact HA5.out.put _ _ _, hrw HP5.out, hrw HQ5.out, HAP.out, HB5.out.trans (hka.below HB5.out.size (fun q hq => by omega)), hz7⟩)
                      have hTa : RBox Xa z0 s.now (.slice (some ⟨b1, o1, none⟩) s.ns.length c) (.slice (some ⟨b2, o2, none⟩) s.os.length d) := HZL.out _ HF.out.below
                      go_simp
                      rw [← hXa]
                      refine hK.out _ _ ⟨hTa, fun _ _ => trivial⟩ ?_
                      clear hK K d0 d1 d2 v0 v1 v2 hXa hka hrw
                      (try simp only [Act.put, List.getElem_toArray, List.getElem_cons_succ, List.getElem_cons_zero, List.setIfInBounds_toArray, List.set_cons_succ, List.set_cons_zero])
                      refine wpTwo_end (by kernel_rfl) ?_ _
                      go_wp2
                      go_meet
                      exact ⟨z7, qHP, rHP, qHQ, rHQ, rfl, HF⟩
              · go_simp
                obtain ⟨gHD, hy⟩ : ∃ q, q = X1.heap.size := ⟨_, rfl⟩
                obtain ⟨X2, hX⟩ : ∃ X : World, X = X1.alloc (.cells #[] 3) := ⟨_, rfl⟩
                rw [← hX, ← hy]
                have hb : Below X1.heap.size X1 X2 := by rw [hX]; exact below1 _ _
                have hT2 := hT1.below hb
                have HB2 := Lib.hid (below_then HB1.out HB1.out.size hb)
                have HC2 := Lib.hid (True.intro)
                have HD2 := Lib.hid True.intro
                clear hb hX hy
                refine hK.out _ _ ⟨hT2, fun _ _ => trivial⟩ ?_
                clear hK K
                (try simp only [Act.put, List.getElem_toArray, List.getElem_cons_succ, List.getElem_cons_zero, List.setIfInBounds_toArray, List.set_cons_succ, List.set_cons_zero])
                refine wpTwo_ready (rs := [6, 12]) (by kernel_rfl) (by simp) ?_
                refine (AllTwo.cons rfl (fun K hK => ?_) (AllTwo.cons rfl (fun K hK => ?_) AllTwo.nil))
                · refine step_append_grows (by rfl) _ _ 25 (by rfl) 3 i0 (.int .i64 0) 1 8 Try.underlying25 HI0.out.1 HI0.out.2.1 HI0.out.2.2.1 HI0.out.2.2.2 rfl (by decide) (some ⟨gHC, 0, none⟩) 0 0 [] (by rfl) (fun e => by cases e) rfl (fun b _ j u hj => by cases hj) ⟨b1, o1, none⟩ s.ns.length c (s.ns.map (Value.int .i64)) (by rfl) (by rw [List.length_map]; omega) (HSU.out X2 HB2.out) (fun u hu => by obtain ⟨x, _, rfl⟩ := List.mem_map.1 hu; rfl) (by omega) (by unfold maxLen; omega) (by omega) ?_
                  intro v' X3 hown hgr
                  obtain ⟨qHP, rHP, rfl⟩ := owns_slice hown
                  rw [Nat.zero_add] at hown
                  simp only [Nat.zero_add]
                  have hb : Below X2.heap.size X2 X3 := ⟨hgr.os, hgr.tape, hgr.output, hgr.size, fun k hk => hgr.block k hk (by simp)⟩
                  have hT3 := hT2.below hb
                  have HB3 := Lib.hid (below_then HB2.out HB2.out.size hb)
                  have HC3 := Lib.hid (True.intro)
                  have HD3 := Lib.hid (True.intro)
                  have HP3 := Lib.hid (show X3.ownsRow w1.heap.size 3 1 (.slice qHP s.ns.length rHP) s.ns.length (s.ns.map (Value.int .i64)) from (by simpa using hown.mono HB2.out.size))
                  clear hb hown hgr
                  refine hK.out _ _ ⟨hT3, fun _ _ => trivial⟩ ?_
                  clear hK K
                  (try simp only [Act.put, List.getElem_toArray, List.getElem_cons_succ, List.getElem_cons_zero, List.setIfInBounds_toArray, List.set_cons_succ, List.set_cons_zero])
                  refine wpTwo_ready (rs := [10, 12]) (by kernel_rfl) (by simp) ?_
                  refine (AllTwo.cons rfl (fun K hK => ?_) (AllTwo.cons rfl (fun K hK => ?_) AllTwo.nil))
                  · refine step_append_grows (by rfl) _ _ 25 (by rfl) 3 i0 (.int .i64 0) 1 8 Try.underlying25 HI0.out.1 HI0.out.2.1 HI0.out.2.2.1 HI0.out.2.2.2 rfl (by decide) (some ⟨gHD, 0, none⟩) 0 0 [] (by rfl) (fun e => by cases e) rfl (fun b _ j u hj => by cases hj) ⟨b2, o2, none⟩ s.os.length d (s.os.map (Value.int .i64)) (by rfl) (by rw [List.length_map]; omega) (HSV.out X3 HB3.out) (fun u hu => by obtain ⟨x, _, rfl⟩ := List.mem_map.1 hu; rfl) (by omega) (by unfold maxLen; omega) (by omega) ?_
                    intro v' X4 hown hgr
                    obtain ⟨qHQ, rHQ, rfl⟩ := owns_slice hown
                    rw [Nat.zero_add] at hown
                    simp only [Nat.zero_add]
                    have hb : Below X3.heap.size X3 X4 := ⟨hgr.os, hgr.tape, hgr.output, hgr.size, fun k hk => hgr.block k hk (by simp)⟩
                    have hT4 := hT3.below hb
                    have HB4 := Lib.hid (below_then HB3.out HB3.out.size hb)
                    have HC4 := Lib.hid (True.intro)
                    have HD4 := Lib.hid (True.intro)
                    have HP4 := Lib.hid (owns_below HP3.out hb)
                    have HQ4 := Lib.hid (show X4.ownsRow w1.heap.size 3 1 (.slice qHQ s.os.length rHQ) s.os.length (s.os.map (Value.int .i64)) from (by simpa using hown.mono HB3.out.size))
                    have HAP := Lib.hid (show ∀ g h : Nat, (Value.slice qHP s.ns.length rHP).ownBlock = some g → (Value.slice qHQ s.os.length rHQ).ownBlock = some h → g ≠ h from fun g h e1 e2 e => by have h1 := (HP3.out.lt g e1).2; have h2 := (hown.lt h (by simpa using e2)).1; omega)
                    clear hb hown hgr
                    refine hK.out _ _ ⟨hT4, fun _ _ => trivial⟩ ?_
                    clear hK K
                    (try simp only [Act.put, List.getElem_toArray, List.getElem_cons_succ, List.getElem_cons_zero, List.setIfInBounds_toArray, List.set_cons_succ, List.set_cons_zero])
                    refine wpTwo_takeT (i := 11) (v := .agg #[.int .i64 (s.now + 1), .slice qHP s.ns.length rHP, .slice qHQ s.os.length rHQ]) rfl (by kernel_rfl) (by kernel_rfl) (by kernel_rfl) (fun _ _ _ h => h) ⟨by rfl, ?_⟩ hT4 ?_
                    · rintro w hTw
                      go_simp
                    (try simp only [Act.put, List.getElem_toArray, List.getElem_cons_succ, List.getElem_cons_zero, List.setIfInBounds_toArray, List.set_cons_succ, List.set_cons_zero])
                    refine wpTwo_ready (rs := [12]) (by kernel_rfl) (by simp) ?_
                    refine (AllTwo.cons rfl (fun K hK => ?_) AllTwo.nil)
                    · go_simp
                      obtain ⟨z7, hy⟩ : ∃ q, q = X4.heap.size := ⟨_, rfl⟩
                      obtain ⟨X5, hX⟩ : ∃ X : World, X = X4.alloc (.cells #[.int .i64 0, .slice none 0 0, .slice none 0 0] 45) := ⟨_, rfl⟩
                      rw [← hX, ← hy]
                      have hb : Below X4.heap.size X4 X5 := by rw [hX]; exact below1 _ _
                      have hz7 : w1.heap.size ≤ z7 := by rw [hy]; exact HB4.out.size
                      have hT5 := hT4.below hb
                      have HB5 := Lib.hid (below_then HB4.out HB4.out.size hb)
                      have HC5 := Lib.hid (True.intro)
                      have HD5 := Lib.hid (True.intro)
                      have HP5 := Lib.hid (owns_below HP4.out hb)
                      have HQ5 := Lib.hid (owns_below HQ4.out hb)
                      have HA5 := Lib.hid (show RBox X5 z7 0 (.slice none 0 0) (.slice none 0 0) by rw [hX, hy]; exact RBox.new _ _ _ _)
                      clear hb hX hy
                      refine hK.out _ _ ⟨hT5, fun _ _ => trivial⟩ ?_
                      clear hK K
                      (try simp only [Act.put, List.getElem_toArray, List.getElem_cons_succ, List.getElem_cons_zero, List.setIfInBounds_toArray, List.set_cons_succ, List.set_cons_zero])
                      refine wpTwo_ready (rs := [13]) (by kernel_rfl) (by simp) ?_
                      refine (AllTwo.cons rfl (fun K hK => ?_) AllTwo.nil)
                      obtain ⟨d0, d1, d2⟩ := HA5.out.cells
                      have v0 := HA5.out.marks 0
                      have v1 := HA5.out.marks 1
                      have v2 := HA5.out.marks 2
                      obtain ⟨Xa, hXa⟩ : ∃ X : World, X = ((X5.setCell ⟨z7, 0, none⟩ (.int .i64 (s.now + 1))).setCell ⟨z7, 1, none⟩ (.slice qHP s.ns.length rHP)).setCell ⟨z7, 2, none⟩ (.slice qHQ s.os.length rHQ) := ⟨_, rfl⟩
                      have hka : Keeps (fun q => q = z7) X5 Xa := by rw [hXa]; exact RBox.putK X5 z7 _ _ _
                      have hrw : ∀ {v : Value} {n : Nat} {xs : List Int}, X5.ownsRow w1.heap.size 3 1 v n (xs.map (Value.int .i64)) → Xa.ownsRow w1.heap.size 3 1 v n (xs.map (Value.int .i64)) := fun {v n xs} h => hka.row h (fun g hg e => by
                        obtain ⟨cc, f, h1⟩ := Lib.ownsRow_kind h g hg
                        have h2 : X5.heap[z7]? = _ := HA5.out
                        rw [e, h2] at h1
                        simp at h1)
                      have HF := Lib.hid (show OutAt w1 z7 (s.now + 1) s.ns s.os qHP rHP qHQ rHQ Xa from ⟨by rw [hXa]; exact HA5.out.put _ _ _, hrw HP5.out, hrw HQ5.out, HAP.out, HB5.out.trans (hka.below HB5.out.size (fun q hq => by omega)), hz7⟩)
                      have hTa : RBox Xa z0 s.now (.slice (some ⟨b1, o1, none⟩) s.ns.length c) (.slice (some ⟨b2, o2, none⟩) s.os.length d) := HZL.out _ HF.out.below
                      go_simp
                      rw [← hXa]
                      refine hK.out _ _ ⟨hTa, fun _ _ => trivial⟩ ?_
                      clear hK K d0 d1 d2 v0 v1 v2 hXa hka hrw
                      (try simp only [Act.put, List.getElem_toArray, List.getElem_cons_succ, List.getElem_cons_zero, List.setIfInBounds_toArray, List.set_cons_succ, List.set_cons_zero])
                      refine wpTwo_end (by kernel_rfl) ?_ _
                      go_wp2
                      go_meet
                      exact ⟨z7, qHP, rHP, qHQ, rHQ, rfl, HF⟩
                  · go_simp
                    obtain ⟨z7, hy⟩ : ∃ q, q = X3.heap.size := ⟨_, rfl⟩
                    obtain ⟨X4, hX⟩ : ∃ X : World, X = X3.alloc (.cells #[.int .i64 0, .slice none 0 0, .slice none 0 0] 45) := ⟨_, rfl⟩
                    rw [← hX, ← hy]
                    have hb : Below X3.heap.size X3 X4 := by rw [hX]; exact below1 _ _
                    have hz7 : w1.heap.size ≤ z7 := by rw [hy]; exact HB3.out.size
                    have hT4 := hT3.below hb
                    have HB4 := Lib.hid (below_then HB3.out HB3.out.size hb)
                    have HC4 := Lib.hid (True.intro)
                    have HD4 := Lib.hid (True.intro)
                    have HP4 := Lib.hid (owns_below HP3.out hb)
                    have HA4 := Lib.hid (show RBox X4 z7 0 (.slice none 0 0) (.slice none 0 0) by rw [hX, hy]; exact RBox.new _ _ _ _)
                    clear hb hX hy
                    refine hK.out _ _ ⟨hT4, fun _ _ => trivial⟩ ?_
                    clear hK K
                    (try simp only [Act.put, List.getElem_toArray, List.getElem_cons_succ, List.getElem_cons_zero, List.setIfInBounds_toArray, List.set_cons_succ, List.set_cons_zero])
                    refine wpTwo_ready (rs := [10]) (by kernel_rfl) (by simp) ?_
                    refine (AllTwo.cons rfl (fun K hK => ?_) AllTwo.nil)
                    · refine step_append_grows (by rfl) _ _ 25 (by rfl) 3 i0 (.int .i64 0) 1 8 Try.underlying25 HI0.out.1 HI0.out.2.1 HI0.out.2.2.1 HI0.out.2.2.2 rfl (by decide) (some ⟨gHD, 0, none⟩) 0 0 [] (by rfl) (fun e => by cases e) rfl (fun b _ j u hj => by cases hj) ⟨b2, o2, none⟩ s.os.length d (s.os.map (Value.int .i64)) (by rfl) (by rw [List.length_map]; omega) (HSV.out X4 HB4.out) (fun u hu => by obtain ⟨x, _, rfl⟩ := List.mem_map.1 hu; rfl) (by omega) (by unfold maxLen; omega) (by omega) ?_
                      intro v' X5 hown hgr
                      obtain ⟨qHQ, rHQ, rfl⟩ := owns_slice hown
                      rw [Nat.zero_add] at hown
                      simp only [Nat.zero_add]
                      have hb : Below X4.heap.size X4 X5 := ⟨hgr.os, hgr.tape, hgr.output, hgr.size, fun k hk => hgr.block k hk (by simp)⟩
                      have hT5 := hT4.below hb
                      have HB5 := Lib.hid (below_then HB4.out HB4.out.size hb)
                      have HC5 := Lib.hid (True.intro)
                      have HD5 := Lib.hid (True.intro)
                      have HP5 := Lib.hid (owns_below HP4.out hb)
                      have HA5 := Lib.hid (HA4.out.below hb)
                      have HQ5 := Lib.hid (show X5.ownsRow w1.heap.size 3 1 (.slice qHQ s.os.length rHQ) s.os.length (s.os.map (Value.int .i64)) from (by simpa using hown.mono HB4.out.size))
                      have HAP := Lib.hid (show ∀ g h : Nat, (Value.slice qHP s.ns.length rHP).ownBlock = some g → (Value.slice qHQ s.os.length rHQ).ownBlock = some h → g ≠ h from fun g h e1 e2 e => by have h1 := (HP4.out.lt g e1).2; have h2 := (hown.lt h (by simpa using e2)).1; omega)
                      clear hb hown hgr
                      refine hK.out _ _ ⟨hT5, fun _ _ => trivial⟩ ?_
                      clear hK K
                      (try simp only [Act.put, List.getElem_toArray, List.getElem_cons_succ, List.getElem_cons_zero, List.setIfInBounds_toArray, List.set_cons_succ, List.set_cons_zero])
                      refine wpTwo_takeT (i := 11) (v := .agg #[.int .i64 (s.now + 1), .slice qHP s.ns.length rHP, .slice qHQ s.os.length rHQ]) rfl (by kernel_rfl) (by kernel_rfl) (by kernel_rfl) (fun _ _ _ h => h) ⟨by rfl, ?_⟩ hT5 ?_
                      · rintro w hTw
                        go_simp
                      (try simp only [Act.put, List.getElem_toArray, List.getElem_cons_succ, List.getElem_cons_zero, List.setIfInBounds_toArray, List.set_cons_succ, List.set_cons_zero])
                      refine wpTwo_ready (rs := [13]) (by kernel_rfl) (by simp) ?_
                      refine (AllTwo.cons rfl (fun K hK => ?_) AllTwo.nil)
                      obtain ⟨d0, d1, d2⟩ := HA5.out.cells
                      have v0 := HA5.out.marks 0
                      have v1 := HA5.out.marks 1
                      have v2 := HA5.out.marks 2
                      obtain ⟨Xa, hXa⟩ : ∃ X : World, X = ((X5.setCell ⟨z7, 0, none⟩ (.int .i64 (s.now + 1))).setCell ⟨z7, 1, none⟩ (.slice qHP s.ns.length rHP)).setCell ⟨z7, 2, none⟩ (.slice qHQ s.os.length rHQ) := ⟨_, rfl⟩
                      have hka : Keeps (fun q => q = z7) X5 Xa := by rw [hXa]; exact RBox.putK X5 z7 _ _ _
                      have hrw : ∀ {v : Value} {n : Nat} {xs : List Int}, X5.ownsRow w1.heap.size 3 1 v n (xs.map (Value.int .i64)) → Xa.ownsRow w1.heap.size 3 1 v n (xs.map (Value.int .i64)) := fun {v n xs} h => hka.row h (fun g hg e => by
                        obtain ⟨cc, f, h1⟩ := Lib.ownsRow_kind h g hg
                        have h2 : X5.heap[z7]? = _ := HA5.out
                        rw [e, h2] at h1
                        simp at h1)
                      have HF := Lib.hid (show OutAt w1 z7 (s.now + 1) s.ns s.os qHP rHP qHQ rHQ Xa from ⟨by rw [hXa]; exact HA5.out.put _ _ _, hrw HP5.out, hrw HQ5.out, HAP.out, HB5.out.trans (hka.below HB5.out.size (fun q hq => by omega)), hz7⟩)
                      have hTa : RBox Xa z0 s.now (.slice (some ⟨b1, o1, none⟩) s.ns.length c) (.slice (some ⟨b2, o2, none⟩) s.os.length d) := HZL.out _ HF.out.below
                      go_simp
                      rw [← hXa]
                      refine hK.out _ _ ⟨hTa, fun _ _ => trivial⟩ ?_
                      clear hK K d0 d1 d2 v0 v1 v2 hXa hka hrw
                      (try simp only [Act.put, List.getElem_toArray, List.getElem_cons_succ, List.getElem_cons_zero, List.setIfInBounds_toArray, List.set_cons_succ, List.set_cons_zero])
                      refine wpTwo_end (by kernel_rfl) ?_ _
                      go_wp2
                      go_meet
                      exact ⟨z7, qHP, rHP, qHQ, rHQ, rfl, HF⟩
                · go_simp
                  obtain ⟨z7, hy⟩ : ∃ q, q = X2.heap.size := ⟨_, rfl⟩
                  obtain ⟨X3, hX⟩ : ∃ X : World, X = X2.alloc (.cells #[.int .i64 0, .slice none 0 0, .slice none 0 0] 45) := ⟨_, rfl⟩
                  rw [← hX, ← hy]
                  have hb : Below X2.heap.size X2 X3 := by rw [hX]; exact below1 _ _
                  have hz7 : w1.heap.size ≤ z7 := by rw [hy]; exact HB2.out.size
                  have hT3 := hT2.below hb
                  have HB3 := Lib.hid (below_then HB2.out HB2.out.size hb)
                  have HC3 := Lib.hid (True.intro)
                  have HD3 := Lib.hid (True.intro)
                  have HA3 := Lib.hid (show RBox X3 z7 0 (.slice none 0 0) (.slice none 0 0) by rw [hX, hy]; exact RBox.new _ _ _ _)
                  clear hb hX hy
                  refine hK.out _ _ ⟨hT3, fun _ _ => trivial⟩ ?_
                  clear hK K
                  (try simp only [Act.put, List.getElem_toArray, List.getElem_cons_succ, List.getElem_cons_zero, List.setIfInBounds_toArray, List.set_cons_succ, List.set_cons_zero])
                  refine wpTwo_ready (rs := [6]) (by kernel_rfl) (by simp) ?_
                  refine (AllTwo.cons rfl (fun K hK => ?_) AllTwo.nil)
                  · refine step_append_grows (by rfl) _ _ 25 (by rfl) 3 i0 (.int .i64 0) 1 8 Try.underlying25 HI0.out.1 HI0.out.2.1 HI0.out.2.2.1 HI0.out.2.2.2 rfl (by decide) (some ⟨gHC, 0, none⟩) 0 0 [] (by rfl) (fun e => by cases e) rfl (fun b _ j u hj => by cases hj) ⟨b1, o1, none⟩ s.ns.length c (s.ns.map (Value.int .i64)) (by rfl) (by rw [List.length_map]; omega) (HSU.out X3 HB3.out) (fun u hu => by obtain ⟨x, _, rfl⟩ := List.mem_map.1 hu; rfl) (by omega) (by unfold maxLen; omega) (by omega) ?_
                    intro v' X4 hown hgr
                    obtain ⟨qHP, rHP, rfl⟩ := owns_slice hown
                    rw [Nat.zero_add] at hown
                    simp only [Nat.zero_add]
                    have hb : Below X3.heap.size X3 X4 := ⟨hgr.os, hgr.tape, hgr.output, hgr.size, fun k hk => hgr.block k hk (by simp)⟩
                    have hT4 := hT3.below hb
                    have HB4 := Lib.hid (below_then HB3.out HB3.out.size hb)
                    have HC4 := Lib.hid (True.intro)
                    have HD4 := Lib.hid (True.intro)
                    have HA4 := Lib.hid (HA3.out.below hb)
                    have HP4 := Lib.hid (show X4.ownsRow w1.heap.size 3 1 (.slice qHP s.ns.length rHP) s.ns.length (s.ns.map (Value.int .i64)) from (by simpa using hown.mono HB3.out.size))
                    clear hb hown hgr
                    refine hK.out _ _ ⟨hT4, fun _ _ => trivial⟩ ?_
                    clear hK K
                    (try simp only [Act.put, List.getElem_toArray, List.getElem_cons_succ, List.getElem_cons_zero, List.setIfInBounds_toArray, List.set_cons_succ, List.set_cons_zero])
                    refine wpTwo_ready (rs := [10]) (by kernel_rfl) (by simp) ?_
                    refine (AllTwo.cons rfl (fun K hK => ?_) AllTwo.nil)
                    · refine step_append_grows (by rfl) _ _ 25 (by rfl) 3 i0 (.int .i64 0) 1 8 Try.underlying25 HI0.out.1 HI0.out.2.1 HI0.out.2.2.1 HI0.out.2.2.2 rfl (by decide) (some ⟨gHD, 0, none⟩) 0 0 [] (by rfl) (fun e => by cases e) rfl (fun b _ j u hj => by cases hj) ⟨b2, o2, none⟩ s.os.length d (s.os.map (Value.int .i64)) (by rfl) (by rw [List.length_map]; omega) (HSV.out X4 HB4.out) (fun u hu => by obtain ⟨x, _, rfl⟩ := List.mem_map.1 hu; rfl) (by omega) (by unfold maxLen; omega) (by omega) ?_
                      intro v' X5 hown hgr
                      obtain ⟨qHQ, rHQ, rfl⟩ := owns_slice hown
                      rw [Nat.zero_add] at hown
                      simp only [Nat.zero_add]
                      have hb : Below X4.heap.size X4 X5 := ⟨hgr.os, hgr.tape, hgr.output, hgr.size, fun k hk => hgr.block k hk (by simp)⟩
                      have hT5 := hT4.below hb
                      have HB5 := Lib.hid (below_then HB4.out HB4.out.size hb)
                      have HC5 := Lib.hid (True.intro)
                      have HD5 := Lib.hid (True.intro)
                      have HA5 := Lib.hid (HA4.out.below hb)
                      have HP5 := Lib.hid (owns_below HP4.out hb)
                      have HQ5 := Lib.hid (show X5.ownsRow w1.heap.size 3 1 (.slice qHQ s.os.length rHQ) s.os.length (s.os.map (Value.int .i64)) from (by simpa using hown.mono HB4.out.size))
                      have HAP := Lib.hid (show ∀ g h : Nat, (Value.slice qHP s.ns.length rHP).ownBlock = some g → (Value.slice qHQ s.os.length rHQ).ownBlock = some h → g ≠ h from fun g h e1 e2 e => by have h1 := (HP4.out.lt g e1).2; have h2 := (hown.lt h (by simpa using e2)).1; omega)
                      clear hb hown hgr
                      refine hK.out _ _ ⟨hT5, fun _ _ => trivial⟩ ?_
                      clear hK K
                      (try simp only [Act.put, List.getElem_toArray, List.getElem_cons_succ, List.getElem_cons_zero, List.setIfInBounds_toArray, List.set_cons_succ, List.set_cons_zero])
                      refine wpTwo_takeT (i := 11) (v := .agg #[.int .i64 (s.now + 1), .slice qHP s.ns.length rHP, .slice qHQ s.os.length rHQ]) rfl (by kernel_rfl) (by kernel_rfl) (by kernel_rfl) (fun _ _ _ h => h) ⟨by rfl, ?_⟩ hT5 ?_
                      · rintro w hTw
                        go_simp
                      (try simp only [Act.put, List.getElem_toArray, List.getElem_cons_succ, List.getElem_cons_zero, List.setIfInBounds_toArray, List.set_cons_succ, List.set_cons_zero])
                      refine wpTwo_ready (rs := [13]) (by kernel_rfl) (by simp) ?_
                      refine (AllTwo.cons rfl (fun K hK => ?_) AllTwo.nil)
                      obtain ⟨d0, d1, d2⟩ := HA5.out.cells
                      have v0 := HA5.out.marks 0
                      have v1 := HA5.out.marks 1
                      have v2 := HA5.out.marks 2
                      obtain ⟨Xa, hXa⟩ : ∃ X : World, X = ((X5.setCell ⟨z7, 0, none⟩ (.int .i64 (s.now + 1))).setCell ⟨z7, 1, none⟩ (.slice qHP s.ns.length rHP)).setCell ⟨z7, 2, none⟩ (.slice qHQ s.os.length rHQ) := ⟨_, rfl⟩
                      have hka : Keeps (fun q => q = z7) X5 Xa := by rw [hXa]; exact RBox.putK X5 z7 _ _ _
                      have hrw : ∀ {v : Value} {n : Nat} {xs : List Int}, X5.ownsRow w1.heap.size 3 1 v n (xs.map (Value.int .i64)) → Xa.ownsRow w1.heap.size 3 1 v n (xs.map (Value.int .i64)) := fun {v n xs} h => hka.row h (fun g hg e => by
                        obtain ⟨cc, f, h1⟩ := Lib.ownsRow_kind h g hg
                        have h2 : X5.heap[z7]? = _ := HA5.out
                        rw [e, h2] at h1
                        simp at h1)
                      have HF := Lib.hid (show OutAt w1 z7 (s.now + 1) s.ns s.os qHP rHP qHQ rHQ Xa from ⟨by rw [hXa]; exact HA5.out.put _ _ _, hrw HP5.out, hrw HQ5.out, HAP.out, HB5.out.trans (hka.below HB5.out.size (fun q hq => by omega)), hz7⟩)
                      have hTa : RBox Xa z0 s.now (.slice (some ⟨b1, o1, none⟩) s.ns.length c) (.slice (some ⟨b2, o2, none⟩) s.os.length d) := HZL.out _ HF.out.below
                      go_simp
                      rw [← hXa]
                      refine hK.out _ _ ⟨hTa, fun _ _ => trivial⟩ ?_
                      clear hK K d0 d1 d2 v0 v1 v2 hXa hka hrw
                      (try simp only [Act.put, List.getElem_toArray, List.getElem_cons_succ, List.getElem_cons_zero, List.setIfInBounds_toArray, List.set_cons_succ, List.set_cons_zero])
                      refine wpTwo_end (by kernel_rfl) ?_ _
                      go_wp2
                      go_meet
                      exact ⟨z7, qHP, rHP, qHQ, rHQ, rfl, HF⟩
              · go_simp
                obtain ⟨z7, hy⟩ : ∃ q, q = X1.heap.size := ⟨_, rfl⟩
                obtain ⟨X2, hX⟩ : ∃ X : World, X = X1.alloc (.cells #[.int .i64 0, .slice none 0 0, .slice none 0 0] 45) := ⟨_, rfl⟩
                rw [← hX, ← hy]
                have hb : Below X1.heap.size X1 X2 := by rw [hX]; exact below1 _ _
                have hz7 : w1.heap.size ≤ z7 := by rw [hy]; exact HB1.out.size
                have hT2 := hT1.below hb
                have HB2 := Lib.hid (below_then HB1.out HB1.out.size hb)
                have HC2 := Lib.hid (True.intro)
                have HA2 := Lib.hid (show RBox X2 z7 0 (.slice none 0 0) (.slice none 0 0) by rw [hX, hy]; exact RBox.new _ _ _ _)
                clear hb hX hy
                refine hK.out _ _ ⟨hT2, fun _ _ => trivial⟩ ?_
                clear hK K
                (try simp only [Act.put, List.getElem_toArray, List.getElem_cons_succ, List.getElem_cons_zero, List.setIfInBounds_toArray, List.set_cons_succ, List.set_cons_zero])
                refine wpTwo_ready (rs := [6, 7]) (by kernel_rfl) (by simp) ?_
                refine (AllTwo.cons rfl (fun K hK => ?_) (AllTwo.cons rfl (fun K hK => ?_) AllTwo.nil))
                · refine step_append_grows (by rfl) _ _ 25 (by rfl) 3 i0 (.int .i64 0) 1 8 Try.underlying25 HI0.out.1 HI0.out.2.1 HI0.out.2.2.1 HI0.out.2.2.2 rfl (by decide) (some ⟨gHC, 0, none⟩) 0 0 [] (by rfl) (fun e => by cases e) rfl (fun b _ j u hj => by cases hj) ⟨b1, o1, none⟩ s.ns.length c (s.ns.map (Value.int .i64)) (by rfl) (by rw [List.length_map]; omega) (HSU.out X2 HB2.out) (fun u hu => by obtain ⟨x, _, rfl⟩ := List.mem_map.1 hu; rfl) (by omega) (by unfold maxLen; omega) (by omega) ?_
                  intro v' X3 hown hgr
                  obtain ⟨qHP, rHP, rfl⟩ := owns_slice hown
                  rw [Nat.zero_add] at hown
                  simp only [Nat.zero_add]
                  have hb : Below X2.heap.size X2 X3 := ⟨hgr.os, hgr.tape, hgr.output, hgr.size, fun k hk => hgr.block k hk (by simp)⟩
                  have hT3 := hT2.below hb
                  have HB3 := Lib.hid (below_then HB2.out HB2.out.size hb)
                  have HC3 := Lib.hid (True.intro)
                  have HA3 := Lib.hid (HA2.out.below hb)
                  have HP3 := Lib.hid (show X3.ownsRow w1.heap.size 3 1 (.slice qHP s.ns.length rHP) s.ns.length (s.ns.map (Value.int .i64)) from (by simpa using hown.mono HB2.out.size))
                  clear hb hown hgr
                  refine hK.out _ _ ⟨hT3, fun _ _ => trivial⟩ ?_
                  clear hK K
                  (try simp only [Act.put, List.getElem_toArray, List.getElem_cons_succ, List.getElem_cons_zero, List.setIfInBounds_toArray, List.set_cons_succ, List.set_cons_zero])
                  refine wpTwo_ready (rs := [7]) (by kernel_rfl) (by simp) ?_
                  refine (AllTwo.cons rfl (fun K hK => ?_) AllTwo.nil)
                  · go_simp
                    obtain ⟨gHD, hy⟩ : ∃ q, q = X3.heap.size := ⟨_, rfl⟩
                    obtain ⟨X4, hX⟩ : ∃ X : World, X = X3.alloc (.cells #[] 3) := ⟨_, rfl⟩
                    rw [← hX, ← hy]
                    have hb : Below X3.heap.size X3 X4 := by rw [hX]; exact below1 _ _
                    have hT4 := hT3.below hb
                    have HB4 := Lib.hid (below_then HB3.out HB3.out.size hb)
                    have HC4 := Lib.hid (True.intro)
                    have HA4 := Lib.hid (HA3.out.below hb)
                    have HP4 := Lib.hid (owns_below HP3.out hb)
                    have HD4 := Lib.hid True.intro
                    clear hb hX hy
                    refine hK.out _ _ ⟨hT4, fun _ _ => trivial⟩ ?_
                    clear hK K
                    (try simp only [Act.put, List.getElem_toArray, List.getElem_cons_succ, List.getElem_cons_zero, List.setIfInBounds_toArray, List.set_cons_succ, List.set_cons_zero])
                    refine wpTwo_ready (rs := [10]) (by kernel_rfl) (by simp) ?_
                    refine (AllTwo.cons rfl (fun K hK => ?_) AllTwo.nil)
                    · refine step_append_grows (by rfl) _ _ 25 (by rfl) 3 i0 (.int .i64 0) 1 8 Try.underlying25 HI0.out.1 HI0.out.2.1 HI0.out.2.2.1 HI0.out.2.2.2 rfl (by decide) (some ⟨gHD, 0, none⟩) 0 0 [] (by rfl) (fun e => by cases e) rfl (fun b _ j u hj => by cases hj) ⟨b2, o2, none⟩ s.os.length d (s.os.map (Value.int .i64)) (by rfl) (by rw [List.length_map]; omega) (HSV.out X4 HB4.out) (fun u hu => by obtain ⟨x, _, rfl⟩ := List.mem_map.1 hu; rfl) (by omega) (by unfold maxLen; omega) (by omega) ?_
                      intro v' X5 hown hgr
                      obtain ⟨qHQ, rHQ, rfl⟩ := owns_slice hown
                      rw [Nat.zero_add] at hown
                      simp only [Nat.zero_add]
                      have hb : Below X4.heap.size X4 X5 := ⟨hgr.os, hgr.tape, hgr.output, hgr.size, fun k hk => hgr.block k hk (by simp)⟩
                      have hT5 := hT4.below hb
                      have HB5 := Lib.hid (below_then HB4.out HB4.out.size hb)
                      have HC5 := Lib.hid (True.intro)
                      have HA5 := Lib.hid (HA4.out.below hb)
                      have HP5 := Lib.hid (owns_below HP4.out hb)
                      have HD5 := Lib.hid (True.intro)
                      have HQ5 := Lib.hid (show X5.ownsRow w1.heap.size 3 1 (.slice qHQ s.os.length rHQ) s.os.length (s.os.map (Value.int .i64)) from (by simpa using hown.mono HB4.out.size))
                      have HAP := Lib.hid (show ∀ g h : Nat, (Value.slice qHP s.ns.length rHP).ownBlock = some g → (Value.slice qHQ s.os.length rHQ).ownBlock = some h → g ≠ h from fun g h e1 e2 e => by have h1 := (HP4.out.lt g e1).2; have h2 := (hown.lt h (by simpa using e2)).1; omega)
                      clear hb hown hgr
                      refine hK.out _ _ ⟨hT5, fun _ _ => trivial⟩ ?_
                      clear hK K
                      (try simp only [Act.put, List.getElem_toArray, List.getElem_cons_succ, List.getElem_cons_zero, List.setIfInBounds_toArray, List.set_cons_succ, List.set_cons_zero])
                      refine wpTwo_takeT (i := 11) (v := .agg #[.int .i64 (s.now + 1), .slice qHP s.ns.length rHP, .slice qHQ s.os.length rHQ]) rfl (by kernel_rfl) (by kernel_rfl) (by kernel_rfl) (fun _ _ _ h => h) ⟨by rfl, ?_⟩ hT5 ?_
                      · rintro w hTw
                        go_simp
                      (try simp only [Act.put, List.getElem_toArray, List.getElem_cons_succ, List.getElem_cons_zero, List.setIfInBounds_toArray, List.set_cons_succ, List.set_cons_zero])
                      refine wpTwo_ready (rs := [13]) (by kernel_rfl) (by simp) ?_
                      refine (AllTwo.cons rfl (fun K hK => ?_) AllTwo.nil)
                      obtain ⟨d0, d1, d2⟩ := HA5.out.cells
                      have v0 := HA5.out.marks 0
                      have v1 := HA5.out.marks 1
                      have v2 := HA5.out.marks 2
                      obtain ⟨Xa, hXa⟩ : ∃ X : World, X = ((X5.setCell ⟨z7, 0, none⟩ (.int .i64 (s.now + 1))).setCell ⟨z7, 1, none⟩ (.slice qHP s.ns.length rHP)).setCell ⟨z7, 2, none⟩ (.slice qHQ s.os.length rHQ) := ⟨_, rfl⟩
                      have hka : Keeps (fun q => q = z7) X5 Xa := by rw [hXa]; exact RBox.putK X5 z7 _ _ _
                      have hrw : ∀ {v : Value} {n : Nat} {xs : List Int}, X5.ownsRow w1.heap.size 3 1 v n (xs.map (Value.int .i64)) → Xa.ownsRow w1.heap.size 3 1 v n (xs.map (Value.int .i64)) := fun {v n xs} h => hka.row h (fun g hg e => by
                        obtain ⟨cc, f, h1⟩ := Lib.ownsRow_kind h g hg
                        have h2 : X5.heap[z7]? = _ := HA5.out
                        rw [e, h2] at h1
                        simp at h1)
                      have HF := Lib.hid (show OutAt w1 z7 (s.now + 1) s.ns s.os qHP rHP qHQ rHQ Xa from ⟨by rw [hXa]; exact HA5.out.put _ _ _, hrw HP5.out, hrw HQ5.out, HAP.out, HB5.out.trans (hka.below HB5.out.size (fun q hq => by omega)), hz7⟩)
                      have hTa : RBox Xa z0 s.now (.slice (some ⟨b1, o1, none⟩) s.ns.length c) (.slice (some ⟨b2, o2, none⟩) s.os.length d) := HZL.out _ HF.out.below
                      go_simp
                      rw [← hXa]
                      refine hK.out _ _ ⟨hTa, fun _ _ => trivial⟩ ?_
                      clear hK K d0 d1 d2 v0 v1 v2 hXa hka hrw
                      (try simp only [Act.put, List.getElem_toArray, List.getElem_cons_succ, List.getElem_cons_zero, List.setIfInBounds_toArray, List.set_cons_succ, List.set_cons_zero])
                      refine wpTwo_end (by kernel_rfl) ?_ _
                      go_wp2
                      go_meet
                      exact ⟨z7, qHP, rHP, qHQ, rHQ, rfl, HF⟩
                · go_simp
                  obtain ⟨gHD, hy⟩ : ∃ q, q = X2.heap.size := ⟨_, rfl⟩
                  obtain ⟨X3, hX⟩ : ∃ X : World, X = X2.alloc (.cells #[] 3) := ⟨_, rfl⟩
                  rw [← hX, ← hy]
                  have hb : Below X2.heap.size X2 X3 := by rw [hX]; exact below1 _ _
                  have hT3 := hT2.below hb
                  have HB3 := Lib.hid (below_then HB2.out HB2.out.size hb)
                  have HC3 := Lib.hid (True.intro)
                  have HA3 := Lib.hid (HA2.out.below hb)
                  have HD3 := Lib.hid True.intro
                  clear hb hX hy
                  refine hK.out _ _ ⟨hT3, fun _ _ => trivial⟩ ?_
                  clear hK K
                  (try simp only [Act.put, List.getElem_toArray, List.getElem_cons_succ, List.getElem_cons_zero, List.setIfInBounds_toArray, List.set_cons_succ, List.set_cons_zero])
                  refine wpTwo_ready (rs := [6]) (by kernel_rfl) (by simp) ?_
                  refine (AllTwo.cons rfl (fun K hK => ?_) AllTwo.nil)
                  · refine step_append_grows (by rfl) _ _ 25 (by rfl) 3 i0 (.int .i64 0) 1 8 Try.underlying25 HI0.out.1 HI0.out.2.1 HI0.out.2.2.1 HI0.out.2.2.2 rfl (by decide) (some ⟨gHC, 0, none⟩) 0 0 [] (by rfl) (fun e => by cases e) rfl (fun b _ j u hj => by cases hj) ⟨b1, o1, none⟩ s.ns.length c (s.ns.map (Value.int .i64)) (by rfl) (by rw [List.length_map]; omega) (HSU.out X3 HB3.out) (fun u hu => by obtain ⟨x, _, rfl⟩ := List.mem_map.1 hu; rfl) (by omega) (by unfold maxLen; omega) (by omega) ?_
                    intro v' X4 hown hgr
                    obtain ⟨qHP, rHP, rfl⟩ := owns_slice hown
                    rw [Nat.zero_add] at hown
                    simp only [Nat.zero_add]
                    have hb : Below X3.heap.size X3 X4 := ⟨hgr.os, hgr.tape, hgr.output, hgr.size, fun k hk => hgr.block k hk (by simp)⟩
                    have hT4 := hT3.below hb
                    have HB4 := Lib.hid (below_then HB3.out HB3.out.size hb)
                    have HC4 := Lib.hid (True.intro)
                    have HA4 := Lib.hid (HA3.out.below hb)
                    have HD4 := Lib.hid (True.intro)
                    have HP4 := Lib.hid (show X4.ownsRow w1.heap.size 3 1 (.slice qHP s.ns.length rHP) s.ns.length (s.ns.map (Value.int .i64)) from (by simpa using hown.mono HB3.out.size))
                    clear hb hown hgr
                    refine hK.out _ _ ⟨hT4, fun _ _ => trivial⟩ ?_
                    clear hK K
                    (try simp only [Act.put, List.getElem_toArray, List.getElem_cons_succ, List.getElem_cons_zero, List.setIfInBounds_toArray, List.set_cons_succ, List.set_cons_zero])
                    refine wpTwo_ready (rs := [10]) (by kernel_rfl) (by simp) ?_
                    refine (AllTwo.cons rfl (fun K hK => ?_) AllTwo.nil)
                    · refine step_append_grows (by rfl) _ _ 25 (by rfl) 3 i0 (.int .i64 0) 1 8 Try.underlying25 HI0.out.1 HI0.out.2.1 HI0.out.2.2.1 HI0.out.2.2.2 rfl (by decide) (some ⟨gHD, 0, none⟩) 0 0 [] (by rfl) (fun e => by cases e) rfl (fun b _ j u hj => by cases hj) ⟨b2, o2, none⟩ s.os.length d (s.os.map (Value.int .i64)) (by rfl) (by rw [List.length_map]; omega) (HSV.out X4 HB4.out) (fun u hu => by obtain ⟨x, _, rfl⟩ := List.mem_map.1 hu; rfl) (by omega) (by unfold maxLen; omega) (by omega) ?_
                      intro v' X5 hown hgr
                      obtain ⟨qHQ, rHQ, rfl⟩ := owns_slice hown
                      rw [Nat.zero_add] at hown
                      simp only [Nat.zero_add]
                      have hb : Below X4.heap.size X4 X5 := ⟨hgr.os, hgr.tape, hgr.output, hgr.size, fun k hk => hgr.block k hk (by simp)⟩
                      have hT5 := hT4.below hb
                      have HB5 := Lib.hid (below_then HB4.out HB4.out.size hb)
                      have HC5 := Lib.hid (True.intro)
                      have HA5 := Lib.hid (HA4.out.below hb)
                      have HD5 := Lib.hid (True.intro)
                      have HP5 := Lib.hid (owns_below HP4.out hb)
                      have HQ5 := Lib.hid (show X5.ownsRow w1.heap.size 3 1 (.slice qHQ s.os.length rHQ) s.os.length (s.os.map (Value.int .i64)) from (by simpa using hown.mono HB4.out.size))
                      have HAP := Lib.hid (show ∀ g h : Nat, (Value.slice qHP s.ns.length rHP).ownBlock = some g → (Value.slice qHQ s.os.length rHQ).ownBlock = some h → g ≠ h from fun g h e1 e2 e => by have h1 := (HP4.out.lt g e1).2; have h2 := (hown.lt h (by simpa using e2)).1; omega)
                      clear hb hown hgr
                      refine hK.out _ _ ⟨hT5, fun _ _ => trivial⟩ ?_
                      clear hK K
                      (try simp only [Act.put, List.getElem_toArray, List.getElem_cons_succ, List.getElem_cons_zero, List.setIfInBounds_toArray, List.set_cons_succ, List.set_cons_zero])
                      refine wpTwo_takeT (i := 11) (v := .agg #[.int .i64 (s.now + 1), .slice qHP s.ns.length rHP, .slice qHQ s.os.length rHQ]) rfl (by kernel_rfl) (by kernel_rfl) (by kernel_rfl) (fun _ _ _ h => h) ⟨by rfl, ?_⟩ hT5 ?_
                      · rintro w hTw
                        go_simp
                      (try simp only [Act.put, List.getElem_toArray, List.getElem_cons_succ, List.getElem_cons_zero, List.setIfInBounds_toArray, List.set_cons_succ, List.set_cons_zero])
                      refine wpTwo_ready (rs := [13]) (by kernel_rfl) (by simp) ?_
                      refine (AllTwo.cons rfl (fun K hK => ?_) AllTwo.nil)
                      obtain ⟨d0, d1, d2⟩ := HA5.out.cells
                      have v0 := HA5.out.marks 0
                      have v1 := HA5.out.marks 1
                      have v2 := HA5.out.marks 2
                      obtain ⟨Xa, hXa⟩ : ∃ X : World, X = ((X5.setCell ⟨z7, 0, none⟩ (.int .i64 (s.now + 1))).setCell ⟨z7, 1, none⟩ (.slice qHP s.ns.length rHP)).setCell ⟨z7, 2, none⟩ (.slice qHQ s.os.length rHQ) := ⟨_, rfl⟩
                      have hka : Keeps (fun q => q = z7) X5 Xa := by rw [hXa]; exact RBox.putK X5 z7 _ _ _
                      have hrw : ∀ {v : Value} {n : Nat} {xs : List Int}, X5.ownsRow w1.heap.size 3 1 v n (xs.map (Value.int .i64)) → Xa.ownsRow w1.heap.size 3 1 v n (xs.map (Value.int .i64)) := fun {v n xs} h => hka.row h (fun g hg e => by
                        obtain ⟨cc, f, h1⟩ := Lib.ownsRow_kind h g hg
                        have h2 : X5.heap[z7]? = _ := HA5.out
                        rw [e, h2] at h1
                        simp at h1)
                      have HF := Lib.hid (show OutAt w1 z7 (s.now + 1) s.ns s.os qHP rHP qHQ rHQ Xa from ⟨by rw [hXa]; exact HA5.out.put _ _ _, hrw HP5.out, hrw HQ5.out, HAP.out, HB5.out.trans (hka.below HB5.out.size (fun q hq => by omega)), hz7⟩)
                      have hTa : RBox Xa z0 s.now (.slice (some ⟨b1, o1, none⟩) s.ns.length c) (.slice (some ⟨b2, o2, none⟩) s.os.length d) := HZL.out _ HF.out.below
                      go_simp
                      rw [← hXa]
                      refine hK.out _ _ ⟨hTa, fun _ _ => trivial⟩ ?_
                      clear hK K d0 d1 d2 v0 v1 v2 hXa hka hrw
                      (try simp only [Act.put, List.getElem_toArray, List.getElem_cons_succ, List.getElem_cons_zero, List.setIfInBounds_toArray, List.set_cons_succ, List.set_cons_zero])
                      refine wpTwo_end (by kernel_rfl) ?_ _
                      go_wp2
                      go_meet
                      exact ⟨z7, qHP, rHP, qHQ, rHQ, rfl, HF⟩
            · go_simp
              obtain ⟨gHD, hy⟩ : ∃ q, q = X0.heap.size := ⟨_, rfl⟩
              obtain ⟨X1, hX⟩ : ∃ X : World, X = X0.alloc (.cells #[] 3) := ⟨_, rfl⟩
              rw [← hX, ← hy]
              have hb : Below X0.heap.size X0 X1 := by rw [hX]; exact below1 _ _
              have hT1 := hT0.below hb
              have HB1 := Lib.hid (below_then HB0.out HB0.out.size hb)
              have HD1 := Lib.hid True.intro
              clear hb hX hy
              refine hK.out _ _ ⟨hT1, fun _ _ => trivial⟩ ?_
              clear hK K
              (try simp only [Act.put, List.getElem_toArray, List.getElem_cons_succ, List.getElem_cons_zero, List.setIfInBounds_toArray, List.set_cons_succ, List.set_cons_zero])
              refine wpTwo_ready (rs := [3, 12]) (by kernel_rfl) (by simp) ?_
              refine (AllTwo.cons rfl (fun K hK => ?_) (AllTwo.cons rfl (fun K hK => ?_) AllTwo.nil))
              · go_simp
                obtain ⟨gHC, hy⟩ : ∃ q, q = X1.heap.size := ⟨_, rfl⟩
                obtain ⟨X2, hX⟩ : ∃ X : World, X = X1.alloc (.cells #[] 3) := ⟨_, rfl⟩
                rw [← hX, ← hy]
                have hb : Below X1.heap.size X1 X2 := by rw [hX]; exact below1 _ _
                have hT2 := hT1.below hb
                have HB2 := Lib.hid (below_then HB1.out HB1.out.size hb)
                have HD2 := Lib.hid (True.intro)
                have HC2 := Lib.hid True.intro
                clear hb hX hy
                refine hK.out _ _ ⟨hT2, fun _ _ => trivial⟩ ?_
                clear hK K
                (try simp only [Act.put, List.getElem_toArray, List.getElem_cons_succ, List.getElem_cons_zero, List.setIfInBounds_toArray, List.set_cons_succ, List.set_cons_zero])
                refine wpTwo_ready (rs := [6, 12]) (by kernel_rfl) (by simp) ?_
                refine (AllTwo.cons rfl (fun K hK => ?_) (AllTwo.cons rfl (fun K hK => ?_) AllTwo.nil))
                · refine step_append_grows (by rfl) _ _ 25 (by rfl) 3 i0 (.int .i64 0) 1 8 Try.underlying25 HI0.out.1 HI0.out.2.1 HI0.out.2.2.1 HI0.out.2.2.2 rfl (by decide) (some ⟨gHC, 0, none⟩) 0 0 [] (by rfl) (fun e => by cases e) rfl (fun b _ j u hj => by cases hj) ⟨b1, o1, none⟩ s.ns.length c (s.ns.map (Value.int .i64)) (by rfl) (by rw [List.length_map]; omega) (HSU.out X2 HB2.out) (fun u hu => by obtain ⟨x, _, rfl⟩ := List.mem_map.1 hu; rfl) (by omega) (by unfold maxLen; omega) (by omega) ?_
                  intro v' X3 hown hgr
                  obtain ⟨qHP, rHP, rfl⟩ := owns_slice hown
                  rw [Nat.zero_add] at hown
                  simp only [Nat.zero_add]
                  have hb : Below X2.heap.size X2 X3 := ⟨hgr.os, hgr.tape, hgr.output, hgr.size, fun k hk => hgr.block k hk (by simp)⟩
                  have hT3 := hT2.below hb
                  have HB3 := Lib.hid (below_then HB2.out HB2.out.size hb)
                  have HD3 := Lib.hid (True.intro)
                  have HC3 := Lib.hid (True.intro)
                  have HP3 := Lib.hid (show X3.ownsRow w1.heap.size 3 1 (.slice qHP s.ns.length rHP) s.ns.length (s.ns.map (Value.int .i64)) from (by simpa using hown.mono HB2.out.size))
                  clear hb hown hgr
                  refine hK.out _ _ ⟨hT3, fun _ _ => trivial⟩ ?_
                  clear hK K
                  (try simp only [Act.put, List.getElem_toArray, List.getElem_cons_succ, List.getElem_cons_zero, List.setIfInBounds_toArray, List.set_cons_succ, List.set_cons_zero])
                  refine wpTwo_ready (rs := [10, 12]) (by kernel_rfl) (by simp) ?_
                  refine (AllTwo.cons rfl (fun K hK => ?_) (AllTwo.cons rfl (fun K hK => ?_) AllTwo.nil))
                  · refine step_append_grows (by rfl) _ _ 25 (by rfl) 3 i0 (.int .i64 0) 1 8 Try.underlying25 HI0.out.1 HI0.out.2.1 HI0.out.2.2.1 HI0.out.2.2.2 rfl (by decide) (some ⟨gHD, 0, none⟩) 0 0 [] (by rfl) (fun e => by cases e) rfl (fun b _ j u hj => by cases hj) ⟨b2, o2, none⟩ s.os.length d (s.os.map (Value.int .i64)) (by rfl) (by rw [List.length_map]; omega) (HSV.out X3 HB3.out) (fun u hu => by obtain ⟨x, _, rfl⟩ := List.mem_map.1 hu; rfl) (by omega) (by unfold maxLen; omega) (by omega) ?_
                    intro v' X4 hown hgr
                    obtain ⟨qHQ, rHQ, rfl⟩ := owns_slice hown
                    rw [Nat.zero_add] at hown
                    simp only [Nat.zero_add]
                    have hb : Below X3.heap.size X3 X4 := ⟨hgr.os, hgr.tape, hgr.output, hgr.size, fun k hk => hgr.block k hk (by simp)⟩
                    have hT4 := hT3.below hb
                    have HB4 := Lib.hid (below_then HB3.out HB3.out.size hb)
                    have HD4 := Lib.hid (True.intro)
                    have HC4 := Lib.hid (True.intro)
                    have HP4 := Lib.hid (owns_below HP3.out hb)
                    have HQ4 := Lib.hid (show X4.ownsRow w1.heap.size 3 1 (.slice qHQ s.os.length rHQ) s.os.length (s.os.map (Value.int .i64)) from (by simpa using hown.mono HB3.out.size))
                    have HAP := Lib.hid (show ∀ g h : Nat, (Value.slice qHP s.ns.length rHP).ownBlock = some g → (Value.slice qHQ s.os.length rHQ).ownBlock = some h → g ≠ h from fun g h e1 e2 e => by have h1 := (HP3.out.lt g e1).2; have h2 := (hown.lt h (by simpa using e2)).1; omega)
                    clear hb hown hgr
                    refine hK.out _ _ ⟨hT4, fun _ _ => trivial⟩ ?_
                    clear hK K
                    (try simp only [Act.put, List.getElem_toArray, List.getElem_cons_succ, List.getElem_cons_zero, List.setIfInBounds_toArray, List.set_cons_succ, List.set_cons_zero])
                    refine wpTwo_takeT (i := 11) (v := .agg #[.int .i64 (s.now + 1), .slice qHP s.ns.length rHP, .slice qHQ s.os.length rHQ]) rfl (by kernel_rfl) (by kernel_rfl) (by kernel_rfl) (fun _ _ _ h => h) ⟨by rfl, ?_⟩ hT4 ?_
                    · rintro w hTw
                      go_simp
                    (try simp only [Act.put, List.getElem_toArray, List.getElem_cons_succ, List.getElem_cons_zero, List.setIfInBounds_toArray, List.set_cons_succ, List.set_cons_zero])
                    refine wpTwo_ready (rs := [12]) (by kernel_rfl) (by simp) ?_
                    refine (AllTwo.cons rfl (fun K hK => ?_) AllTwo.nil)
                    · go_simp
                      obtain ⟨z7, hy⟩ : ∃ q, q = X4.heap.size := ⟨_, rfl⟩
                      obtain ⟨X5, hX⟩ : ∃ X : World, X = X4.alloc (.cells #[.int .i64 0, .slice none 0 0, .slice none 0 0] 45) := ⟨_, rfl⟩
                      rw [← hX, ← hy]
                      have hb : Below X4.heap.size X4 X5 := by rw [hX]; exact below1 _ _
                      have hz7 : w1.heap.size ≤ z7 := by rw [hy]; exact HB4.out.size
                      have hT5 := hT4.below hb
                      have HB5 := Lib.hid (below_then HB4.out HB4.out.size hb)
                      have HD5 := Lib.hid (True.intro)
                      have HC5 := Lib.hid (True.intro)
                      have HP5 := Lib.hid (owns_below HP4.out hb)
                      have HQ5 := Lib.hid (owns_below HQ4.out hb)
                      have HA5 := Lib.hid (show RBox X5 z7 0 (.slice none 0 0) (.slice none 0 0) by rw [hX, hy]; exact RBox.new _ _ _ _)
                      clear hb hX hy
                      refine hK.out _ _ ⟨hT5, fun _ _ => trivial⟩ ?_
                      clear hK K
                      (try simp only [Act.put, List.getElem_toArray, List.getElem_cons_succ, List.getElem_cons_zero, List.setIfInBounds_toArray, List.set_cons_succ, List.set_cons_zero])
                      refine wpTwo_ready (rs := [13]) (by kernel_rfl) (by simp) ?_
                      refine (AllTwo.cons rfl (fun K hK => ?_) AllTwo.nil)
                      obtain ⟨d0, d1, d2⟩ := HA5.out.cells
                      have v0 := HA5.out.marks 0
                      have v1 := HA5.out.marks 1
                      have v2 := HA5.out.marks 2
                      obtain ⟨Xa, hXa⟩ : ∃ X : World, X = ((X5.setCell ⟨z7, 0, none⟩ (.int .i64 (s.now + 1))).setCell ⟨z7, 1, none⟩ (.slice qHP s.ns.length rHP)).setCell ⟨z7, 2, none⟩ (.slice qHQ s.os.length rHQ) := ⟨_, rfl⟩
                      have hka : Keeps (fun q => q = z7) X5 Xa := by rw [hXa]; exact RBox.putK X5 z7 _ _ _
                      have hrw : ∀ {v : Value} {n : Nat} {xs : List Int}, X5.ownsRow w1.heap.size 3 1 v n (xs.map (Value.int .i64)) → Xa.ownsRow w1.heap.size 3 1 v n (xs.map (Value.int .i64)) := fun {v n xs} h => hka.row h (fun g hg e => by
                        obtain ⟨cc, f, h1⟩ := Lib.ownsRow_kind h g hg
                        have h2 : X5.heap[z7]? = _ := HA5.out
                        rw [e, h2] at h1
                        simp at h1)
                      have HF := Lib.hid (show OutAt w1 z7 (s.now + 1) s.ns s.os qHP rHP qHQ rHQ Xa from ⟨by rw [hXa]; exact HA5.out.put _ _ _, hrw HP5.out, hrw HQ5.out, HAP.out, HB5.out.trans (hka.below HB5.out.size (fun q hq => by omega)), hz7⟩)
                      have hTa : RBox Xa z0 s.now (.slice (some ⟨b1, o1, none⟩) s.ns.length c) (.slice (some ⟨b2, o2, none⟩) s.os.length d) := HZL.out _ HF.out.below
                      go_simp
                      rw [← hXa]
                      refine hK.out _ _ ⟨hTa, fun _ _ => trivial⟩ ?_
                      clear hK K d0 d1 d2 v0 v1 v2 hXa hka hrw
                      (try simp only [Act.put, List.getElem_toArray, List.getElem_cons_succ, List.getElem_cons_zero, List.setIfInBounds_toArray, List.set_cons_succ, List.set_cons_zero])
                      refine wpTwo_end (by kernel_rfl) ?_ _
                      go_wp2
                      go_meet
                      exact ⟨z7, qHP, rHP, qHQ, rHQ, rfl, HF⟩
                  · go_simp
                    obtain ⟨z7, hy⟩ : ∃ q, q = X3.heap.size := ⟨_, rfl⟩
                    obtain ⟨X4, hX⟩ : ∃ X : World, X = X3.alloc (.cells #[.int .i64 0, .slice none 0 0, .slice none 0 0] 45) := ⟨_, rfl⟩
                    rw [← hX, ← hy]
                    have hb : Below X3.heap.size X3 X4 := by rw [hX]; exact below1 _ _
                    have hz7 : w1.heap.size ≤ z7 := by rw [hy]; exact HB3.out.size
                    have hT4 := hT3.below hb
                    have HB4 := Lib.hid (below_then HB3.out HB3.out.size hb)
                    have HD4 := Lib.hid (True.intro)
                    have HC4 := Lib.hid (True.intro)
                    have HP4 := Lib.hid (owns_below HP3.out hb)
                    have HA4 := Lib.hid (show RBox X4 z7 0 (.slice none 0 0) (.slice none 0 0) by rw [hX, hy]; exact RBox.new _ _ _ _)
                    clear hb hX hy
                    refine hK.out _ _ ⟨hT4, fun _ _ => trivial⟩ ?_
                    clear hK K
                    (try simp only [Act.put, List.getElem_toArray, List.getElem_cons_succ, List.getElem_cons_zero, List.setIfInBounds_toArray, List.set_cons_succ, List.set_cons_zero])
                    refine wpTwo_ready (rs := [10]) (by kernel_rfl) (by simp) ?_
                    refine (AllTwo.cons rfl (fun K hK => ?_) AllTwo.nil)
                    · refine step_append_grows (by rfl) _ _ 25 (by rfl) 3 i0 (.int .i64 0) 1 8 Try.underlying25 HI0.out.1 HI0.out.2.1 HI0.out.2.2.1 HI0.out.2.2.2 rfl (by decide) (some ⟨gHD, 0, none⟩) 0 0 [] (by rfl) (fun e => by cases e) rfl (fun b _ j u hj => by cases hj) ⟨b2, o2, none⟩ s.os.length d (s.os.map (Value.int .i64)) (by rfl) (by rw [List.length_map]; omega) (HSV.out X4 HB4.out) (fun u hu => by obtain ⟨x, _, rfl⟩ := List.mem_map.1 hu; rfl) (by omega) (by unfold maxLen; omega) (by omega) ?_
                      intro v' X5 hown hgr
                      obtain ⟨qHQ, rHQ, rfl⟩ := owns_slice hown
                      rw [Nat.zero_add] at hown
                      simp only [Nat.zero_add]
                      have hb : Below X4.heap.size X4 X5 := ⟨hgr.os, hgr.tape, hgr.output, hgr.size, fun k hk => hgr.block k hk (by simp)⟩
                      have hT5 := hT4.below hb
                      have HB5 := Lib.hid (below_then HB4.out HB4.out.size hb)
                      have HD5 := Lib.hid (True.intro)
                      have HC5 := Lib.hid (True.intro)
                      have HP5 := Lib.hid (owns_below HP4.out hb)
                      have HA5 := Lib.hid (HA4.out.below hb)
                      have HQ5 := Lib.hid (show X5.ownsRow w1.heap.size 3 1 (.slice qHQ s.os.length rHQ) s.os.length (s.os.map (Value.int .i64)) from (by simpa using hown.mono HB4.out.size))
                      have HAP := Lib.hid (show ∀ g h : Nat, (Value.slice qHP s.ns.length rHP).ownBlock = some g → (Value.slice qHQ s.os.length rHQ).ownBlock = some h → g ≠ h from fun g h e1 e2 e => by have h1 := (HP4.out.lt g e1).2; have h2 := (hown.lt h (by simpa using e2)).1; omega)
                      clear hb hown hgr
                      refine hK.out _ _ ⟨hT5, fun _ _ => trivial⟩ ?_
                      clear hK K
                      (try simp only [Act.put, List.getElem_toArray, List.getElem_cons_succ, List.getElem_cons_zero, List.setIfInBounds_toArray, List.set_cons_succ, List.set_cons_zero])
                      refine wpTwo_takeT (i := 11) (v := .agg #[.int .i64 (s.now + 1), .slice qHP s.ns.length rHP, .slice qHQ s.os.length rHQ]) rfl (by kernel_rfl) (by kernel_rfl) (by kernel_rfl) (fun _ _ _ h => h) ⟨by rfl, ?_⟩ hT5 ?_
                      · rintro w hTw
                        go_simp
                      (try simp only [Act.put, List.getElem_toArray, List.getElem_cons_succ, List.getElem_cons_zero, List.setIfInBounds_toArray, List.set_cons_succ, List.set_cons_zero])
                      refine wpTwo_ready (rs := [13]) (by kernel_rfl) (by simp) ?_
                      refine (AllTwo.cons rfl (fun K hK => ?_) AllTwo.nil)
                      obtain ⟨d0, d1, d2⟩ := HA5.out.cells
                      have v0 := HA5.out.marks 0
                      have v1 := HA5.out.marks 1
                      have v2 := HA5.out.marks 2
                      obtain ⟨Xa, hXa⟩ : ∃ X : World, X = ((X5.setCell ⟨z7, 0, none⟩ (.int .i64 (s.now + 1))).setCell ⟨z7, 1, none⟩ (.slice qHP s.ns.length rHP)).setCell ⟨z7, 2, none⟩ (.slice qHQ s.os.length rHQ) := ⟨_, rfl⟩
                      have hka : Keeps (fun q => q = z7) X5 Xa := by rw [hXa]; exact RBox.putK X5 z7 _ _ _
                      have hrw : ∀ {v : Value} {n : Nat} {xs : List Int}, X5.ownsRow w1.heap.size 3 1 v n (xs.map (Value.int .i64)) → Xa.ownsRow w1.heap.size 3 1 v n (xs.map (Value.int .i64)) := fun {v n xs} h => hka.row h (fun g hg e => by
                        obtain ⟨cc, f, h1⟩ := Lib.ownsRow_kind h g hg
                        have h2 : X5.heap[z7]? = _ := HA5.out
                        rw [e, h2] at h1
                        simp at h1)
                      have HF := Lib.hid (show OutAt w1 z7 (s.now + 1) s.ns s.os qHP rHP qHQ rHQ Xa from ⟨by rw [hXa]; exact HA5.out.put _ _ _, hrw HP5.out, hrw HQ5.out, HAP.out, HB5.out.trans (hka.below HB5.out.size (fun q hq => by omega)), hz7⟩)
                      have hTa : RBox Xa z0 s.now (.slice (some ⟨b1, o1, none⟩) s.ns.length c) (.slice (some ⟨b2, o2, none⟩) s.os.length d) := HZL.out _ HF.out.below
                      go_simp
                      rw [← hXa]
                      refine hK.out _ _ ⟨hTa, fun _ _ => trivial⟩ ?_
                      clear hK K d0 d1 d2 v0 v1 v2 hXa hka hrw
                      (try simp only [Act.put, List.getElem_toArray, List.getElem_cons_succ, List.getElem_cons_zero, List.setIfInBounds_toArray, List.set_cons_succ, List.set_cons_zero])
                      refine wpTwo_end (by kernel_rfl) ?_ _
                      go_wp2
                      go_meet
                      exact ⟨z7, qHP, rHP, qHQ, rHQ, rfl, HF⟩
                · go_simp
                  obtain ⟨z7, hy⟩ : ∃ q, q = X2.heap.size := ⟨_, rfl⟩
                  obtain ⟨X3, hX⟩ : ∃ X : World, X = X2.alloc (.cells #[.int .i64 0, .slice none 0 0, .slice none 0 0] 45) := ⟨_, rfl⟩
                  rw [← hX, ← hy]
                  have hb : Below X2.heap.size X2 X3 := by rw [hX]; exact below1 _ _
                  have hz7 : w1.heap.size ≤ z7 := by rw [hy]; exact HB2.out.size
                  have hT3 := hT2.below hb
                  have HB3 := Lib.hid (below_then HB2.out HB2.out.size hb)
                  have HD3 := Lib.hid (True.intro)
                  have HC3 := Lib.hid (True.intro)
                  have HA3 := Lib.hid (show RBox X3 z7 0 (.slice none 0 0) (.slice none 0 0) by rw [hX, hy]; exact RBox.new _ _ _ _)
                  clear hb hX hy
                  refine hK.out _ _ ⟨hT3, fun _ _ => trivial⟩ ?_
                  clear hK K
                  (try simp only [Act.put, List.getElem_toArray, List.getElem_cons_succ, List.getElem_cons_zero, List.setIfInBounds_toArray, List.set_cons_succ, List.set_cons_zero])
                  refine wpTwo_ready (rs := [6]) (by kernel_rfl) (by simp) ?_
                  refine (AllTwo.cons rfl (fun K hK => ?_) AllTwo.nil)
                  · refine step_append_grows (by rfl) _ _ 25 (by rfl) 3 i0 (.int .i64 0) 1 8 Try.underlying25 HI0.out.1 HI0.out.2.1 HI0.out.2.2.1 HI0.out.2.2.2 rfl (by decide) (some ⟨gHC, 0, none⟩) 0 0 [] (by rfl) (fun e => by cases e) rfl (fun b _ j u hj => by cases hj) ⟨b1, o1, none⟩ s.ns.length c (s.ns.map (Value.int .i64)) (by rfl) (by rw [List.length_map]; omega) (HSU.out X3 HB3.out) (fun u hu => by obtain ⟨x, _, rfl⟩ := List.mem_map.1 hu; rfl) (by omega) (by unfold maxLen; omega) (by omega) ?_
                    intro v' X4 hown hgr
                    obtain ⟨qHP, rHP, rfl⟩ := owns_slice hown
                    rw [Nat.zero_add] at hown
                    simp only [Nat.zero_add]
                    have hb : Below X3.heap.size X3 X4 := ⟨hgr.os, hgr.tape, hgr.output, hgr.size, fun k hk => hgr.block k hk (by simp)⟩
                    have hT4 := hT3.below hb
                    have HB4 := Lib.hid (below_then HB3.out HB3.out.size hb)
                    have HD4 := Lib.hid (True.intro)
                    have HC4 := Lib.hid (True.intro)
                    have HA4 := Lib.hid (HA3.out.below hb)
                    have HP4 := Lib.hid (show X4.ownsRow w1.heap.size 3 1 (.slice qHP s.ns.length rHP) s.ns.length (s.ns.map (Value.int .i64)) from (by simpa using hown.mono HB3.out.size))
                    clear hb hown hgr
                    refine hK.out _ _ ⟨hT4, fun _ _ => trivial⟩ ?_
                    clear hK K
                    (try simp only [Act.put, List.getElem_toArray, List.getElem_cons_succ, List.getElem_cons_zero, List.setIfInBounds_toArray, List.set_cons_succ, List.set_cons_zero])
                    refine wpTwo_ready (rs := [10]) (by kernel_rfl) (by simp) ?_
                    refine (AllTwo.cons rfl (fun K hK => ?_) AllTwo.nil)
                    · refine step_append_grows (by rfl) _ _ 25 (by rfl) 3 i0 (.int .i64 0) 1 8 Try.underlying25 HI0.out.1 HI0.out.2.1 HI0.out.2.2.1 HI0.out.2.2.2 rfl (by decide) (some ⟨gHD, 0, none⟩) 0 0 [] (by rfl) (fun e => by cases e) rfl (fun b _ j u hj => by cases hj) ⟨b2, o2, none⟩ s.os.length d (s.os.map (Value.int .i64)) (by rfl) (by rw [List.length_map]; omega) (HSV.out X4 HB4.out) (fun u hu => by obtain ⟨x, _, rfl⟩ := List.mem_map.1 hu; rfl) (by omega) (by unfold maxLen; omega) (by omega) ?_
                      intro v' X5 hown hgr
                      obtain ⟨qHQ, rHQ, rfl⟩ := owns_slice hown
                      rw [Nat.zero_add] at hown
                      simp only [Nat.zero_add]
                      have hb : Below X4.heap.size X4 X5 := ⟨hgr.os, hgr.tape, hgr.output, hgr.size, fun k hk => hgr.block k hk (by simp)⟩
                      have hT5 := hT4.below hb
                      have HB5 := Lib.hid (below_then HB4.out HB4.out.size hb)
                      have HD5 := Lib.hid (True.intro)
                      have HC5 := Lib.hid (True.intro)
                      have HA5 := Lib.hid (HA4.out.below hb)
                      have HP5 := Lib.hid (owns_below HP4.out hb)
                      have HQ5 := Lib.hid (show X5.ownsRow w1.heap.size 3 1 (.slice qHQ s.os.length rHQ) s.os.length (s.os.map (Value.int .i64)) from (by simpa using hown.mono HB4.out.size))
                      have HAP := Lib.hid (show ∀ g h : Nat, (Value.slice qHP s.ns.length rHP).ownBlock = some g → (Value.slice qHQ s.os.length rHQ).ownBlock = some h → g ≠ h from fun g h e1 e2 e => by have h1 := (HP4.out.lt g e1).2; have h2 := (hown.lt h (by simpa using e2)).1; omega)
                      clear hb hown hgr
                      refine hK.out _ _ ⟨hT5, fun _ _ => trivial⟩ ?_
                      clear hK K
                      (try simp only [Act.put, List.getElem_toArray, List.getElem_cons_succ, List.getElem_cons_zero, List.setIfInBounds_toArray, List.set_cons_succ, List.set_cons_zero])
                      refine wpTwo_takeT (i := 11) (v := .agg #[.int .i64 (s.now + 1), .slice qHP s.ns.length rHP, .slice qHQ s.os.length rHQ]) rfl (by kernel_rfl) (by kernel_rfl) (by kernel_rfl) (fun _ _ _ h => h) ⟨by rfl, ?_⟩ hT5 ?_
                      · rintro w hTw
                        go_simp
                      (try simp only [Act.put, List.getElem_toArray, List.getElem_cons_succ, List.getElem_cons_zero, List.setIfInBounds_toArray, List.set_cons_succ, List.set_cons_zero])
                      refine wpTwo_ready (rs := [13]) (by kernel_rfl) (by simp) ?_
                      refine (AllTwo.cons rfl (fun K hK => ?_) AllTwo.nil)
                      obtain ⟨d0, d1, d2⟩ := HA5.out.cells
                      have v0 := HA5.out.marks 0
                      have v1 := HA5.out.marks 1
                      have v2 := HA5.out.marks 2
                      obtain ⟨Xa, hXa⟩ : ∃ X : World, X = ((X5.setCell ⟨z7, 0, none⟩ (.int .i64 (s.now + 1))).setCell ⟨z7, 1, none⟩ (.slice qHP s.ns.length rHP)).setCell ⟨z7, 2, none⟩ (.slice qHQ s.os.length rHQ) := ⟨_, rfl⟩
                      have hka : Keeps (fun q => q = z7) X5 Xa := by rw [hXa]; exact RBox.putK X5 z7 _ _ _
                      have hrw : ∀ {v : Value} {n : Nat} {xs : List Int}, X5.ownsRow w1.heap.size 3 1 v n (xs.map (Value.int .i64)) → Xa.ownsRow w1.heap.size 3 1 v n (xs.map (Value.int .i64)) := fun {v n xs} h => hka.row h (fun g hg e => by
                        obtain ⟨cc, f, h1⟩ := Lib.ownsRow_kind h g hg
                        have h2 : X5.heap[z7]? = _ := HA5.out
                        rw [e, h2] at h1
                        simp at h1)
                      have HF := Lib.hid (show OutAt w1 z7 (s.now + 1) s.ns s.os qHP rHP qHQ rHQ Xa from ⟨by rw [hXa]; exact HA5.out.put _ _ _, hrw HP5.out, hrw HQ5.out, HAP.out, HB5.out.trans (hka.below HB5.out.size (fun q hq => by omega)), hz7⟩)
                      have hTa : RBox Xa z0 s.now (.slice (some ⟨b1, o1, none⟩) s.ns.length c) (.slice (some ⟨b2, o2, none⟩) s.os.length d) := HZL.out _ HF.out.below
                      go_simp
                      rw [← hXa]
                      refine hK.out _ _ ⟨hTa, fun _ _ => trivial⟩ ?_
                      clear hK K d0 d1 d2 v0 v1 v2 hXa hka hrw
                      (try simp only [Act.put, List.getElem_toArray, List.getElem_cons_succ, List.getElem_cons_zero, List.setIfInBounds_toArray, List.set_cons_succ, List.set_cons_zero])
                      refine wpTwo_end (by kernel_rfl) ?_ _
                      go_wp2
                      go_meet
                      exact ⟨z7, qHP, rHP, qHQ, rHQ, rfl, HF⟩
              · go_simp
                obtain ⟨z7, hy⟩ : ∃ q, q = X1.heap.size := ⟨_, rfl⟩
                obtain ⟨X2, hX⟩ : ∃ X : World, X = X1.alloc (.cells #[.int .i64 0, .slice none 0 0, .slice none 0 0] 45) := ⟨_, rfl⟩
                rw [← hX, ← hy]
                have hb : Below X1.heap.size X1 X2 := by rw [hX]; exact below1 _ _
                have hz7 : w1.heap.size ≤ z7 := by rw [hy]; exact HB1.out.size
                have hT2 := hT1.below hb
                have HB2 := Lib.hid (below_then HB1.out HB1.out.size hb)
                have HD2 := Lib.hid (True.intro)
                have HA2 := Lib.hid (show RBox X2 z7 0 (.slice none 0 0) (.slice none 0 0) by rw [hX, hy]; exact RBox.new _ _ _ _)
                clear hb hX hy
                refine hK.out _ _ ⟨hT2, fun _ _ => trivial⟩ ?_
                clear hK K
                (try simp only [Act.put, List.getElem_toArray, List.getElem_cons_succ, List.getElem_cons_zero, List.setIfInBounds_toArray, List.set_cons_succ, List.set_cons_zero])
                refine wpTwo_ready (rs := [3]) (by kernel_rfl) (by simp) ?_
                refine (AllTwo.cons rfl (fun K hK => ?_) AllTwo.nil)
                · go_simp
                  obtain ⟨gHC, hy⟩ : ∃ q, q = X2.heap.size := ⟨_, rfl⟩
                  obtain ⟨X3, hX⟩ : ∃ X : World, X = X2.alloc (.cells #[] 3) := ⟨_, rfl⟩
                  rw [← hX, ← hy]
                  have hb : Below X2.heap.size X2 X3 := by rw [hX]; exact below1 _ _
                  have hT3 := hT2.below hb
                  have HB3 := Lib.hid (below_then HB2.out HB2.out.size hb)
                  have HD3 := Lib.hid (True.intro)
                  have HA3 := Lib.hid (HA2.out.below hb)
                  have HC3 := Lib.hid True.intro
                  clear hb hX hy
                  refine hK.out _ _ ⟨hT3, fun _ _ => trivial⟩ ?_
                  clear hK K
                  (try simp only [Act.put, List.getElem_toArray, List.getElem_cons_succ, List.getElem_cons_zero, List.setIfInBounds_toArray, List.set_cons_succ, List.set_cons_zero])
                  refine wpTwo_ready (rs := [6]) (by kernel_rfl) (by simp) ?_
                  refine (AllTwo.cons rfl (fun K hK => ?_) AllTwo.nil)
                  · refine step_append_grows (by rfl) _ _ 25 (by rfl) 3 i0 (.int .i64 0) 1 8 Try.underlying25 HI0.out.1 HI0.out.2.1 HI0.out.2.2.1 HI0.out.2.2.2 rfl (by decide) (some ⟨gHC, 0, none⟩) 0 0 [] (by rfl) (fun e => by cases e) rfl (fun b _ j u hj => by cases hj) ⟨b1, o1, none⟩ s.ns.length c (s.ns.map (Value.int .i64)) (by rfl) (by rw [List.length_map]; omega) (HSU.out X3 HB3.out) (fun u hu => by obtain ⟨x, _, rfl⟩ := List.mem_map.1 hu; rfl) (by omega) (by unfold maxLen; omega) (by omega) ?_
                    intro v' X4 hown hgr
                    obtain ⟨qHP, rHP, rfl⟩ := owns_slice hown
                    rw [Nat.zero_add] at hown
                    simp only [Nat.zero_add]
                    have hb : Below X3.heap.size X3 X4 := ⟨hgr.os, hgr.tape, hgr.output, hgr.size, fun k hk => hgr.block k hk (by simp)⟩
                    have hT4 := hT3.below hb
                    have HB4 := Lib.hid (below_then HB3.out HB3.out.size hb)
                    have HD4 := Lib.hid (True.intro)
                    have HA4 := Lib.hid (HA3.out.below hb)
                    have HC4 := Lib.hid (True.intro)
                    have HP4 := Lib.hid (show X4.ownsRow w1.heap.size 3 1 (.slice qHP s.ns.length rHP) s.ns.length (s.ns.map (Value.int .i64)) from (by simpa using hown.mono HB3.out.size))
                    clear hb hown hgr
                    refine hK.out _ _ ⟨hT4, fun _ _ => trivial⟩ ?_
                    clear hK K
                    (try simp only [Act.put, List.getElem_toArray, List.getElem_cons_succ, List.getElem_cons_zero, List.setIfInBounds_toArray, List.set_cons_succ, List.set_cons_zero])
                    refine wpTwo_ready (rs := [10]) (by kernel_rfl) (by simp) ?_
                    refine (AllTwo.cons rfl (fun K hK => ?_) AllTwo.nil)
                    · refine step_append_grows (by rfl) _ _ 25 (by rfl) 3 i0 (.int .i64 0) 1 8 Try.underlying25 HI0.out.1 HI0.out.2.1 HI0.out.2.2.1 HI0.out.2.2.2 rfl (by decide) (some ⟨gHD, 0, none⟩) 0 0 [] (by rfl) (fun e => by cases e) rfl (fun b _ j u hj => by cases hj) ⟨b2, o2, none⟩ s.os.length d (s.os.map (Value.int .i64)) (by rfl) (by rw [List.length_map]; omega) (HSV.out X4 HB4.out) (fun u hu => by obtain ⟨x, _, rfl⟩ := List.mem_map.1 hu; rfl) (by omega) (by unfold maxLen; omega) (by omega) ?_
                      intro v' X5 hown hgr
                      obtain ⟨qHQ, rHQ, rfl⟩ := owns_slice hown
                      rw [Nat.zero_add] at hown
                      simp only [Nat.zero_add]
                      have hb : Below X4.heap.size X4 X5 := ⟨hgr.os, hgr.tape, hgr.output, hgr.size, fun k hk => hgr.block k hk (by simp)⟩
                      have hT5 := hT4.below hb
                      have HB5 := Lib.hid (below_then HB4.out HB4.out.size hb)
                      have HD5 := Lib.hid (True.intro)
                      have HA5 := Lib.hid (HA4.out.below hb)
                      have HC5 := Lib.hid (True.intro)
                      have HP5 := Lib.hid (owns_below HP4.out hb)
                      have HQ5 := Lib.hid (show X5.ownsRow w1.heap.size 3 1 (.slice qHQ s.os.length rHQ) s.os.length (s.os.map (Value.int .i64)) from (by simpa using hown.mono HB4.out.size))
                      have HAP := Lib.hid (show ∀ g h : Nat, (Value.slice qHP s.ns.length rHP).ownBlock = some g → (Value.slice qHQ s.os.length rHQ).ownBlock = some h → g ≠ h from fun g h e1 e2 e => by have h1 := (HP4.out.lt g e1).2; have h2 := (hown.lt h (by simpa using e2)).1; omega)
                      clear hb hown hgr
                      refine hK.out _ _ ⟨hT5, fun _ _ => trivial⟩ ?_
                      clear hK K
                      (try simp only [Act.put, List.getElem_toArray, List.getElem_cons_succ, List.getElem_cons_zero, List.setIfInBounds_toArray, List.set_cons_succ, List.set_cons_zero])
                      refine wpTwo_takeT (i := 11) (v := .agg #[.int .i64 (s.now + 1), .slice qHP s.ns.length rHP, .slice qHQ s.os.length rHQ]) rfl (by kernel_rfl) (by kernel_rfl) (by kernel_rfl) (fun _ _ _ h => h) ⟨by rfl, ?_⟩ hT5 ?_
                      · rintro w hTw
                        go_simp
                      (try simp only [Act.put, List.getElem_toArray, List.getElem_cons_succ, List.getElem_cons_zero, List.setIfInBounds_toArray, List.set_cons_succ, List.set_cons_zero])
                      refine wpTwo_ready (rs := [13]) (by kernel_rfl) (by simp) ?_
                      refine (AllTwo.cons rfl (fun K hK => ?_) AllTwo.nil)
                      obtain ⟨d0, d1, d2⟩ := HA5.out.cells
                      have v0 := HA5.out.marks 0
                      have v1 := HA5.out.marks 1
                      have v2 := HA5.out.marks 2
                      obtain ⟨Xa, hXa⟩ : ∃ X : World, X = ((X5.setCell ⟨z7, 0, none⟩ (.int .i64 (s.now + 1))).setCell ⟨z7, 1, none⟩ (.slice qHP s.ns.length rHP)).setCell ⟨z7, 2, none⟩ (.slice qHQ s.os.length rHQ) := ⟨_, rfl⟩
                      have hka : Keeps (fun q => q = z7) X5 Xa := by rw [hXa]; exact RBox.putK X5 z7 _ _ _
                      have hrw : ∀ {v : Value} {n : Nat} {xs : List Int}, X5.ownsRow w1.heap.size 3 1 v n (xs.map (Value.int .i64)) → Xa.ownsRow w1.heap.size 3 1 v n (xs.map (Value.int .i64)) := fun {v n xs} h => hka.row h (fun g hg e => by
                        obtain ⟨cc, f, h1⟩ := Lib.ownsRow_kind h g hg
                        have h2 : X5.heap[z7]? = _ := HA5.out
                        rw [e, h2] at h1
                        simp at h1)
                      have HF := Lib.hid (show OutAt w1 z7 (s.now + 1) s.ns s.os qHP rHP qHQ rHQ Xa from ⟨by rw [hXa]; exact HA5.out.put _ _ _, hrw HP5.out, hrw HQ5.out, HAP.out, HB5.out.trans (hka.below HB5.out.size (fun q hq => by omega)), hz7⟩)
                      have hTa : RBox Xa z0 s.now (.slice (some ⟨b1, o1, none⟩) s.ns.length c) (.slice (some ⟨b2, o2, none⟩) s.os.length d) := HZL.out _ HF.out.below
                      go_simp
                      rw [← hXa]
                      refine hK.out _ _ ⟨hTa, fun _ _ => trivial⟩ ?_
                      clear hK K d0 d1 d2 v0 v1 v2 hXa hka hrw
                      (try simp only [Act.put, List.getElem_toArray, List.getElem_cons_succ, List.getElem_cons_zero, List.setIfInBounds_toArray, List.set_cons_succ, List.set_cons_zero])
                      refine wpTwo_end (by kernel_rfl) ?_ _
                      go_wp2
                      go_meet
                      exact ⟨z7, qHP, rHP, qHQ, rHQ, rfl, HF⟩
            · go_simp
              obtain ⟨z7, hy⟩ : ∃ q, q = X0.heap.size := ⟨_, rfl⟩
              obtain ⟨X1, hX⟩ : ∃ X : World, X = X0.alloc (.cells #[.int .i64 0, .slice none 0 0, .slice none 0 0] 45) := ⟨_, rfl⟩
              rw [← hX, ← hy]
              have hb : Below X0.heap.size X0 X1 := by rw [hX]; exact below1 _ _
              have hz7 : w1.heap.size ≤ z7 := by rw [hy]; exact HB0.out.size
              have hT1 := hT0.below hb
              have HB1 := Lib.hid (below_then HB0.out HB0.out.size hb)
              have HA1 := Lib.hid (show RBox X1 z7 0 (.slice none 0 0) (.slice none 0 0) by rw [hX, hy]; exact RBox.new _ _ _ _)
              clear hb hX hy
              refine hK.out _ _ ⟨hT1, fun _ _ => trivial⟩ ?_
              clear hK K
              (try simp only [Act.put, List.getElem_toArray, List.getElem_cons_succ, List.getElem_cons_zero, List.setIfInBounds_toArray, List.set_cons_succ, List.set_cons_zero])
              refine wpTwo_ready (rs := [3, 7]) (by kernel_rfl) (by simp) ?_
              refine (AllTwo.cons rfl (fun K hK => ?_) (AllTwo.cons rfl (fun K hK => ?_) AllTwo.nil))
              · go_simp
                obtain ⟨gHC, hy⟩ : ∃ q, q = X1.heap.size := ⟨_, rfl⟩
                obtain ⟨X2, hX⟩ : ∃ X : World, X = X1.alloc (.cells #[] 3) := ⟨_, rfl⟩
                rw [← hX, ← hy]
                have hb : Below X1.heap.size X1 X2 := by rw [hX]; exact below1 _ _
                have hT2 := hT1.below hb
                have HB2 := Lib.hid (below_then HB1.out HB1.out.size hb)
                have HA2 := Lib.hid (HA1.out.below hb)
                have HC2 := Lib.hid True.intro
                clear hb hX hy
                refine hK.out _ _ ⟨hT2, fun _ _ => trivial⟩ ?_
                clear hK K
                (try simp only [Act.put, List.getElem_toArray, List.getElem_cons_succ, List.getElem_cons_zero, List.setIfInBounds_toArray, List.set_cons_succ, List.set_cons_zero])
                refine wpTwo_ready (rs := [6, 7]) (by kernel_rfl) (by simp) ?_
                refine (AllTwo.cons rfl (fun K hK => ?_) (AllTwo.cons rfl (fun K hK => ?_) AllTwo.nil))
                · refine step_append_grows (by rfl) _ _ 25 (by rfl) 3 i0 (.int .i64 0) 1 8 Try.underlying25 HI0.out.1 HI0.out.2.1 HI0.out.2.2.1 HI0.out.2.2.2 rfl (by decide) (some ⟨gHC, 0, none⟩) 0 0 [] (by rfl) (fun e => by cases e) rfl (fun b _ j u hj => by cases hj) ⟨b1, o1, none⟩ s.ns.length c (s.ns.map (Value.int .i64)) (by rfl) (by rw [List.length_map]; omega) (HSU.out X2 HB2.out) (fun u hu => by obtain ⟨x, _, rfl⟩ := List.mem_map.1 hu; rfl) (by omega) (by unfold maxLen; omega) (by omega) ?_
                  intro v' X3 hown hgr
                  obtain ⟨qHP, rHP, rfl⟩ := owns_slice hown
                  rw [Nat.zero_add] at hown
                  simp only [Nat.zero_add]
                  have hb : Below X2.heap.size X2 X3 := ⟨hgr.os, hgr.tape, hgr.output, hgr.size, fun k hk => hgr.block k hk (by simp)⟩
                  have hT3 := hT2.below hb
                  have HB3 := Lib.hid (below_then HB2.out HB2.out.size hb)
                  have HA3 := Lib.hid (HA2.out.below hb)
                  have HC3 := Lib.hid (True.intro)
                  have HP3 := Lib.hid (show X3.ownsRow w1.heap.size 3 1 (.slice qHP s.ns.length rHP) s.ns.length (s.ns.map (Value.int .i64)) from (by simpa using hown.mono HB2.out.size))
                  clear hb hown hgr
                  refine hK.out _ _ ⟨hT3, fun _ _ => trivial⟩ ?_
                  clear hK K
                  (try simp only [Act.put, List.getElem_toArray, List.getElem_cons_succ, List.getElem_cons_zero, List.setIfInBounds_toArray, List.set_cons_succ, List.set_cons_zero])
                  refine wpTwo_ready (rs := [7]) (by kernel_rfl) (by simp) ?_
                  refine (AllTwo.cons rfl (fun K hK => ?_) AllTwo.nil)
                  · go_simp
                    obtain ⟨gHD, hy⟩ : ∃ q, q = X3.heap.size := ⟨_, rfl⟩
                    obtain ⟨X4, hX⟩ : ∃ X : World, X = X3.alloc (.cells #[] 3) := ⟨_, rfl⟩
                    rw [← hX, ← hy]
                    have hb : Below X3.heap.size X3 X4 := by rw [hX]; exact below1 _ _
                    have hT4 := hT3.below hb
                    have HB4 := Lib.hid (below_then HB3.out HB3.out.size hb)
                    have HA4 := Lib.hid (HA3.out.below hb)
                    have HC4 := Lib.hid (True.intro)
                    have HP4 := Lib.hid (owns_below HP3.out hb)
                    have HD4 := Lib.hid True.intro
                    clear hb hX hy
                    refine hK.out _ _ ⟨hT4, fun _ _ => trivial⟩ ?_
                    clear hK K
                    (try simp only [Act.put, List.getElem_toArray, List.getElem_cons_succ, List.getElem_cons_zero, List.setIfInBounds_toArray, List.set_cons_succ, List.set_cons_zero])
                    refine wpTwo_ready (rs := [10]) (by kernel_rfl) (by simp) ?_
                    refine (AllTwo.cons rfl (fun K hK => ?_) AllTwo.nil)
                    · refine step_append_grows (by rfl) _ _ 25 (by rfl) 3 i0 (.int .i64 0) 1 8 Try.underlying25 HI0.out.1 HI0.out.2.1 HI0.out.2.2.1 HI0.out.2.2.2 rfl (by decide) (some ⟨gHD, 0, none⟩) 0 0 [] (by rfl) (fun e => by cases e) rfl (fun b _ j u hj => by cases hj) ⟨b2, o2, none⟩ s.os.length d (s.os.map (Value.int .i64)) (by rfl) (by rw [List.length_map]; omega) (HSV.out X4 HB4.out) (fun u hu => by obtain ⟨x, _, rfl⟩ := List.mem_map.1 hu; rfl) (by omega) (by unfold maxLen; omega) (by omega) ?_
                      intro v' X5 hown hgr
                      obtain ⟨qHQ, rHQ, rfl⟩ := owns_slice hown
                      rw [Nat.zero_add] at hown
                      simp only [Nat.zero_add]
                      have hb : Below X4.heap.size X4 X5 := ⟨hgr.os, hgr.tape, hgr.output, hgr.size, fun k hk => hgr.block k hk (by simp)⟩
                      have hT5 := hT4.below hb
                      have HB5 := Lib.hid (below_then HB4.out HB4.out.size hb)
                      have HA5 := Lib.hid (HA4.out.below hb)
                      have HC5 := Lib.hid (True.intro)
                      have HP5 := Lib.hid (owns_below HP4.out hb)
                      have HD5 := Lib.hid (True.intro)
                      have HQ5 := Lib.hid (show X5.ownsRow w1.heap.size 3 1 (.slice qHQ s.os.length rHQ) s.os.length (s.os.map (Value.int .i64)) from (by simpa using hown.mono HB4.out.size))
                      have HAP := Lib.hid (show ∀ g h : Nat, (Value.slice qHP s.ns.length rHP).ownBlock = some g → (Value.slice qHQ s.os.length rHQ).ownBlock = some h → g ≠ h from fun g h e1 e2 e => by have h1 := (HP4.out.lt g e1).2; have h2 := (hown.lt h (by simpa using e2)).1; omega)
                      clear hb hown hgr
                      refine hK.out _ _ ⟨hT5, fun _ _ => trivial⟩ ?_
                      clear hK K
                      (try simp only [Act.put, List.getElem_toArray, List.getElem_cons_succ, List.getElem_cons_zero, List.setIfInBounds_toArray, List.set_cons_succ, List.set_cons_zero])
                      refine wpTwo_takeT (i := 11) (v := .agg #[.int .i64 (s.now + 1), .slice qHP s.ns.length rHP, .slice qHQ s.os.length rHQ]) rfl (by kernel_rfl) (by kernel_rfl) (by kernel_rfl) (fun _ _ _ h => h) ⟨by rfl, ?_⟩ hT5 ?_
                      · rintro w hTw
                        go_simp
                      (try simp only [Act.put, List.getElem_toArray, List.getElem_cons_succ, List.getElem_cons_zero, List.setIfInBounds_toArray, List.set_cons_succ, List.set_cons_zero])
                      refine wpTwo_ready (rs := [13]) (by kernel_rfl) (by simp) ?_
                      refine (AllTwo.cons rfl (fun K hK => ?_) AllTwo.nil)
                      obtain ⟨d0, d1, d2⟩ := HA5.out.cells
                      have v0 := HA5.out.marks 0
                      have v1 := HA5.out.marks 1
                      have v2 := HA5.out.marks 2
                      obtain ⟨Xa, hXa⟩ : ∃ X : World, X = ((X5.setCell ⟨z7, 0, none⟩ (.int .i64 (s.now + 1))).setCell ⟨z7, 1, none⟩ (.slice qHP s.ns.length rHP)).setCell ⟨z7, 2, none⟩ (.slice qHQ s.os.length rHQ) := ⟨_, rfl⟩
                      have hka : Keeps (fun q => q = z7) X5 Xa := by rw [hXa]; exact RBox.putK X5 z7 _ _ _
                      have hrw : ∀ {v : Value} {n : Nat} {xs : List Int}, X5.ownsRow w1.heap.size 3 1 v n (xs.map (Value.int .i64)) → Xa.ownsRow w1.heap.size 3 1 v n (xs.map (Value.int .i64)) := fun {v n xs} h => hka.row h (fun g hg e => by
                        obtain ⟨cc, f, h1⟩ := Lib.ownsRow_kind h g hg
                        have h2 : X5.heap[z7]? = _ := HA5.out
                        rw [e, h2] at h1
                        simp at h1)
                      have HF := Lib.hid (show OutAt w1 z7 (s.now + 1) s.ns s.os qHP rHP qHQ rHQ Xa from ⟨by rw [hXa]; exact HA5.out.put _ _ _, hrw HP5.out, hrw HQ5.out, HAP.out, HB5.out.trans (hka.below HB5.out.size (fun q hq => by omega)), hz7⟩)
                      have hTa : RBox Xa z0 s.now (.slice (some ⟨b1, o1, none⟩) s.ns.length c) (.slice (some ⟨b2, o2, none⟩) s.os.length d) := HZL.out _ HF.out.below
                      go_simp
                      rw [← hXa]
                      refine hK.out _ _ ⟨hTa, fun _ _ => trivial⟩ ?_
                      clear hK K d0 d1 d2 v0 v1 v2 hXa hka hrw
                      (try simp only [Act.put, List.getElem_toArray, List.getElem_cons_succ, List.getElem_cons_zero, List.setIfInBounds_toArray, List.set_cons_succ, List.set_cons_zero])
                      refine wpTwo_end (by kernel_rfl) ?_ _
                      go_wp2
                      go_meet
                      exact ⟨z7, qHP, rHP, qHQ, rHQ, rfl, HF⟩
                · go_simp
                  obtain ⟨gHD, hy⟩ : ∃ q, q = X2.heap.size := ⟨_, rfl⟩
                  obtain ⟨X3, hX⟩ : ∃ X : World, X = X2.alloc (.cells #[] 3) := ⟨_, rfl⟩
                  rw [← hX, ← hy]
                  have hb : Below X2.heap.size X2 X3 := by rw [hX]; exact below1 _ _
                  have hT3 := hT2.below hb
                  have HB3 := Lib.hid (below_then HB2.out HB2.out.size hb)
                  have HA3 := Lib.hid (HA2.out.below hb)
                  have HC3 := Lib.hid (True.intro)
                  have HD3 := Lib.hid True.intro
                  clear hb hX hy
                  refine hK.out _ _ ⟨hT3, fun _ _ => trivial⟩ ?_
                  clear hK K
                  (try simp only [Act.put, List.getElem_toArray, List.getElem_cons_succ, List.getElem_cons_zero, List.setIfInBounds_toArray, List.set_cons_succ, List.set_cons_zero])
                  refine wpTwo_ready (rs := [6]) (by kernel_rfl) (by simp) ?_
                  refine (AllTwo.cons rfl (fun K hK => ?_) AllTwo.nil)
                  · refine step_append_grows (by rfl) _ _ 25 (by rfl) 3 i0 (.int .i64 0) 1 8 Try.underlying25 HI0.out.1 HI0.out.2.1 HI0.out.2.2.1 HI0.out.2.2.2 rfl (by decide) (some ⟨gHC, 0, none⟩) 0 0 [] (by rfl) (fun e => by cases e) rfl (fun b _ j u hj => by cases hj) ⟨b1, o1, none⟩ s.ns.length c (s.ns.map (Value.int .i64)) (by rfl) (by rw [List.length_map]; omega) (HSU.out X3 HB3.out) (fun u hu => by obtain ⟨x, _, rfl⟩ := List.mem_map.1 hu; rfl) (by omega) (by unfold maxLen; omega) (by omega) ?_
                    intro v' X4 hown hgr
                    obtain ⟨qHP, rHP, rfl⟩ := owns_slice hown
                    rw [Nat.zero_add] at hown
                    simp only [Nat.zero_add]
                    have hb : Below X3.heap.size X3 X4 := ⟨hgr.os, hgr.tape, hgr.output, hgr.size, fun k hk => hgr.block k hk (by simp)⟩
                    have hT4 := hT3.below hb
                    have HB4 := Lib.hid (below_then HB3.out HB3.out.size hb)
                    have HA4 := Lib.hid (HA3.out.below hb)
                    have HC4 := Lib.hid (True.intro)
                    have HD4 := Lib.hid (True.intro)
                    have HP4 := Lib.hid (show X4.ownsRow w1.heap.size 3 1 (.slice qHP s.ns.length rHP) s.ns.length (s.ns.map (Value.int .i64)) from (by simpa using hown.mono HB3.out.size))
                    clear hb hown hgr
                    refine hK.out _ _ ⟨hT4, fun _ _ => trivial⟩ ?_
                    clear hK K
                    (try simp only [Act.put, List.getElem_toArray, List.getElem_cons_succ, List.getElem_cons_zero, List.setIfInBounds_toArray, List.set_cons_succ, List.set_cons_zero])
                    refine wpTwo_ready (rs := [10]) (by kernel_rfl) (by simp) ?_
                    refine (AllTwo.cons rfl (fun K hK => ?_) AllTwo.nil)
                    · refine step_append_grows (by rfl) _ _ 25 (by rfl) 3 i0 (.int .i64 0) 1 8 Try.underlying25 HI0.out.1 HI0.out.2.1 HI0.out.2.2.1 HI0.out.2.2.2 rfl (by decide) (some ⟨gHD, 0, none⟩) 0 0 [] (by rfl) (fun e => by cases e) rfl (fun b _ j u hj => by cases hj) ⟨b2, o2, none⟩ s.os.length d (s.os.map (Value.int .i64)) (by rfl) (by rw [List.length_map]; omega) (HSV.out X4 HB4.out) (fun u hu => by obtain ⟨x, _, rfl⟩ := List.mem_map.1 hu; rfl) (by omega) (by unfold maxLen; omega) (by omega) ?_
                      intro v' X5 hown hgr
                      obtain ⟨qHQ, rHQ, rfl⟩ := owns_slice hown
                      rw [Nat.zero_add] at hown
                      simp only [Nat.zero_add]
                      have hb : Below X4.heap.size X4 X5 := ⟨hgr.os, hgr.tape, hgr.output, hgr.size, fun k hk => hgr.block k hk (by simp)⟩
                      have hT5 := hT4.below hb
                      have HB5 := Lib.hid (below_then HB4.out HB4.out.size hb)
                      have HA5 := Lib.hid (HA4.out.below hb)
                      have HC5 := Lib.hid (True.intro)
                      have HD5 := Lib.hid (True.intro)
                      have HP5 := Lib.hid (owns_below HP4.out hb)
                      have HQ5 := Lib.hid (show X5.ownsRow w1.heap.size 3 1 (.slice qHQ s.os.length rHQ) s.os.length (s.os.map (Value.int .i64)) from (by simpa using hown.mono HB4.out.size))
                      have HAP := Lib.hid (show ∀ g h : Nat, (Value.slice qHP s.ns.length rHP).ownBlock = some g → (Value.slice qHQ s.os.length rHQ).ownBlock = some h → g ≠ h from fun g h e1 e2 e => by have h1 := (HP4.out.lt g e1).2; have h2 := (hown.lt h (by simpa using e2)).1; omega)
                      clear hb hown hgr
                      refine hK.out _ _ ⟨hT5, fun _ _ => trivial⟩ ?_
                      clear hK K
                      (try simp only [Act.put, List.getElem_toArray, List.getElem_cons_succ, List.getElem_cons_zero, List.setIfInBounds_toArray, List.set_cons_succ, List.set_cons_zero])
                      refine wpTwo_takeT (i := 11) (v := .agg #[.int .i64 (s.now + 1), .slice qHP s.ns.length rHP, .slice qHQ s.os.length rHQ]) rfl (by kernel_rfl) (by kernel_rfl) (by kernel_rfl) (fun _ _ _ h => h) ⟨by rfl, ?_⟩ hT5 ?_
                      · rintro w hTw
                        go_simp
                      (try simp only [Act.put, List.getElem_toArray, List.getElem_cons_succ, List.getElem_cons_zero, List.setIfInBounds_toArray, List.set_cons_succ, List.set_cons_zero])
                      refine wpTwo_ready (rs := [13]) (by kernel_rfl) (by simp) ?_
                      refine (AllTwo.cons rfl (fun K hK => ?_) AllTwo.nil)
                      obtain ⟨d0, d1, d2⟩ := HA5.out.cells
                      have v0 := HA5.out.marks 0
                      have v1 := HA5.out.marks 1
                      have v2 := HA5.out.marks 2
                      obtain ⟨Xa, hXa⟩ : ∃ X : World, X = ((X5.setCell ⟨z7, 0, none⟩ (.int .i64 (s.now + 1))).setCell ⟨z7, 1, none⟩ (.slice qHP s.ns.length rHP)).setCell ⟨z7, 2, none⟩ (.slice qHQ s.os.length rHQ) := ⟨_, rfl⟩
                      have hka : Keeps (fun q => q = z7) X5 Xa := by rw [hXa]; exact RBox.putK X5 z7 _ _ _
                      have hrw : ∀ {v : Value} {n : Nat} {xs : List Int}, X5.ownsRow w1.heap.size 3 1 v n (xs.map (Value.int .i64)) → Xa.ownsRow w1.heap.size 3 1 v n (xs.map (Value.int .i64)) := fun {v n xs} h => hka.row h (fun g hg e => by
                        obtain ⟨cc, f, h1⟩ := Lib.ownsRow_kind h g hg
                        have h2 : X5.heap[z7]? = _ := HA5.out
                        rw [e, h2] at h1
                        simp at h1)
                      have HF := Lib.hid (show OutAt w1 z7 (s.now + 1) s.ns s.os qHP rHP qHQ rHQ Xa from ⟨by rw [hXa]; exact HA5.out.put _ _ _, hrw HP5.out, hrw HQ5.out, HAP.out, HB5.out.trans (hka.below HB5.out.size (fun q hq => by omega)), hz7⟩)
                      have hTa : RBox Xa z0 s.now (.slice (some ⟨b1, o1, none⟩) s.ns.length c) (.slice (some ⟨b2, o2, none⟩) s.os.length d) := HZL.out _ HF.out.below
                      go_simp
                      rw [← hXa]
                      refine hK.out _ _ ⟨hTa, fun _ _ => trivial⟩ ?_
                      clear hK K d0 d1 d2 v0 v1 v2 hXa hka hrw
                      (try simp only [Act.put, List.getElem_toArray, List.getElem_cons_succ, List.getElem_cons_zero, List.setIfInBounds_toArray, List.set_cons_succ, List.set_cons_zero])
                      refine wpTwo_end (by kernel_rfl) ?_ _
                      go_wp2
                      go_meet
                      exact ⟨z7, qHP, rHP, qHQ, rHQ, rfl, HF⟩
              · go_simp
                obtain ⟨gHD, hy⟩ : ∃ q, q = X1.heap.size := ⟨_, rfl⟩
                obtain ⟨X2, hX⟩ : ∃ X : World, X = X1.alloc (.cells #[] 3) := ⟨_, rfl⟩
                rw [← hX, ← hy]
                have hb : Below X1.heap.size X1 X2 := by rw [hX]; exact below1 _ _
                have hT2 := hT1.below hb
                have HB2 := Lib.hid (below_then HB1.out HB1.out.size hb)
                have HA2 := Lib.hid (HA1.out.below hb)
                have HD2 := Lib.hid True.intro
                clear hb hX hy
                refine hK.out _ _ ⟨hT2, fun _ _ => trivial⟩ ?_
                clear hK K
                (try simp only [Act.put, List.getElem_toArray, List.getElem_cons_succ, List.getElem_cons_zero, List.setIfInBounds_toArray, List.set_cons_succ, List.set_cons_zero])
                refine wpTwo_ready (rs := [3]) (by kernel_rfl) (by simp) ?_
                refine (AllTwo.cons rfl (fun K hK => ?_) AllTwo.nil)
                · go_simp
                  obtain ⟨gHC, hy⟩ : ∃ q, q = X2.heap.size := ⟨_, rfl⟩
                  obtain ⟨X3, hX⟩ : ∃ X : World, X = X2.alloc (.cells #[] 3) := ⟨_, rfl⟩
                  rw [← hX, ← hy]
                  have hb : Below X2.heap.size X2 X3 := by rw [hX]; exact below1 _ _
                  have hT3 := hT2.below hb
                  have HB3 := Lib.hid (below_then HB2.out HB2.out.size hb)
                  have HA3 := Lib.hid (HA2.out.below hb)
                  have HD3 := Lib.hid (True.intro)
                  have HC3 := Lib.hid True.intro
                  clear hb hX hy
                  refine hK.out _ _ ⟨hT3, fun _ _ => trivial⟩ ?_
                  clear hK K
                  (try simp only [Act.put, List.getElem_toArray, List.getElem_cons_succ, List.getElem_cons_zero, List.setIfInBounds_toArray, List.set_cons_succ, List.set_cons_zero])
                  refine wpTwo_ready (rs := [6]) (by kernel_rfl) (by simp) ?_
                  refine (AllTwo.cons rfl (fun K hK => ?_) AllTwo.nil)
                  · refine step_append_grows (by rfl) _ _ 25 (by rfl) 3 i0 (.int .i64 0) 1 8 Try.underlying25 HI0.out.1 HI0.out.2.1 HI0.out.2.2.1 HI0.out.2.2.2 rfl (by decide) (some ⟨gHC, 0, none⟩) 0 0 [] (by rfl) (fun e => by cases e) rfl (fun b _ j u hj => by cases hj) ⟨b1, o1, none⟩ s.ns.length c (s.ns.map (Value.int .i64)) (by rfl) (by rw [List.length_map]; omega) (HSU.out X3 HB3.out) (fun u hu => by obtain ⟨x, _, rfl⟩ := List.mem_map.1 hu; rfl) (by omega) (by unfold maxLen; omega) (by omega) ?_
                    intro v' X4 hown hgr
                    obtain ⟨qHP, rHP, rfl⟩ := owns_slice hown
                    rw [Nat.zero_add] at hown
                    simp only [Nat.zero_add]
                    have hb : Below X3.heap.size X3 X4 := ⟨hgr.os, hgr.tape, hgr.output, hgr.size, fun k hk => hgr.block k hk (by simp)⟩
                    have hT4 := hT3.below hb
                    have HB4 := Lib.hid (below_then HB3.out HB3.out.size hb)
                    have HA4 := Lib.hid (HA3.out.below hb)
                    have HD4 := Lib.hid (True.intro)
                    have HC4 := Lib.hid (True.intro)
                    have HP4 := Lib.hid (show X4.ownsRow w1.heap.size 3 1 (.slice qHP s.ns.length rHP) s.ns.length (s.ns.map (Value.int .i64)) from (by simpa using hown.mono HB3.out.size))
                    clear hb hown hgr
                    refine hK.out _ _ ⟨hT4, fun _ _ => trivial⟩ ?_
                    clear hK K
                    (try simp only [Act.put, List.getElem_toArray, List.getElem_cons_succ, List.getElem_cons_zero, List.setIfInBounds_toArray, List.set_cons_succ, List.set_cons_zero])
                    refine wpTwo_ready (rs := [10]) (by kernel_rfl) (by simp) ?_
                    refine (AllTwo.cons rfl (fun K hK => ?_) AllTwo.nil)
                    · refine step_append_grows (by rfl) _ _ 25 (by rfl) 3 i0 (.int .i64 0) 1 8 Try.underlying25 HI0.out.1 HI0.out.2.1 HI0.out.2.2.1 HI0.out.2.2.2 rfl (by decide) (some ⟨gHD, 0, none⟩) 0 0 [] (by rfl) (fun e => by cases e) rfl (fun b _ j u hj => by cases hj) ⟨b2, o2, none⟩ s.os.length d (s.os.map (Value.int .i64)) (by rfl) (by rw [List.length_map]; omega) (HSV.out X4 HB4.out) (fun u hu => by obtain ⟨x, _, rfl⟩ := List.mem_map.1 hu; rfl) (by omega) (by unfold maxLen; omega) (by omega) ?_
                      intro v' X5 hown hgr
                      obtain ⟨qHQ, rHQ, rfl⟩ := owns_slice hown
                      rw [Nat.zero_add] at hown
                      simp only [Nat.zero_add]
                      have hb : Below X4.heap.size X4 X5 := ⟨hgr.os, hgr.tape, hgr.output, hgr.size, fun k hk => hgr.block k hk (by simp)⟩
                      have hT5 := hT4.below hb
                      have HB5 := Lib.hid (below_then HB4.out HB4.out.size hb)
                      have HA5 := Lib.hid (HA4.out.below hb)
                      have HD5 := Lib.hid (True.intro)
                      have HC5 := Lib.hid (True.intro)
                      have HP5 := Lib.hid (owns_below HP4.out hb)
                      have HQ5 := Lib.hid (show X5.ownsRow w1.heap.size 3 1 (.slice qHQ s.os.length rHQ) s.os.length (s.os.map (Value.int .i64)) from (by simpa using hown.mono HB4.out.size))
                      have HAP := Lib.hid (show ∀ g h : Nat, (Value.slice qHP s.ns.length rHP).ownBlock = some g → (Value.slice qHQ s.os.length rHQ).ownBlock = some h → g ≠ h from fun g h e1 e2 e => by have h1 := (HP4.out.lt g e1).2; have h2 := (hown.lt h (by simpa using e2)).1; omega)
                      clear hb hown hgr
                      refine hK.out _ _ ⟨hT5, fun _ _ => trivial⟩ ?_
                      clear hK K
                      (try simp only [Act.put, List.getElem_toArray, List.getElem_cons_succ, List.getElem_cons_zero, List.setIfInBounds_toArray, List.set_cons_succ, List.set_cons_zero])
                      refine wpTwo_takeT (i := 11) (v := .agg #[.int .i64 (s.now + 1), .slice qHP s.ns.length rHP, .slice qHQ s.os.length rHQ]) rfl (by kernel_rfl) (by kernel_rfl) (by kernel_rfl) (fun _ _ _ h => h) ⟨by rfl, ?_⟩ hT5 ?_
                      · rintro w hTw
                        go_simp
                      (try simp only [Act.put, List.getElem_toArray, List.getElem_cons_succ, List.getElem_cons_zero, List.setIfInBounds_toArray, List.set_cons_succ, List.set_cons_zero])
                      refine wpTwo_ready (rs := [13]) (by kernel_rfl) (by simp) ?_
                      refine (AllTwo.cons rfl (fun K hK => ?_) AllTwo.nil)
                      obtain ⟨d0, d1, d2⟩ := HA5.out.cells
                      have v0 := HA5.out.marks 0
                      have v1 := HA5.out.marks 1
                      have v2 := HA5.out.marks 2
                      obtain ⟨Xa, hXa⟩ : ∃ X : World, X = ((X5.setCell ⟨z7, 0, none⟩ (.int .i64 (s.now + 1))).setCell ⟨z7, 1, none⟩ (.slice qHP s.ns.length rHP)).setCell ⟨z7, 2, none⟩ (.slice qHQ s.os.length rHQ) := ⟨_, rfl⟩
                      have hka : Keeps (fun q => q = z7) X5 Xa := by rw [hXa]; exact RBox.putK X5 z7 _ _ _
                      have hrw : ∀ {v : Value} {n : Nat} {xs : List Int}, X5.ownsRow w1.heap.size 3 1 v n (xs.map (Value.int .i64)) → Xa.ownsRow w1.heap.size 3 1 v n (xs.map (Value.int .i64)) := fun {v n xs} h => hka.row h (fun g hg e => by
                        obtain ⟨cc, f, h1⟩ := Lib.ownsRow_kind h g hg
                        have h2 : X5.heap[z7]? = _ := HA5.out
                        rw [e, h2] at h1
                        simp at h1)
                      have HF := Lib.hid (show OutAt w1 z7 (s.now + 1) s.ns s.os qHP rHP qHQ rHQ Xa from ⟨by rw [hXa]; exact HA5.out.put _ _ _, hrw HP5.out, hrw HQ5.out, HAP.out, HB5.out.trans (hka.below HB5.out.size (fun q hq => by omega)), hz7⟩)
                      have hTa : RBox Xa z0 s.now (.slice (some ⟨b1, o1, none⟩) s.ns.length c) (.slice (some ⟨b2, o2, none⟩) s.os.length d) := HZL.out _ HF.out.below
                      go_simp
                      rw [← hXa]
                      refine hK.out _ _ ⟨hTa, fun _ _ => trivial⟩ ?_
                      clear hK K d0 d1 d2 v0 v1 v2 hXa hka hrw
                      (try simp only [Act.put, List.getElem_toArray, List.getElem_cons_succ, List.getElem_cons_zero, List.setIfInBounds_toArray, List.set_cons_succ, List.set_cons_zero])
                      refine wpTwo_end (by kernel_rfl) ?_ _
                      go_wp2
                      go_meet
                      exact ⟨z7, qHP, rHP, qHQ, rHQ, rfl, HF⟩
          case rest =>
            obtain ⟨z7, q1, r1, q2, r2, rfl, hO⟩ := hcut
            obtain ⟨wd, hwd⟩ : ∃ X : World, X = wc := ⟨_, rfl⟩
            rw [← hwd] at hO
            rw [← hwd]
            clear hwd e0 e1 e2 x0 x1 hx
            obtain ⟨g1, rfl⟩ : ∃ g, q1 = some ⟨g, 0, none⟩ := by
              rcases hO.out.nest.2 with ⟨h, h0⟩ | ⟨g, cap, cur, h, _⟩
              · have h1 := HG.out.l1; injection h with _ h2; omega
              · injection h with h; exact ⟨g, h⟩
            obtain ⟨g2, rfl⟩ : ∃ g, q2 = some ⟨g, 0, none⟩ := by
              rcases hO.out.opened.2 with ⟨h, h0⟩ | ⟨g, cap, cur, h, _⟩
              · have h1 := HG.out.l1; have h3 := HG.out.lo; injection h with _ h2; omega
              · injection h with h; exact ⟨g, h⟩
            have hgg : g1 ≠ g2 := hO.out.apart g1 g2 rfl rfl
            have hz1 : z7 ≠ g1 := fun e => by
              obtain ⟨cc, f, h1⟩ := Lib.ownsRow_kind hO.out.nest g1 rfl
              have h2 : wd.heap[z7]? = _ := hO.out.box
              rw [e, h1] at h2; simp at h2
            have hz2 : z7 ≠ g2 := fun e => by
              obtain ⟨cc, f, h1⟩ := Lib.ownsRow_kind hO.out.opened g2 rfl
              have h2 : wd.heap[z7]? = _ := hO.out.box
              rw [e, h1] at h2; simp at h2
            obtain ⟨y0, y1, y2⟩ := hO.out.box.cells
            obtain ⟨x0, x1⟩ := (HW1.out.2.1.below hO.out.below).cells
            have hc1 := hO.out.nest.cellAt i (by omega)
            have hm1 := hO.out.nest.frozenAt i
            have hio : i < s.os.length := by have := HG.out.lo; omega
            rw [List.getElem?_map, List.getElem?_eq_getElem hi] at hc1
            obtain ⟨we, hwe⟩ : ∃ X : World, X = wd.setCell ⟨g1, i, none⟩ (.int .i64 (n + 1)) := ⟨_, rfl⟩
            have hke : Keeps (fun q => q = g1) wd we := by rw [hwe]; exact Keeps.setCell wd (S := (· = g1)) (p := ⟨g1, i, none⟩) rfl _
            have hN2 : we.ownsRow w1.heap.size 3 1 (.slice (some ⟨g1, 0, none⟩) s.ns.length r1) s.ns.length ((s.ns.set i (n + 1)).map (Value.int .i64)) := by
              rw [hwe, List.map_set]
              exact (hO.out.nest.stored i _).1
            have hO2 : we.ownsRow w1.heap.size 3 1 (.slice (some ⟨g2, 0, none⟩) s.os.length r2) s.os.length (s.os.map (Value.int .i64)) := hke.row hO.out.opened (fun g hg e => by have hgk := own_blk hg; omega)
            have hB2 : RBox we z7 (s.now + 1) (.slice (some ⟨g1, 0, none⟩) s.ns.length r1) (.slice (some ⟨g2, 0, none⟩) s.os.length r2) := hO.out.box.keeps hke hz1
            have hL1 := (hO.out.nest.lt g1 rfl).1
            have hW2 : Below w1.heap.size w1 we := hO.out.below.trans (hke.below hO.out.below.size (fun q e => by omega))
            have HE2 := Lib.hid (And.intro hN2 (And.intro hO2 (And.intro hB2 hW2)))
            have HL2 := Lib.hid (And.intro hL1 (And.intro (hO.out.opened.lt g2 rfl).1 hO.out.late))
            have HWE := Lib.hid hwe
            have HGG := Lib.hid (And.intro hgg (And.intro hz1 hz2))
            clear hwe hke hN2 hO2 hB2 hW2 hO hL1
            go_upto_region 11 with fail
            rw [← HWE.out]
            clear y0 y1 y2 x0 x1 hc1 hm1 HWE hgg hz1 hz2
            obtain ⟨y0, y1, y2⟩ := HE2.out.2.2.1.cells
            obtain ⟨x0, x1⟩ := (HW1.out.2.1.below HE2.out.2.2.2).cells
            by_cases hcs : n = 0
            · have hq5 : (n == 0) = true := by rw [hcs]; rfl
              have HS := Lib.hid (show stepS s (i : Int) true = ⟨s.now + 1, s.ns.set i (n + 1), s.os.set i (s.now + 1)⟩ by
                unfold stepS
                simp only [if_true, Int.toNat_natCast]
                rw [show s.ns.getD i 0 = n from HN.out.symm, if_pos hcs])
              have hios : (i : Int) < (s.os.length : Int) := by omega
              have hc2 := HE2.out.2.1.cellAt i (by omega)
              have hm2 := HE2.out.2.1.frozenAt i
              rw [List.getElem?_map, List.getElem?_eq_getElem hio] at hc2
              obtain ⟨wf, hwf⟩ : ∃ X : World, X = we.setCell ⟨g2, i, none⟩ (.int .i64 (s.now + 1)) := ⟨_, rfl⟩
              have hkf : Keeps (fun q => q = g2) we wf := by rw [hwf]; exact Keeps.setCell we (S := (· = g2)) (p := ⟨g2, i, none⟩) rfl _
              have hN3 : wf.ownsRow w1.heap.size 3 1 (.slice (some ⟨g1, 0, none⟩) s.ns.length r1) s.ns.length ((s.ns.set i (n + 1)).map (Value.int .i64)) := hkf.row HE2.out.1 (fun g hg e => by have hgk := own_blk hg; have := HGG.out.1; omega)
              have hO3 : wf.ownsRow w1.heap.size 3 1 (.slice (some ⟨g2, 0, none⟩) s.os.length r2) s.os.length ((s.os.set i (s.now + 1)).map (Value.int .i64)) := by
                rw [hwf, List.map_set]
                exact (HE2.out.2.1.stored i _).1
              have HE3 := Lib.hid (And.intro hN3 (And.intro hO3 (And.intro (HE2.out.2.2.1.keeps hkf HGG.out.2.2) (HE2.out.2.2.2.trans (hkf.below HE2.out.2.2.2.size (fun q e => by have := HL2.out.2.1; omega))))))
              have HWF := Lib.hid hwf
              have HNL := Lib.hid (show (stepS s (i : Int) true).ns.length = s.ns.length ∧ (stepS s (i : Int) true).os.length = s.os.length from stepS_len s i true)
              clear hwf hkf hN3 hO3 hcs HE2
              go_upto_region 13 with fail
              rw [← HWF.out]
              clear y0 y1 y2 x0 x1 hc2 hm2 HWF
              obtain ⟨y0, y1, y2⟩ := HE3.out.2.2.1.cells
              have HZR := Lib.hid (show RBox wf (z0 + 1 + 1) 0 (.slice none 0 0) (.slice none 0 0) from HW1.out.2.2.1.below HE3.out.2.2.2)
              obtain ⟨f0, f1, f2⟩ := HZR.out.cells
              have m0 := HZR.out.marks 0
              have m1 := HZR.out.marks 1
              have m2 := HZR.out.marks 2
              have HP := Lib.hid (HZR.out.put (s.now + 1) (.slice (some ⟨g1, 0, none⟩) s.ns.length r1) (.slice (some ⟨g2, 0, none⟩) s.os.length r2))
              have HK := Lib.hid (RBox.putK wf (z0 + 1 + 1) (s.now + 1) (.slice (some ⟨g1, 0, none⟩) s.ns.length r1) (.slice (some ⟨g2, 0, none⟩) s.os.length r2))
              obtain ⟨w9, hw9⟩ : ∃ X : World, X = (((wf.setCell ⟨z0 + 1 + 1, 0, none⟩ (.int .i64 (s.now + 1))).setCell ⟨z0 + 1 + 1, 1, none⟩ (.slice (some ⟨g1, 0, none⟩) s.ns.length r1)).setCell ⟨z0 + 1 + 1, 2, none⟩ (.slice (some ⟨g2, 0, none⟩) s.os.length r2)) := ⟨_, rfl⟩
              rw [← hw9] at HP HK
              have HW9 := Lib.hid hw9
              clear hw9
              go_wp2
              rw [← HW9.out]
              have hgl := HL2.out
              have hzz := HZ0.out
              have hB9 : Below W.heap.size W wf := HW1.out.2.2.2.trans (HE3.out.2.2.2.mono HW1.out.2.2.2.size)
              refine bodyPost_ret (v := .tuple #[.agg #[.int .i64 (s.now + 1), .slice (some ⟨g1, 0, none⟩) s.ns.length r1, .slice (some ⟨g2, 0, none⟩) s.os.length r2], .int .i64 0]) (HP.out.result2 rfl _ rfl rfl) rfl ⟨⟨_, _, _, _, _, _, _, by rw [HE.out], .inr ⟨HE.out, ?_, HNL.out.1.symm, HNL.out.2.symm, ?_, ?_⟩⟩, hB9.trans (HK.out.below hB9.size (fun q e => by omega))⟩
              · rw [HS.out]
              · rw [HNL.out.1, HS.out]; exact ((HK.out.row HE3.out.1 (fun g hg e => by have hgk := own_blk hg; omega)).mono (by omega))
              · rw [HNL.out.2, HS.out]; exact ((HK.out.row HE3.out.2.1 (fun g hg e => by have hgk := own_blk hg; omega)).mono (by omega))
            · have hq5 : (n == 0) = false := by rw [beq_eq_false_iff_ne]; exact hcs
              have HS := Lib.hid (show stepS s (i : Int) true = ⟨s.now + 1, s.ns.set i (n + 1), s.os⟩ by
                unfold stepS
                simp only [if_true, Int.toNat_natCast]
                rw [show s.ns.getD i 0 = n from HN.out.symm, if_neg hcs])
              have HNL := Lib.hid (show (stepS s (i : Int) true).ns.length = s.ns.length ∧ (stepS s (i : Int) true).os.length = s.os.length from stepS_len s i true)
              clear hcs
              go_upto_region 13 with fail
              clear y0 y1 y2 x0 x1
              obtain ⟨y0, y1, y2⟩ := HE2.out.2.2.1.cells
              have HZR := Lib.hid (show RBox we (z0 + 1 + 1) 0 (.slice none 0 0) (.slice none 0 0) from HW1.out.2.2.1.below HE2.out.2.2.2)
              obtain ⟨f0, f1, f2⟩ := HZR.out.cells
              have m0 := HZR.out.marks 0
              have m1 := HZR.out.marks 1
              have m2 := HZR.out.marks 2
              have HP := Lib.hid (HZR.out.put (s.now + 1) (.slice (some ⟨g1, 0, none⟩) s.ns.length r1) (.slice (some ⟨g2, 0, none⟩) s.os.length r2))
              have HK := Lib.hid (RBox.putK we (z0 + 1 + 1) (s.now + 1) (.slice (some ⟨g1, 0, none⟩) s.ns.length r1) (.slice (some ⟨g2, 0, none⟩) s.os.length r2))
              obtain ⟨w9, hw9⟩ : ∃ X : World, X = (((we.setCell ⟨z0 + 1 + 1, 0, none⟩ (.int .i64 (s.now + 1))).setCell ⟨z0 + 1 + 1, 1, none⟩ (.slice (some ⟨g1, 0, none⟩) s.ns.length r1)).setCell ⟨z0 + 1 + 1, 2, none⟩ (.slice (some ⟨g2, 0, none⟩) s.os.length r2)) := ⟨_, rfl⟩
              rw [← hw9] at HP HK
              have HW9 := Lib.hid hw9
              clear hw9
              go_wp2
              rw [← HW9.out]
              have hgl := HL2.out
              have hzz := HZ0.out
              have hB9 : Below W.heap.size W we := HW1.out.2.2.2.trans (HE2.out.2.2.2.mono HW1.out.2.2.2.size)
              refine bodyPost_ret (v := .tuple #[.agg #[.int .i64 (s.now + 1), .slice (some ⟨g1, 0, none⟩) s.ns.length r1, .slice (some ⟨g2, 0, none⟩) s.os.length r2], .int .i64 0]) (HP.out.result2 rfl _ rfl rfl) rfl ⟨⟨_, _, _, _, _, _, _, by rw [HE.out], .inr ⟨HE.out, ?_, HNL.out.1.symm, HNL.out.2.symm, ?_, ?_⟩⟩, hB9.trans (HK.out.below hB9.size (fun q e => by omega))⟩
              · rw [HS.out]
              · rw [HNL.out.1, HS.out]; exact ((HK.out.row HE2.out.1 (fun g hg e => by have hgk := own_blk hg; omega)).mono (by omega))
              · rw [HNL.out.2, HS.out]; exact ((HK.out.row HE2.out.2.1 (fun g hg e => by have hgk := own_blk hg; omega)).mono (by omega))
        | false =>
          have hq4 := hq3 rfl
          clear hq2 hq3
          go_upto_region 8 with fail
          go_cut [7] (fun s7 wc => ∃ (z7 : Nat) (q1 : Option Addr) (r1 : Nat) (q2 : Option Addr) (r2 : Nat), s7 = .pointer (some ⟨z7, 0, none⟩) ∧ Hid (OutAt w1 z7 (s.now + 1) s.ns s.os q1 r1 q2 r2 wc))
          case first => as_aux_lemma =>
            refine wpTwo_begin (T := fun w' => RBox w' z0 s.now (.slice (some ⟨b1, o1, none⟩) s.ns.length c) (.slice (some ⟨b2, o2, none⟩) s.os.length d)) (S := fun _ => True) (late := fun _ => false) (by kernel_rfl) ?_
            obtain ⟨X0, hX0⟩ : ∃ X : World, X = w1.drew := ⟨_, rfl⟩
            rw [← hX0]
            have HB0 := Lib.hid (show Below w1.heap.size w1 X0 by rw [hX0]; exact (Below.refl _ _).drew)
            have hT0 : RBox X0 z0 s.now (.slice (some ⟨b1, o1, none⟩) s.ns.length c) (.slice (some ⟨b2, o2, none⟩) s.os.length d) := HZL.out _ HB0.out
            clear hX0 e0 e1 e2
            refine wpTwo_takeT (i := 0) (v := .pointer (some ⟨z0, 0, none⟩)) rfl (by kernel_rfl) (by kernel_rfl) (by kernel_rfl) (fun _ _ _ h => h) ⟨by rfl, ?_⟩ hT0 ?_
            · rintro w hTw
              go_simp
            (try simp only [Act.put, List.getElem_toArray, List.getElem_cons_zero, List.setIfInBounds_toArray, List.set_cons_succ, List.set_cons_zero])
            refine wpTwo_takeT (i := 1) (v := .int .i64 s.now) rfl (by kernel_rfl) (by kernel_rfl) (by kernel_rfl) (fun _ _ _ h => h) ⟨by rfl, ?_⟩ hT0 ?_
            · rintro w hTw
              obtain ⟨t0', t1', t2'⟩ := hTw.cells
              go_simp
            (try simp only [Act.put, List.getElem_toArray, List.getElem_cons_succ, List.getElem_cons_zero, List.setIfInBounds_toArray, List.set_cons_succ, List.set_cons_zero])
            refine wpTwo_takeT (i := 2) (v := .int .i64 (s.now + 1)) rfl (by kernel_rfl) (by kernel_rfl) (by kernel_rfl) (fun _ _ _ h => h) ⟨by rfl, ?_⟩ hT0 ?_
            · rintro w hTw
              have hwr : IntKind.i64.wrap (s.now + 1) = s.now + 1 := IntWalk.i64_in _ (by omega)
              go_simp
            (try simp only [Act.put, List.getElem_toArray, List.getElem_cons_succ, List.getElem_cons_zero, List.setIfInBounds_toArray, List.set_cons_succ, List.set_cons_zero])
            refine wpTwo_takeT (i := 4) (v := .pointer (some ⟨z0, 1, none⟩)) rfl (by kernel_rfl) (by kernel_rfl) (by kernel_rfl) (fun _ _ _ h => h) ⟨by rfl, ?_⟩ hT0 ?_
            · rintro w hTw
              go_simp
            (try simp only [Act.put, List.getElem_toArray, List.getElem_cons_succ, List.getElem_cons_zero, List.setIfInBounds_toArray, List.set_cons_succ, List.set_cons_zero])
            refine wpTwo_takeT (i := 5) (v := .slice (some ⟨b1, o1, none⟩) s.ns.length c) rfl (by kernel_rfl) (by kernel_rfl) (by kernel_rfl) (fun _ _ _ h => h) ⟨by rfl, ?_⟩ hT0 ?_
            · rintro w hTw
              obtain ⟨t0', t1', t2'⟩ := hTw.cells
              go_simp
            (try simp only [Act.put, List.getElem_toArray, List.getElem_cons_succ, List.getElem_cons_zero, List.setIfInBounds_toArray, List.set_cons_succ, List.set_cons_zero])
            refine wpTwo_takeT (i := 8) (v := .pointer (some ⟨z0, 2, none⟩)) rfl (by kernel_rfl) (by kernel_rfl) (by kernel_rfl) (fun _ _ _ h => h) ⟨by rfl, ?_⟩ hT0 ?_
            · rintro w hTw
              go_simp
            (try simp only [Act.put, List.getElem_toArray, List.getElem_cons_succ, List.getElem_cons_zero, List.setIfInBounds_toArray, List.set_cons_succ, List.set_cons_zero])
            refine wpTwo_takeT (i := 9) (v := .slice (some ⟨b2, o2, none⟩) s.os.length d) rfl (by kernel_rfl) (by kernel_rfl) (by kernel_rfl) (fun _ _ _ h => h) ⟨by rfl, ?_⟩ hT0 ?_
            · rintro w hTw
              obtain ⟨t0', t1', t2'⟩ := hTw.cells
              go_simp
            (try simp only [Act.put, List.getElem_toArray, List.getElem_cons_succ, List.getElem_cons_zero, List.setIfInBounds_toArray, List.set_cons_succ, List.set_cons_zero])
            refine wpTwo_ready (rs := [3, 7, 12]) (by kernel_rfl) (by simp) ?_
            refine (AllTwo.cons rfl (fun K hK => ?_) (AllTwo.cons rfl (fun K hK => ?_) (AllTwo.cons rfl (fun K hK => ?_) AllTwo.nil)))
            · go_simp
              obtain ⟨gHC, hy⟩ : ∃ q, q = X0.heap.size := ⟨_, rfl⟩
              obtain ⟨X1, hX⟩ : ∃ X : World, X = X0.alloc (.cells #[] 3) := ⟨_, rfl⟩
              rw [← hX, ← hy]
              have hb : Below X0.heap.size X0 X1 := by rw [hX]; exact below1 _ _
              have hT1 := hT0.below hb
              have HB1 := Lib.hid (below_then HB0.out HB0.out.size hb)
              have HC1 := Lib.hid True.intro
              clear hb hX hy
              refine hK.out _ _ ⟨hT1, fun _ _ => trivial⟩ ?_
              clear hK K
              (try simp only [Act.put, List.getElem_toArray, List.getElem_cons_succ, List.getElem_cons_zero, List.setIfInBounds_toArray, List.set_cons_succ, List.set_cons_zero])
              refine wpTwo_ready (rs := [6, 7, 12]) (by kernel_rfl) (by simp) ?_
              refine (AllTwo.cons rfl (fun K hK => ?_) (AllTwo.cons rfl (fun K hK => ?_) (AllTwo.cons rfl (fun K hK => ?_) AllTwo.nil)))
              · refine step_append_grows (by rfl) _ _ 25 (by rfl) 3 i0 (.int .i64 0) 1 8 Try.underlying25 HI0.out.1 HI0.out.2.1 HI0.out.2.2.1 HI0.out.2.2.2 rfl (by decide) (some ⟨gHC, 0, none⟩) 0 0 [] (by rfl) (fun e => by cases e) rfl (fun b _ j u hj => by cases hj) ⟨b1, o1, none⟩ s.ns.length c (s.ns.map (Value.int .i64)) (by rfl) (by rw [List.length_map]; omega) (HSU.out X1 HB1.out) (fun u hu => by obtain ⟨x, _, rfl⟩ := List.mem_map.1 hu; rfl) (by omega) (by unfold maxLen; omega) (by omega) ?_
                intro v' X2 hown hgr
                obtain ⟨qHP, rHP, rfl⟩ := owns_slice hown
                rw [Nat.zero_add] at hown
                simp only [Nat.zero_add]
                have hb : Below X1.heap.size X1 X2 := ⟨hgr.os, hgr.tape, hgr.output, hgr.size, fun k hk => hgr.block k hk (by simp)⟩
                have hT2 := hT1.below hb
                have HB2 := Lib.hid (below_then HB1.out HB1.out.size hb)
                have HC2 := Lib.hid (True.intro)
                have HP2 := Lib.hid (show X2.ownsRow w1.heap.size 3 1 (.slice qHP s.ns.length rHP) s.ns.length (s.ns.map (Value.int .i64)) from (by simpa using hown.mono HB1.out.size))
                clear hb hown hgr
                refine hK.out _ _ ⟨hT2, fun _ _ => trivial⟩ ?_
                clear hK K
                (try simp only [Act.put, List.getElem_toArray, List.getElem_cons_succ, List.getElem_cons_zero, List.setIfInBounds_toArray, List.set_cons_succ, List.set_cons_zero])
                refine wpTwo_ready (rs := [7, 12]) (by kernel_rfl) (by simp) ?_
                refine (AllTwo.cons rfl (fun K hK => ?_) (AllTwo.cons rfl (fun K hK => ?_) AllTwo.nil))
                · go_simp
                  obtain ⟨gHD, hy⟩ : ∃ q, q = X2.heap.size := ⟨_, rfl⟩
                  obtain ⟨X3, hX⟩ : ∃ X : World, X = X2.alloc (.cells #[] 3) := ⟨_, rfl⟩
                  rw [← hX, ← hy]
                  have hb : Below X2.heap.size X2 X3 := by rw [hX]; exact below1 _ _
                  have hT3 := hT2.below hb
                  have HB3 := Lib.hid (below_then HB2.out HB2.out.size hb)
                  have HC3 := Lib.hid (True.intro)
                  have HP3 := Lib.hid (owns_below HP2.out hb)
                  have HD3 := Lib.hid True.intro
                  clear hb hX hy
                  refine hK.out _ _ ⟨hT3, fun _ _ => trivial⟩ ?_
                  clear hK K
                  (try simp only [Act.put, List.getElem_toArray, List.getElem_cons_succ, List.getElem_cons_zero, List.setIfInBounds_toArray, List.set_cons_succ, List.set_cons_zero])
                  refine wpTwo_ready (rs := [10, 12]) (by kernel_rfl) (by simp) ?_
                  refine (AllTwo.cons rfl (fun K hK => ?_) (AllTwo.cons rfl (fun K hK => ?_) AllTwo.nil))
                  · refine step_append_grows (by rfl) _ _ 25 (by rfl) 3 i0 (.int .i64 0) 1 8 Try.underlying25 HI0.out.1 HI0.out.2.1 HI0.out.2.2.1 HI0.out.2.2.2 rfl (by decide) (some ⟨gHD, 0, none⟩) 0 0 [] (by rfl) (fun e => by cases e) rfl (fun b _ j u hj => by cases hj) ⟨b2, o2, none⟩ s.os.length d (s.os.map (Value.int .i64)) (by rfl) (by rw [List.length_map]; omega) (HSV.out X3 HB3.out) (fun u hu => by obtain ⟨x, _, rfl⟩ := List.mem_map.1 hu; rfl) (by omega) (by unfold maxLen; omega) (by omega) ?_
                    intro v' X4 hown hgr
                    obtain ⟨qHQ, rHQ, rfl⟩ := owns_slice hown
                    rw [Nat.zero_add] at hown
                    simp only [Nat.zero_add]
                    have hb : Below X3.heap.size X3 X4 := ⟨hgr.os, hgr.tape, hgr.output, hgr.size, fun k hk => hgr.block k hk (by simp)⟩
                    have hT4 := hT3.below hb
                    have HB4 := Lib.hid (below_then HB3.out HB3.out.size hb)
                    have HC4 := Lib.hid (True.intro)
                    have HP4 := Lib.hid (owns_below HP3.out hb)
                    have HD4 := Lib.hid (True.intro)
                    have HQ4 := Lib.hid (show X4.ownsRow w1.heap.size 3 1 (.slice qHQ s.os.length rHQ) s.os.length (s.os.map (Value.int .i64)) from (by simpa using hown.mono HB3.out.size))
                    have HAP := Lib.hid (show ∀ g h : Nat, (Value.slice qHP s.ns.length rHP).ownBlock = some g → (Value.slice qHQ s.os.length rHQ).ownBlock = some h → g ≠ h from fun g h e1 e2 e => by have h1 := (HP3.out.lt g e1).2; have h2 := (hown.lt h (by simpa using e2)).1; omega)
                    clear hb hown hgr
                    refine hK.out _ _ ⟨hT4, fun _ _ => trivial⟩ ?_
                    clear hK K
                    (try simp only [Act.put, List.getElem_toArray, List.getElem_cons_succ, List.getElem_cons_zero, List.setIfInBounds_toArray, List.set_cons_succ, List.set_cons_zero])
                    refine wpTwo_takeT (i := 11) (v := .agg #[.int .i64 (s.now + 1), .slice qHP s.ns.length rHP, .slice qHQ s.os.length rHQ]) rfl (by kernel_rfl) (by kernel_rfl) (by kernel_rfl) (fun _ _ _ h => h) ⟨by rfl, ?_⟩ hT4 ?_
                    · rintro w hTw
                      go_simp
                    (try simp only [Act.put, List.getElem_toArray, List.getElem_cons_succ, List.getElem_cons_zero, List.setIfInBounds_toArray, List.set_cons_succ, List.set_cons_zero])
                    refine wpTwo_ready (rs := [12]) (by kernel_rfl) (by simp) ?_
                    refine (AllTwo.cons rfl (fun K hK => ?_) AllTwo.nil)
                    · go_simp
                      obtain ⟨z7, hy⟩ : ∃ q, q = X4.heap.size := ⟨_, rfl⟩
                      obtain ⟨X5, hX⟩ : ∃ X : World, X = X4.alloc (.cells #[.int .i64 0, .slice none 0 0, .slice none 0 0] 45) := ⟨_, rfl⟩
                      rw [← hX, ← hy]
                      have hb : Below X4.heap.size X4 X5 := by rw [hX]; exact below1 _ _
                      have hz7 : w1.heap.size ≤ z7 := by rw [hy]; exact HB4.out.size
                      have hT5 := hT4.below hb
                      have HB5 := Lib.hid (below_then HB4.out HB4.out.size hb)
                      have HC5 := Lib.hid (True.intro)
                      have HP5 := Lib.hid (owns_below HP4.out hb)
                      have HD5 := Lib.hid (True.intro)
                      have HQ5 := Lib.hid (owns_below HQ4.out hb)
                      have HA5 := Lib.hid (show RBox X5 z7 0 (.slice none 0 0) (.slice none 0 0) by rw [hX, hy]; exact RBox.new _ _ _ _)
                      clear hb hX hy
                      refine hK.out _ _ ⟨hT5, fun _ _ => trivial⟩ ?_
                      clear hK K
                      (try simp only [Act.put, List.getElem_toArray, List.getElem_cons_succ, List.getElem_cons_zero, List.setIfInBounds_toArray, List.set_cons_succ, List.set_cons_zero])
                      refine wpTwo_ready (rs := [13]) (by kernel_rfl) (by simp) ?_
                      refine (AllTwo.cons rfl (fun K hK => ?_) AllTwo.nil)
                      obtain ⟨d0, d1, d2⟩ := HA5.out.cells
                      have v0 := HA5.out.marks 0
                      have v1 := HA5.out.marks 1
                      have v2 := HA5.out.marks 2
                      obtain ⟨Xa, hXa⟩ : ∃ X : World, X = ((X5.setCell ⟨z7, 0, none⟩ (.int .i64 (s.now + 1))).setCell ⟨z7, 1, none⟩ (.slice qHP s.ns.length rHP)).setCell ⟨z7, 2, none⟩ (.slice qHQ s.os.length rHQ) := ⟨_, rfl⟩
                      have hka : Keeps (fun q => q = z7) X5 Xa := by rw [hXa]; exact RBox.putK X5 z7 _ _ _
                      have hrw : ∀ {v : Value} {n : Nat} {xs : List Int}, X5.ownsRow w1.heap.size 3 1 v n (xs.map (Value.int .i64)) → Xa.ownsRow w1.heap.size 3 1 v n (xs.map (Value.int .i64)) := fun {v n xs} h => hka.row h (fun g hg e => by
                        obtain ⟨cc, f, h1⟩ := Lib.ownsRow_kind h g hg
                        have h2 : X5.heap[z7]? = _ := HA5.out
                        rw [e, h2] at h1
                        simp at h1)
                      have HF := Lib.hid (show OutAt w1 z7 (s.now + 1) s.ns s.os qHP rHP qHQ rHQ Xa from ⟨by rw [hXa]; exact HA5.out.put _ _ _, hrw HP5.out, hrw HQ5.out, HAP.out, HB5.out.trans (hka.below HB5.out.size (fun q hq => by omega)), hz7⟩)
                      have hTa : RBox Xa z0 s.now (.slice (some ⟨b1, o1, none⟩) s.ns.length c) (.slice (some ⟨b2, o2, none⟩) s.os.length d) := HZL.out _ HF.out.below
                      go_simp
                      rw [← hXa]
                      refine hK.out _ _ ⟨hTa, fun _ _ => trivial⟩ ?_
                      clear hK K d0 d1 d2 v0 v1 v2 hXa hka hrw
                      (try simp only [Act.put, List.getElem_toArray, List.getElem_cons_succ, List.getElem_cons_zero, List.setIfInBounds_toArray, List.set_cons_succ, List.set_cons_zero])
                      refine wpTwo_end (by kernel_rfl) ?_ _
                      go_wp2
                      go_meet
                      exact ⟨z7, qHP, rHP, qHQ, rHQ, rfl, HF⟩
                  · go_simp
                    obtain ⟨z7, hy⟩ : ∃ q, q = X3.heap.size := ⟨_, rfl⟩
                    obtain ⟨X4, hX⟩ : ∃ X : World, X = X3.alloc (.cells #[.int .i64 0, .slice none 0 0, .slice none 0 0] 45) := ⟨_, rfl⟩
                    rw [← hX, ← hy]
                    have hb : Below X3.heap.size X3 X4 := by rw [hX]; exact below1 _ _
                    have hz7 : w1.heap.size ≤ z7 := by rw [hy]; exact HB3.out.size
                    have hT4 := hT3.below hb
                    have HB4 := Lib.hid (below_then HB3.out HB3.out.size hb)
                    have HC4 := Lib.hid (True.intro)
                    have HP4 := Lib.hid (owns_below HP3.out hb)
                    have HD4 := Lib.hid (True.intro)
                    have HA4 := Lib.hid (show RBox X4 z7 0 (.slice none 0 0) (.slice none 0 0) by rw [hX, hy]; exact RBox.new _ _ _ _)
                    clear hb hX hy
                    refine hK.out _ _ ⟨hT4, fun _ _ => trivial⟩ ?_
                    clear hK K
                    (try simp only [Act.put, List.getElem_toArray, List.getElem_cons_succ, List.getElem_cons_zero, List.setIfInBounds_toArray, List.set_cons_succ, List.set_cons_zero])
                    refine wpTwo_ready (rs := [10]) (by kernel_rfl) (by simp) ?_
                    refine (AllTwo.cons rfl (fun K hK => ?_) AllTwo.nil)
                    · refine step_append_grows (by rfl) _ _ 25 (by rfl) 3 i0 (.int .i64 0) 1 8 Try.underlying25 HI0.out.1 HI0.out.2.1 HI0.out.2.2.1 HI0.out.2.2.2 rfl (by decide) (some ⟨gHD, 0, none⟩) 0 0 [] (by rfl) (fun e => by cases e) rfl (fun b _ j u hj => by cases hj) ⟨b2, o2, none⟩ s.os.length d (s.os.map (Value.int .i64)) (by rfl) (by rw [List.length_map]; omega) (HSV.out X4 HB4.out) (fun u hu => by obtain ⟨x, _, rfl⟩ := List.mem_map.1 hu; rfl) (by omega) (by unfold maxLen; omega) (by omega) ?_
                      intro v' X5 hown hgr
                      obtain ⟨qHQ, rHQ, rfl⟩ := owns_slice hown
                      rw [Nat.zero_add] at hown
                      simp only [Nat.zero_add]
                      have hb : Below X4.heap.size X4 X5 := ⟨hgr.os, hgr.tape, hgr.output, hgr.size, fun k hk => hgr.block k hk (by simp)⟩
                      have hT5 := hT4.below hb
                      have HB5 := Lib.hid (below_then HB4.out HB4.out.size hb)
                      have HC5 := Lib.hid (True.intro)
                      have HP5 := Lib.hid (owns_below HP4.out hb)
                      have HD5 := Lib.hid (True.intro)
                      have HA5 := Lib.hid (HA4.out.below hb)
                      have HQ5 := Lib.hid (show X5.ownsRow w1.heap.size 3 1 (.slice qHQ s.os.length rHQ) s.os.length (s.os.map (Value.int .i64)) from (by simpa using hown.mono HB4.out.size))
                      have HAP := Lib.hid (show ∀ g h : Nat, (Value.slice qHP s.ns.length rHP).ownBlock = some g → (Value.slice qHQ s.os.length rHQ).ownBlock = some h → g ≠ h from fun g h e1 e2 e => by have h1 := (HP4.out.lt g e1).2; have h2 := (hown.lt h (by simpa using e2)).1; omega)
                      clear hb hown hgr
                      refine hK.out _ _ ⟨hT5, fun _ _ => trivial⟩ ?_
                      clear hK K
                      (try simp only [Act.put, List.getElem_toArray, List.getElem_cons_succ, List.getElem_cons_zero, List.setIfInBounds_toArray, List.set_cons_succ, List.set_cons_zero])
                      refine wpTwo_takeT (i := 11) (v := .agg #[.int .i64 (s.now + 1), .slice qHP s.ns.length rHP, .slice qHQ s.os.length rHQ]) rfl (by kernel_rfl) (by kernel_rfl) (by kernel_rfl) (fun _ _ _ h => h) ⟨by rfl, ?_⟩ hT5 ?_
                      · rintro w hTw
                        go_simp
                      (try simp only [Act.put, List.getElem_toArray, List.getElem_cons_succ, List.getElem_cons_zero, List.setIfInBounds_toArray, List.set_cons_succ, List.set_cons_zero])
                      refine wpTwo_ready (rs := [13]) (by kernel_rfl) (by simp) ?_
                      refine (AllTwo.cons rfl (fun K hK => ?_) AllTwo.nil)
                      obtain ⟨d0, d1, d2⟩ := HA5.out.cells
                      have v0 := HA5.out.marks 0
                      have v1 := HA5.out.marks 1
                      have v2 := HA5.out.marks 2
                      obtain ⟨Xa, hXa⟩ : ∃ X : World, X = ((X5.setCell ⟨z7, 0, none⟩ (.int .i64 (s.now + 1))).setCell ⟨z7, 1, none⟩ (.slice qHP s.ns.length rHP)).setCell ⟨z7, 2, none⟩ (.slice qHQ s.os.length rHQ) := ⟨_, rfl⟩
                      have hka : Keeps (fun q => q = z7) X5 Xa := by rw [hXa]; exact RBox.putK X5 z7 _ _ _
                      have hrw : ∀ {v : Value} {n : Nat} {xs : List Int}, X5.ownsRow w1.heap.size 3 1 v n (xs.map (Value.int .i64)) → Xa.ownsRow w1.heap.size 3 1 v n (xs.map (Value.int .i64)) := fun {v n xs} h => hka.row h (fun g hg e => by
                        obtain ⟨cc, f, h1⟩ := Lib.ownsRow_kind h g hg
                        have h2 : X5.heap[z7]? = _ := HA5.out
                        rw [e, h2] at h1
                        simp at h1)
                      have HF := Lib.hid (show OutAt w1 z7 (s.now + 1) s.ns s.os qHP rHP qHQ rHQ Xa from ⟨by rw [hXa]; exact HA5.out.put _ _ _, hrw HP5.out, hrw HQ5.out, HAP.out, HB5.out.trans (hka.below HB5.out.size (fun q hq => by omega)), hz7⟩)
                      have hTa : RBox Xa z0 s.now (.slice (some ⟨b1, o1, none⟩) s.ns.length c) (.slice (some ⟨b2, o2, none⟩) s.os.length d) := HZL.out _ HF.out.below
                      go_simp
                      rw [← hXa]
                      refine hK.out _ _ ⟨hTa, fun _ _ => trivial⟩ ?_
                      clear hK K d0 d1 d2 v0 v1 v2 hXa hka hrw
                      (try simp only [Act.put, List.getElem_toArray, List.getElem_cons_succ, List.getElem_cons_zero, List.setIfInBounds_toArray, List.set_cons_succ, List.set_cons_zero])
                      refine wpTwo_end (by kernel_rfl) ?_ _
                      go_wp2
                      go_meet
                      exact ⟨z7, qHP, rHP, qHQ, rHQ, rfl, HF⟩
                · go_simp
                  obtain ⟨z7, hy⟩ : ∃ q, q = X2.heap.size := ⟨_, rfl⟩
                  obtain ⟨X3, hX⟩ : ∃ X : World, X = X2.alloc (.cells #[.int .i64 0, .slice none 0 0, .slice none 0 0] 45) := ⟨_, rfl⟩
                  rw [← hX, ← hy]
                  have hb : Below X2.heap.size X2 X3 := by rw [hX]; exact below1 _ _
                  have hz7 : w1.heap.size ≤ z7 := by rw [hy]; exact HB2.out.size
                  have hT3 := hT2.below hb
                  have HB3 := Lib.hid (below_then HB2.out HB2.out.size hb)
                  have HC3 := Lib.hid (True.intro)
                  have HP3 := Lib.hid (owns_below HP2.out hb)
                  have HA3 := Lib.hid (show RBox X3 z7 0 (.slice none 0 0) (.slice none 0 0) by rw [hX, hy]; exact RBox.new _ _ _ _)
                  clear hb hX hy
                  refine hK.out _ _ ⟨hT3, fun _ _ => trivial⟩ ?_
                  clear hK K
                  (try simp only [Act.put, List.getElem_toArray, List.getElem_cons_succ, List.getElem_cons_zero, List.setIfInBounds_toArray, List.set_cons_succ, List.set_cons_zero])
                  refine wpTwo_ready (rs := [7]) (by kernel_rfl) (by simp) ?_
                  refine (AllTwo.cons rfl (fun K hK => ?_) AllTwo.nil)
                  · go_simp
                    obtain ⟨gHD, hy⟩ : ∃ q, q = X3.heap.size := ⟨_, rfl⟩
                    obtain ⟨X4, hX⟩ : ∃ X : World, X = X3.alloc (.cells #[] 3) := ⟨_, rfl⟩
                    rw [← hX, ← hy]
                    have hb : Below X3.heap.size X3 X4 := by rw [hX]; exact below1 _ _
                    have hT4 := hT3.below hb
                    have HB4 := Lib.hid (below_then HB3.out HB3.out.size hb)
                    have HC4 := Lib.hid (True.intro)
                    have HP4 := Lib.hid (owns_below HP3.out hb)
                    have HA4 := Lib.hid (HA3.out.below hb)
                    have HD4 := Lib.hid True.intro
                    clear hb hX hy
                    refine hK.out _ _ ⟨hT4, fun _ _ => trivial⟩ ?_
                    clear hK K
                    (try simp only [Act.put, List.getElem_toArray, List.getElem_cons_succ, List.getElem_cons_zero, List.setIfInBounds_toArray, List.set_cons_succ, List.set_cons_zero])
                    refine wpTwo_ready (rs := [10]) (by kernel_rfl) (by simp) ?_
                    refine (AllTwo.cons rfl (fun K hK => ?_) AllTwo.nil)
                    · refine step_append_grows (by rfl) _ _ 25 (by rfl) 3 i0 (.int .i64 0) 1 8 Try.underlying25 HI0.out.1 HI0.out.2.1 HI0.out.2.2.1 HI0.out.2.2.2 rfl (by decide) (some ⟨gHD, 0, none⟩) 0 0 [] (by rfl) (fun e => by cases e) rfl (fun b _ j u hj => by cases hj) ⟨b2, o2, none⟩ s.os.length d (s.os.map (Value.int .i64)) (by rfl) (by rw [List.length_map]; omega) (HSV.out X4 HB4.out) (fun u hu => by obtain ⟨x, _, rfl⟩ := List.mem_map.1 hu; rfl) (by omega) (by unfold maxLen; omega) (by omega) ?_
                      intro v' X5 hown hgr
                      obtain ⟨qHQ, rHQ, rfl⟩ := owns_slice hown
                      rw [Nat.zero_add] at hown
                      simp only [Nat.zero_add]
                      have hb : Below X4.heap.size X4 X5 := ⟨hgr.os, hgr.tape, hgr.output, hgr.size, fun k hk => hgr.block k hk (by simp)⟩
                      have hT5 := hT4.below hb
                      have HB5 := Lib.hid (below_then HB4.out HB4.out.size hb)
                      have HC5 := Lib.hid (True.intro)
                      have HP5 := Lib.hid (owns_below HP4.out hb)
                      have HA5 := Lib.hid (HA4.out.below hb)
                      have HD5 := Lib.hid (True.intro)
                      have HQ5 := Lib.hid (show X5.ownsRow w1.heap.size 3 1 (.slice qHQ s.os.length rHQ) s.os.length (s.os.map (Value.int .i64)) from (by simpa using hown.mono HB4.out.size))
                      have HAP := Lib.hid (show ∀ g h : Nat, (Value.slice qHP s.ns.length rHP).ownBlock = some g → (Value.slice qHQ s.os.length rHQ).ownBlock = some h → g ≠ h from fun g h e1 e2 e => by have h1 := (HP4.out.lt g e1).2; have h2 := (hown.lt h (by simpa using e2)).1; omega)
                      clear hb hown hgr
                      refine hK.out _ _ ⟨hT5, fun _ _ => trivial⟩ ?_
                      clear hK K
                      (try simp only [Act.put, List.getElem_toArray, List.getElem_cons_succ, List.getElem_cons_zero, List.setIfInBounds_toArray, List.set_cons_succ, List.set_cons_zero])
                      refine wpTwo_takeT (i := 11) (v := .agg #[.int .i64 (s.now + 1), .slice qHP s.ns.length rHP, .slice qHQ s.os.length rHQ]) rfl (by kernel_rfl) (by kernel_rfl) (by kernel_rfl) (fun _ _ _ h => h) ⟨by rfl, ?_⟩ hT5 ?_
                      · rintro w hTw
                        go_simp
                      (try simp only [Act.put, List.getElem_toArray, List.getElem_cons_succ, List.getElem_cons_zero, List.setIfInBounds_toArray, List.set_cons_succ, List.set_cons_zero])
                      refine wpTwo_ready (rs := [13]) (by kernel_rfl) (by simp) ?_
                      refine (AllTwo.cons rfl (fun K hK => ?_) AllTwo.nil)
                      obtain ⟨d0, d1, d2⟩ := HA5.out.cells
                      have v0 := HA5.out.marks 0
                      have v1 := HA5.out.marks 1
                      have v2 := HA5.out.marks 2
                      obtain ⟨Xa, hXa⟩ : ∃ X : World, X = ((X5.setCell ⟨z7, 0, none⟩ (.int .i64 (s.now + 1))).setCell ⟨z7, 1, none⟩ (.slice qHP s.ns.length rHP)).setCell ⟨z7, 2, none⟩ (.slice qHQ s.os.length rHQ) := ⟨_, rfl⟩
                      have hka : Keeps (fun q => q = z7) X5 Xa := by rw [hXa]; exact RBox.putK X5 z7 _ _ _
                      have hrw : ∀ {v : Value} {n : Nat} {xs : List Int}, X5.ownsRow w1.heap.size 3 1 v n (xs.map (Value.int .i64)) → Xa.ownsRow w1.heap.size 3 1 v n (xs.map (Value.int .i64)) := fun {v n xs} h => hka.row h (fun g hg e => by
                        obtain ⟨cc, f, h1⟩ := Lib.ownsRow_kind h g hg
                        have h2 : X5.heap[z7]? = _ := HA5.out
                        rw [e, h2] at h1
                        simp at h1)
                      have HF := Lib.hid (show OutAt w1 z7 (s.now + 1) s.ns s.os qHP rHP qHQ rHQ Xa from ⟨by rw [hXa]; exact HA5.out.put _ _ _, hrw HP5.out, hrw HQ5.out, HAP.out, HB5.out.trans (hka.below HB5.out.size (fun q hq => by omega)), hz7⟩)
                      have hTa : RBox Xa z0 s.now (.slice (some ⟨b1, o1, none⟩) s.ns.length c) (.slice (some ⟨b2, o2, none⟩) s.os.length d) := HZL.out _ HF.out.below
                      go_simp
                      rw [← hXa]
                      refine hK.out _ _ ⟨hTa, fun _ _ => trivial⟩ ?_
                      clear hK K d0 d1 d2 v0 v1 v2 hXa hka hrw
                      (try simp only [Act.put, List.getElem_toArray, List.getElem_cons_succ, List.getElem_cons_zero, List.setIfInBounds_toArray, List.set_cons_succ, List.set_cons_zero])
                      refine wpTwo_end (by kernel_rfl) ?_ _
                      go_wp2
                      go_meet
                      exact ⟨z7, qHP, rHP, qHQ, rHQ, rfl, HF⟩
              · go_simp
                obtain ⟨gHD, hy⟩ : ∃ q, q = X1.heap.size := ⟨_, rfl⟩
                obtain ⟨X2, hX⟩ : ∃ X : World, X = X1.alloc (.cells #[] 3) := ⟨_, rfl⟩
                rw [← hX, ← hy]
                have hb : Below X1.heap.size X1 X2 := by rw [hX]; exact below1 _ _
                have hT2 := hT1.below hb
                have HB2 := Lib.hid (below_then HB1.out HB1.out.size hb)
                have HC2 := Lib.hid (True.intro)
                have HD2 := Lib.hid True.intro
                clear hb hX hy
                refine hK.out _ _ ⟨hT2, fun _ _ => trivial⟩ ?_
                clear hK K
                (try simp only [Act.put, List.getElem_toArray, List.getElem_cons_succ, List.getElem_cons_zero, List.setIfInBounds_toArray, List.set_cons_succ, List.set_cons_zero])
                refine wpTwo_ready (rs := [6, 12]) (by kernel_rfl) (by simp) ?_
                refine (AllTwo.cons rfl (fun K hK => ?_) (AllTwo.cons rfl (fun K hK => ?_) AllTwo.nil))
                · refine step_append_grows (by rfl) _ _ 25 (by rfl) 3 i0 (.int .i64 0) 1 8 Try.underlying25 HI0.out.1 HI0.out.2.1 HI0.out.2.2.1 HI0.out.2.2.2 rfl (by decide) (some ⟨gHC, 0, none⟩) 0 0 [] (by rfl) (fun e => by cases e) rfl (fun b _ j u hj => by cases hj) ⟨b1, o1, none⟩ s.ns.length c (s.ns.map (Value.int .i64)) (by rfl) (by rw [List.length_map]; omega) (HSU.out X2 HB2.out) (fun u hu => by obtain ⟨x, _, rfl⟩ := List.mem_map.1 hu; rfl) (by omega) (by unfold maxLen; omega) (by omega) ?_
                  intro v' X3 hown hgr
                  obtain ⟨qHP, rHP, rfl⟩ := owns_slice hown
                  rw [Nat.zero_add] at hown
                  simp only [Nat.zero_add]
                  have hb : Below X2.heap.size X2 X3 := ⟨hgr.os, hgr.tape, hgr.output, hgr.size, fun k hk => hgr.block k hk (by simp)⟩
                  have hT3 := hT2.below hb
                  have HB3 := Lib.hid (below_then HB2.out HB2.out.size hb)
                  have HC3 := Lib.hid (True.intro)
                  have HD3 := Lib.hid (True.intro)
                  have HP3 := Lib.hid (show X3.ownsRow w1.heap.size 3 1 (.slice qHP s.ns.length rHP) s.ns.length (s.ns.map (Value.int .i64)) from (by simpa using hown.mono HB2.out.size))
                  clear hb hown hgr
                  refine hK.out _ _ ⟨hT3, fun _ _ => trivial⟩ ?_
                  clear hK K
                  (try simp only [Act.put, List.getElem_toArray, List.getElem_cons_succ, List.getElem_cons_zero, List.setIfInBounds_toArray, List.set_cons_succ, List.set_cons_zero])
                  refine wpTwo_ready (rs := [10, 12]) (by kernel_rfl) (by simp) ?_
                  refine (AllTwo.cons rfl (fun K hK => ?_) (AllTwo.cons rfl (fun K hK => ?_) AllTwo.nil))
                  · refine step_append_grows (by rfl) _ _ 25 (by rfl) 3 i0 (.int .i64 0) 1 8 Try.underlying25 HI0.out.1 HI0.out.2.1 HI0.out.2.2.1 HI0.out.2.2.2 rfl (by decide) (some ⟨gHD, 0, none⟩) 0 0 [] (by rfl) (fun e => by cases e) rfl (fun b _ j u hj => by cases hj) ⟨b2, o2, none⟩ s.os.length d (s.os.map (Value.int .i64)) (by rfl) (by rw [List.length_map]; omega) (HSV.out X3 HB3.out) (fun u hu => by obtain ⟨x, _, rfl⟩ := List.mem_map.1 hu; rfl) (by omega) (by unfold maxLen; omega) (by omega) ?_
                    intro v' X4 hown hgr
                    obtain ⟨qHQ, rHQ, rfl⟩ := owns_slice hown
                    rw [Nat.zero_add] at hown
                    simp only [Nat.zero_add]
                    have hb : Below X3.heap.size X3 X4 := ⟨hgr.os, hgr.tape, hgr.output, hgr.size, fun k hk => hgr.block k hk (by simp)⟩
                    have hT4 := hT3.below hb
                    have HB4 := Lib.hid (below_then HB3.out HB3.out.size hb)
                    have HC4 := Lib.hid (True.intro)
                    have HD4 := Lib.hid (True.intro)
                    have HP4 := Lib.hid (owns_below HP3.out hb)
                    have HQ4 := Lib.hid (show X4.ownsRow w1.heap.size 3 1 (.slice qHQ s.os.length rHQ) s.os.length (s.os.map (Value.int .i64)) from (by simpa using hown.mono HB3.out.size))
                    have HAP := Lib.hid (show ∀ g h : Nat, (Value.slice qHP s.ns.length rHP).ownBlock = some g → (Value.slice qHQ s.os.length rHQ).ownBlock = some h → g ≠ h from fun g h e1 e2 e => by have h1 := (HP3.out.lt g e1).2; have h2 := (hown.lt h (by simpa using e2)).1; omega)
                    clear hb hown hgr
                    refine hK.out _ _ ⟨hT4, fun _ _ => trivial⟩ ?_
                    clear hK K
                    (try simp only [Act.put, List.getElem_toArray, List.getElem_cons_succ, List.getElem_cons_zero, List.setIfInBounds_toArray, List.set_cons_succ, List.set_cons_zero])
                    refine wpTwo_takeT (i := 11) (v := .agg #[.int .i64 (s.now + 1), .slice qHP s.ns.length rHP, .slice qHQ s.os.length rHQ]) rfl (by kernel_rfl) (by kernel_rfl) (by kernel_rfl) (fun _ _ _ h => h) ⟨by rfl, ?_⟩ hT4 ?_
                    · rintro w hTw
                      go_simp
                    (try simp only [Act.put, List.getElem_toArray, List.getElem_cons_succ, List.getElem_cons_zero, List.setIfInBounds_toArray, List.set_cons_succ, List.set_cons_zero])
                    refine wpTwo_ready (rs := [12]) (by kernel_rfl) (by simp) ?_
                    refine (AllTwo.cons rfl (fun K hK => ?_) AllTwo.nil)
                    · go_simp
                      obtain ⟨z7, hy⟩ : ∃ q, q = X4.heap.size := ⟨_, rfl⟩
                      obtain ⟨X5, hX⟩ : ∃ X : World, X = X4.alloc (.cells #[.int .i64 0, .slice none 0 0, .slice none 0 0] 45) := ⟨_, rfl⟩
                      rw [← hX, ← hy]
                      have hb : Below X4.heap.size X4 X5 := by rw [hX]; exact below1 _ _
                      have hz7 : w1.heap.size ≤ z7 := by rw [hy]; exact HB4.out.size
                      have hT5 := hT4.below hb
                      have HB5 := Lib.hid (below_then HB4.out HB4.out.size hb)
                      have HC5 := Lib.hid (True.intro)
                      have HD5 := Lib.hid (True.intro)
                      have HP5 := Lib.hid (owns_below HP4.out hb)
                      have HQ5 := Lib.hid (owns_below HQ4.out hb)
                      have HA5 := Lib.hid (show RBox X5 z7 0 (.slice none 0 0) (.slice none 0 0) by rw [hX, hy]; exact RBox.new _ _ _ _)
                      clear hb hX hy
                      refine hK.out _ _ ⟨hT5, fun _ _ => trivial⟩ ?_
                      clear hK K
                      (try simp only [Act.put, List.getElem_toArray, List.getElem_cons_succ, List.getElem_cons_zero, List.setIfInBounds_toArray, List.set_cons_succ, List.set_cons_zero])
                      refine wpTwo_ready (rs := [13]) (by kernel_rfl) (by simp) ?_
                      refine (AllTwo.cons rfl (fun K hK => ?_) AllTwo.nil)
                      obtain ⟨d0, d1, d2⟩ := HA5.out.cells
                      have v0 := HA5.out.marks 0
                      have v1 := HA5.out.marks 1
                      have v2 := HA5.out.marks 2
                      obtain ⟨Xa, hXa⟩ : ∃ X : World, X = ((X5.setCell ⟨z7, 0, none⟩ (.int .i64 (s.now + 1))).setCell ⟨z7, 1, none⟩ (.slice qHP s.ns.length rHP)).setCell ⟨z7, 2, none⟩ (.slice qHQ s.os.length rHQ) := ⟨_, rfl⟩
                      have hka : Keeps (fun q => q = z7) X5 Xa := by rw [hXa]; exact RBox.putK X5 z7 _ _ _
                      have hrw : ∀ {v : Value} {n : Nat} {xs : List Int}, X5.ownsRow w1.heap.size 3 1 v n (xs.map (Value.int .i64)) → Xa.ownsRow w1.heap.size 3 1 v n (xs.map (Value.int .i64)) := fun {v n xs} h => hka.row h (fun g hg e => by
                        obtain ⟨cc, f, h1⟩ := Lib.ownsRow_kind h g hg
                        have h2 : X5.heap[z7]? = _ := HA5.out
                        rw [e, h2] at h1
                        simp at h1)
                      have HF := Lib.hid (show OutAt w1 z7 (s.now + 1) s.ns s.os qHP rHP qHQ rHQ Xa from ⟨by rw [hXa]; exact HA5.out.put _ _ _, hrw HP5.out, hrw HQ5.out, HAP.out, HB5.out.trans (hka.below HB5.out.size (fun q hq => by omega)), hz7⟩)
                      have hTa : RBox Xa z0 s.now (.slice (some ⟨b1, o1, none⟩) s.ns.length c) (.slice (some ⟨b2, o2, none⟩) s.os.length d) := HZL.out _ HF.out.below
                      go_simp
                      rw [← hXa]
                      refine hK.out _ _ ⟨hTa, fun _ _ => trivial⟩ ?_
                      clear hK K d0 d1 d2 v0 v1 v2 hXa hka hrw
                      (try simp only [Act.put, List.getElem_toArray, List.getElem_cons_succ, List.getElem_cons_zero, List.setIfInBounds_toArray, List.set_cons_succ, List.set_cons_zero])
                      refine wpTwo_end (by kernel_rfl) ?_ _
                      go_wp2
                      go_meet
                      exact ⟨z7, qHP, rHP, qHQ, rHQ, rfl, HF⟩
                  · go_simp
                    obtain ⟨z7, hy⟩ : ∃ q, q = X3.heap.size := ⟨_, rfl⟩
                    obtain ⟨X4, hX⟩ : ∃ X : World, X = X3.alloc (.cells #[.int .i64 0, .slice none 0 0, .slice none 0 0] 45) := ⟨_, rfl⟩
                    rw [← hX, ← hy]
                    have hb : Below X3.heap.size X3 X4 := by rw [hX]; exact below1 _ _
                    have hz7 : w1.heap.size ≤ z7 := by rw [hy]; exact HB3.out.size
                    have hT4 := hT3.below hb
                    have HB4 := Lib.hid (below_then HB3.out HB3.out.size hb)
                    have HC4 := Lib.hid (True.intro)
                    have HD4 := Lib.hid (True.intro)
                    have HP4 := Lib.hid (owns_below HP3.out hb)
                    have HA4 := Lib.hid (show RBox X4 z7 0 (.slice none 0 0) (.slice none 0 0) by rw [hX, hy]; exact RBox.new _ _ _ _)
                    clear hb hX hy
                    refine hK.out _ _ ⟨hT4, fun _ _ => trivial⟩ ?_
                    clear hK K
                    (try simp only [Act.put, List.getElem_toArray, List.getElem_cons_succ, List.getElem_cons_zero, List.setIfInBounds_toArray, List.set_cons_succ, List.set_cons_zero])
                    refine wpTwo_ready (rs := [10]) (by kernel_rfl) (by simp) ?_
                    refine (AllTwo.cons rfl (fun K hK => ?_) AllTwo.nil)
                    · refine step_append_grows (by rfl) _ _ 25 (by rfl) 3 i0 (.int .i64 0) 1 8 Try.underlying25 HI0.out.1 HI0.out.2.1 HI0.out.2.2.1 HI0.out.2.2.2 rfl (by decide) (some ⟨gHD, 0, none⟩) 0 0 [] (by rfl) (fun e => by cases e) rfl (fun b _ j u hj => by cases hj) ⟨b2, o2, none⟩ s.os.length d (s.os.map (Value.int .i64)) (by rfl) (by rw [List.length_map]; omega) (HSV.out X4 HB4.out) (fun u hu => by obtain ⟨x, _, rfl⟩ := List.mem_map.1 hu; rfl) (by omega) (by unfold maxLen; omega) (by omega) ?_
                      intro v' X5 hown hgr
                      obtain ⟨qHQ, rHQ, rfl⟩ := owns_slice hown
                      rw [Nat.zero_add] at hown
                      simp only [Nat.zero_add]
                      have hb : Below X4.heap.size X4 X5 := ⟨hgr.os, hgr.tape, hgr.output, hgr.size, fun k hk => hgr.block k hk (by simp)⟩
                      have hT5 := hT4.below hb
                      have HB5 := Lib.hid (below_then HB4.out HB4.out.size hb)
                      have HC5 := Lib.hid (True.intro)
                      have HD5 := Lib.hid (True.intro)
                      have HP5 := Lib.hid (owns_below HP4.out hb)
                      have HA5 := Lib.hid (HA4.out.below hb)
                      have HQ5 := Lib.hid (show X5.ownsRow w1.heap.size 3 1 (.slice qHQ s.os.length rHQ) s.os.length (s.os.map (Value.int .i64)) from (by simpa using hown.mono HB4.out.size))
                      have HAP := Lib.hid (show ∀ g h : Nat, (Value.slice qHP s.ns.length rHP).ownBlock = some g → (Value.slice qHQ s.os.length rHQ).ownBlock = some h → g ≠ h from fun g h e1 e2 e => by have h1 := (HP4.out.lt g e1).2; have h2 := (hown.lt h (by simpa using e2)).1; omega)
                      clear hb hown hgr
                      refine hK.out _ _ ⟨hT5, fun _ _ => trivial⟩ ?_
                      clear hK K
                      (try simp only [Act.put, List.getElem_toArray, List.getElem_cons_succ, List.getElem_cons_zero, List.setIfInBounds_toArray, List.set_cons_succ, List.set_cons_zero])
                      refine wpTwo_takeT (i := 11) (v := .agg #[.int .i64 (s.now + 1), .slice qHP s.ns.length rHP, .slice qHQ s.os.length rHQ]) rfl (by kernel_rfl) (by kernel_rfl) (by kernel_rfl) (fun _ _ _ h => h) ⟨by rfl, ?_⟩ hT5 ?_
                      · rintro w hTw
                        go_simp
                      (try simp only [Act.put, List.getElem_toArray, List.getElem_cons_succ, List.getElem_cons_zero, List.setIfInBounds_toArray, List.set_cons_succ, List.set_cons_zero])
                      refine wpTwo_ready (rs := [13]) (by kernel_rfl) (by simp) ?_
                      refine (AllTwo.cons rfl (fun K hK => ?_) AllTwo.nil)
                      obtain ⟨d0, d1, d2⟩ := HA5.out.cells
                      have v0 := HA5.out.marks 0
                      have v1 := HA5.out.marks 1
                      have v2 := HA5.out.marks 2
                      obtain ⟨Xa, hXa⟩ : ∃ X : World, X = ((X5.setCell ⟨z7, 0, none⟩ (.int .i64 (s.now + 1))).setCell ⟨z7, 1, none⟩ (.slice qHP s.ns.length rHP)).setCell ⟨z7, 2, none⟩ (.slice qHQ s.os.length rHQ) := ⟨_, rfl⟩
                      have hka : Keeps (fun q => q = z7) X5 Xa := by rw [hXa]; exact RBox.putK X5 z7 _ _ _
                      have hrw : ∀ {v : Value} {n : Nat} {xs : List Int}, X5.ownsRow w1.heap.size 3 1 v n (xs.map (Value.int .i64)) → Xa.ownsRow w1.heap.size 3 1 v n (xs.map (Value.int .i64)) := fun {v n xs} h => hka.row h (fun g hg e => by
                        obtain ⟨cc, f, h1⟩ := Lib.ownsRow_kind h g hg
                        have h2 : X5.heap[z7]? = _ := HA5.out
                        rw [e, h2] at h1
                        simp at h1)
                      have HF := Lib.hid (show OutAt w1 z7 (s.now + 1) s.ns s.os qHP rHP qHQ rHQ Xa from ⟨by rw [hXa]; exact HA5.out.put _ _ _, hrw HP5.out, hrw HQ5.out, HAP.out, HB5.out.trans (hka.below HB5.out.size (fun q hq => by omega)), hz7⟩)
                      have hTa : RBox Xa z0 s.now (.slice (some ⟨b1, o1, none⟩) s.ns.length c) (.slice (some ⟨b2, o2, none⟩) s.os.length d) := HZL.out _ HF.out.below
                      go_simp
                      rw [← hXa]
                      refine hK.out _ _ ⟨hTa, fun _ _ => trivial⟩ ?_
                      clear hK K d0 d1 d2 v0 v1 v2 hXa hka hrw
                      (try simp only [Act.put, List.getElem_toArray, List.getElem_cons_succ, List.getElem_cons_zero, List.setIfInBounds_toArray, List.set_cons_succ, List.set_cons_zero])
                      refine wpTwo_end (by kernel_rfl) ?_ _
                      go_wp2
                      go_meet
                      exact ⟨z7, qHP, rHP, qHQ, rHQ, rfl, HF⟩
                · go_simp
                  obtain ⟨z7, hy⟩ : ∃ q, q = X2.heap.size := ⟨_, rfl⟩
                  obtain ⟨X3, hX⟩ : ∃ X : World, X = X2.alloc (.cells #[.int .i64 0, .slice none 0 0, .slice none 0 0] 45) := ⟨_, rfl⟩
                  rw [← hX, ← hy]
                  have hb : Below X2.heap.size X2 X3 := by rw [hX]; exact below1 _ _
                  have hz7 : w1.heap.size ≤ z7 := by rw [hy]; exact HB2.out.size
                  have hT3 := hT2.below hb
                  have HB3 := Lib.hid (below_then HB2.out HB2.out.size hb)
                  have HC3 := Lib.hid (True.intro)
                  have HD3 := Lib.hid (True.intro)
                  have HA3 := Lib.hid (show RBox X3 z7 0 (.slice none 0 0) (.slice none 0 0) by rw [hX, hy]; exact RBox.new _ _ _ _)
                  clear hb hX hy
                  refine hK.out _ _ ⟨hT3, fun _ _ => trivial⟩ ?_
                  clear hK K
                  (try simp only [Act.put, List.getElem_toArray, List.getElem_cons_succ, List.getElem_cons_zero, List.setIfInBounds_toArray, List.set_cons_succ, List.set_cons_zero])
                  refine wpTwo_ready (rs := [6]) (by kernel_rfl) (by simp) ?_
                  refine (AllTwo.cons rfl (fun K hK => ?_) AllTwo.nil)
                  · refine step_append_grows (by rfl) _ _ 25 (by rfl) 3 i0 (.int .i64 0) 1 8 Try.underlying25 HI0.out.1 HI0.out.2.1 HI0.out.2.2.1 HI0.out.2.2.2 rfl (by decide) (some ⟨gHC, 0, none⟩) 0 0 [] (by rfl) (fun e => by cases e) rfl (fun b _ j u hj => by cases hj) ⟨b1, o1, none⟩ s.ns.length c (s.ns.map (Value.int .i64)) (by rfl) (by rw [List.length_map]; omega) (HSU.out X3 HB3.out) (fun u hu => by obtain ⟨x, _, rfl⟩ := List.mem_map.1 hu; rfl) (by omega) (by unfold maxLen; omega) (by omega) ?_
                    intro v' X4 hown hgr
                    obtain ⟨qHP, rHP, rfl⟩ := owns_slice hown
                    rw [Nat.zero_add] at hown
                    simp only [Nat.zero_add]
                    have hb : Below X3.heap.size X3 X4 := ⟨hgr.os, hgr.tape, hgr.output, hgr.size, fun k hk => hgr.block k hk (by simp)⟩
                    have hT4 := hT3.below hb
                    have HB4 := Lib.hid (below_then HB3.out HB3.out.size hb)
                    have HC4 := Lib.hid (True.intro)
                    have HD4 := Lib.hid (True.intro)
                    have HA4 := Lib.hid (HA3.out.below hb)
                    have HP4 := Lib.hid (show X4.ownsRow w1.heap.size 3 1 (.slice qHP s.ns.length rHP) s.ns.length (s.ns.map (Value.int .i64)) from (by simpa using hown.mono HB3.out.size))
                    clear hb hown hgr
                    refine hK.out _ _ ⟨hT4, fun _ _ => trivial⟩ ?_
                    clear hK K
                    (try simp only [Act.put, List.getElem_toArray, List.getElem_cons_succ, List.getElem_cons_zero, List.setIfInBounds_toArray, List.set_cons_succ, List.set_cons_zero])
                    refine wpTwo_ready (rs := [10]) (by kernel_rfl) (by simp) ?_
                    refine (AllTwo.cons rfl (fun K hK => ?_) AllTwo.nil)
                    · refine step_append_grows (by rfl) _ _ 25 (by rfl) 3 i0 (.int .i64 0) 1 8 Try.underlying25 HI0.out.1 HI0.out.2.1 HI0.out.2.2.1 HI0.out.2.2.2 rfl (by decide) (some ⟨gHD, 0, none⟩) 0 0 [] (by rfl) (fun e => by cases e) rfl (fun b _ j u hj => by cases hj) ⟨b2, o2, none⟩ s.os.length d (s.os.map (Value.int .i64)) (by rfl) (by rw [List.length_map]; omega) (HSV.out X4 HB4.out) (fun u hu => by obtain ⟨x, _, rfl⟩ := List.mem_map.1 hu; rfl) (by omega) (by unfold maxLen; omega) (by omega) ?_
                      intro v' X5 hown hgr
                      obtain ⟨qHQ, rHQ, rfl⟩ := owns_slice hown
                      rw [Nat.zero_add] at hown
                      simp only [Nat.zero_add]
                      have hb : Below X4.heap.size X4 X5 := ⟨hgr.os, hgr.tape, hgr.output, hgr.size, fun k hk => hgr.block k hk (by simp)⟩
                      have hT5 := hT4.below hb
                      have HB5 := Lib.hid (below_then HB4.out HB4.out.size hb)
                      have HC5 := Lib.hid (True.intro)
                      have HD5 := Lib.hid (True.intro)
                      have HA5 := Lib.hid (HA4.out.below hb)
                      have HP5 := Lib.hid (owns_below HP4.out hb)
                      have HQ5 := Lib.hid (show X5.ownsRow w1.heap.size 3 1 (.slice qHQ s.os.length rHQ) s.os.length (s.os.map (Value.int .i64)) from (by simpa using hown.mono HB4.out.size))
                      have HAP := Lib.hid (show ∀ g h : Nat, (Value.slice qHP s.ns.length rHP).ownBlock = some g → (Value.slice qHQ s.os.length rHQ).ownBlock = some h → g ≠ h from fun g h e1 e2 e => by have h1 := (HP4.out.lt g e1).2; have h2 := (hown.lt h (by simpa using e2)).1; omega)
                      clear hb hown hgr
                      refine hK.out _ _ ⟨hT5, fun _ _ => trivial⟩ ?_
                      clear hK K
                      (try simp only [Act.put, List.getElem_toArray, List.getElem_cons_succ, List.getElem_cons_zero, List.setIfInBounds_toArray, List.set_cons_succ, List.set_cons_zero])
                      refine wpTwo_takeT (i := 11) (v := .agg #[.int .i64 (s.now + 1), .slice qHP s.ns.length rHP, .slice qHQ s.os.length rHQ]) rfl (by kernel_rfl) (by kernel_rfl) (by kernel_rfl) (fun _ _ _ h => h) ⟨by rfl, ?_⟩ hT5 ?_
                      · rintro w hTw
                        go_simp
                      (try simp only [Act.put, List.getElem_toArray, List.getElem_cons_succ, List.getElem_cons_zero, List.setIfInBounds_toArray, List.set_cons_succ, List.set_cons_zero])
                      refine wpTwo_ready (rs := [13]) (by kernel_rfl) (by simp) ?_
                      refine (AllTwo.cons rfl (fun K hK => ?_) AllTwo.nil)
                      obtain ⟨d0, d1, d2⟩ := HA5.out.cells
                      have v0 := HA5.out.marks 0
                      have v1 := HA5.out.marks 1
                      have v2 := HA5.out.marks 2
                      obtain ⟨Xa, hXa⟩ : ∃ X : World, X = ((X5.setCell ⟨z7, 0, none⟩ (.int .i64 (s.now + 1))).setCell ⟨z7, 1, none⟩ (.slice qHP s.ns.length rHP)).setCell ⟨z7, 2, none⟩ (.slice qHQ s.os.length rHQ) := ⟨_, rfl⟩
                      have hka : Keeps (fun q => q = z7) X5 Xa := by rw [hXa]; exact RBox.putK X5 z7 _ _ _
                      have hrw : ∀ {v : Value} {n : Nat} {xs : List Int}, X5.ownsRow w1.heap.size 3 1 v n (xs.map (Value.int .i64)) → Xa.ownsRow w1.heap.size 3 1 v n (xs.map (Value.int .i64)) := fun {v n xs} h => hka.row h (fun g hg e => by
                        obtain ⟨cc, f, h1⟩ := Lib.ownsRow_kind h g hg
                        have h2 : X5.heap[z7]? = _ := HA5.out
                        rw [e, h2] at h1
                        simp at h1)
                      have HF := Lib.hid (show OutAt w1 z7 (s.now + 1) s.ns s.os qHP rHP qHQ rHQ Xa from ⟨by rw [hXa]; exact HA5.out.put _ _ _, hrw HP5.out, hrw HQ5.out, HAP.out, HB5.out.trans (hka.below HB5.out.size (fun q hq => by omega)), hz7⟩)
                      have hTa : RBox Xa z0 s.now (.slice (some ⟨b1, o1, none⟩) s.ns.length c) (.slice (some ⟨b2, o2, none⟩) s.os.length d) := HZL.out _ HF.out.below
                      go_simp
                      rw [← hXa]
                      refine hK.out _ _ ⟨hTa, fun _ _ => trivial⟩ ?_
                      clear hK K d0 d1 d2 v0 v1 v2 hXa hka hrw
                      (try simp only [Act.put, List.getElem_toArray, List.getElem_cons_succ, List.getElem_cons_zero, List.setIfInBounds_toArray, List.set_cons_succ, List.set_cons_zero])
                      refine wpTwo_end (by kernel_rfl) ?_ _
                      go_wp2
                      go_meet
                      exact ⟨z7, qHP, rHP, qHQ, rHQ, rfl, HF⟩
              · go_simp
                obtain ⟨z7, hy⟩ : ∃ q, q = X1.heap.size := ⟨_, rfl⟩
                obtain ⟨X2, hX⟩ : ∃ X : World, X = X1.alloc (.cells #[.int .i64 0, .slice none 0 0, .slice none 0 0] 45) := ⟨_, rfl⟩
                rw [← hX, ← hy]
                have hb : Below X1.heap.size X1 X2 := by rw [hX]; exact below1 _ _
                have hz7 : w1.heap.size ≤ z7 := by rw [hy]; exact HB1.out.size
                have hT2 := hT1.below hb
                have HB2 := Lib.hid (below_then HB1.out HB1.out.size hb)
                have HC2 := Lib.hid (True.intro)
                have HA2 := Lib.hid (show RBox X2 z7 0 (.slice none 0 0) (.slice none 0 0) by rw [hX, hy]; exact RBox.new _ _ _ _)
                clear hb hX hy
                refine hK.out _ _ ⟨hT2, fun _ _ => trivial⟩ ?_
                clear hK K
                (try simp only [Act.put, List.getElem_toArray, List.getElem_cons_succ, List.getElem_cons_zero, List.setIfInBounds_toArray, List.set_cons_succ, List.set_cons_zero])
                refine wpTwo_ready (rs := [6, 7]) (by kernel_rfl) (by simp) ?_
                refine (AllTwo.cons rfl (fun K hK => ?_) (AllTwo.cons rfl (fun K hK => ?_) AllTwo.nil))
                · refine step_append_grows (by rfl) _ _ 25 (by rfl) 3 i0 (.int .i64 0) 1 8 Try.underlying25 HI0.out.1 HI0.out.2.1 HI0.out.2.2.1 HI0.out.2.2.2 rfl (by decide) (some ⟨gHC, 0, none⟩) 0 0 [] (by rfl) (fun e => by cases e) rfl (fun b _ j u hj => by cases hj) ⟨b1, o1, none⟩ s.ns.length c (s.ns.map (Value.int .i64)) (by rfl) (by rw [List.length_map]; omega) (HSU.out X2 HB2.out) (fun u hu => by obtain ⟨x, _, rfl⟩ := List.mem_map.1 hu; rfl) (by omega) (by unfold maxLen; omega) (by omega) ?_
                  intro v' X3 hown hgr
                  obtain ⟨qHP, rHP, rfl⟩ := owns_slice hown
                  rw [Nat.zero_add] at hown
                  simp only [Nat.zero_add]
                  have hb : Below X2.heap.size X2 X3 := ⟨hgr.os, hgr.tape, hgr.output, hgr.size, fun k hk => hgr.block k hk (by simp)⟩
                  have hT3 := hT2.below hb
                  have HB3 := Lib.hid (below_then HB2.out HB2.out.size hb)
                  have HC3 := Lib.hid (True.intro)
                  have HA3 := Lib.hid (HA2.out.below hb)
                  have HP3 := Lib.hid (show X3.ownsRow w1.heap.size 3 1 (.slice qHP s.ns.length rHP) s.ns.length (s.ns.map (Value.int .i64)) from (by simpa using hown.mono HB2.out.size))
                  clear hb hown hgr
                  refine hK.out _ _ ⟨hT3, fun _ _ => trivial⟩ ?_
                  clear hK K
                  (try simp only [Act.put, List.getElem_toArray, List.getElem_cons_succ, List.getElem_cons_zero, List.setIfInBounds_toArray, List.set_cons_succ, List.set_cons_zero])
                  refine wpTwo_ready (rs := [7]) (by kernel_rfl) (by simp) ?_
                  refine (AllTwo.cons rfl (fun K hK => ?_) AllTwo.nil)
                  · go_simp
                    obtain ⟨gHD, hy⟩ : ∃ q, q = X3.heap.size := ⟨_, rfl⟩
                    obtain ⟨X4, hX⟩ : ∃ X : World, X = X3.alloc (.cells #[] 3) := ⟨_, rfl⟩
                    rw [← hX, ← hy]
                    have hb : Below X3.heap.size X3 X4 := by rw [hX]; exact below1 _ _
                    have hT4 := hT3.below hb
                    have HB4 := Lib.hid (below_then HB3.out HB3.out.size hb)
                    have HC4 := Lib.hid (True.intro)
                    have HA4 := Lib.hid (HA3.out.below hb)
                    have HP4 := Lib.hid (owns_below HP3.out hb)
                    have HD4 := Lib.hid True.intro
                    clear hb hX hy
                    refine hK.out _ _ ⟨hT4, fun _ _ => trivial⟩ ?_
                    clear hK K
                    (try simp only [Act.put, List.getElem_toArray, List.getElem_cons_succ, List.getElem_cons_zero, List.setIfInBounds_toArray, List.set_cons_succ, List.set_cons_zero])
                    refine wpTwo_ready (rs := [10]) (by kernel_rfl) (by simp) ?_
                    refine (AllTwo.cons rfl (fun K hK => ?_) AllTwo.nil)
                    · refine step_append_grows (by rfl) _ _ 25 (by rfl) 3 i0 (.int .i64 0) 1 8 Try.underlying25 HI0.out.1 HI0.out.2.1 HI0.out.2.2.1 HI0.out.2.2.2 rfl (by decide) (some ⟨gHD, 0, none⟩) 0 0 [] (by rfl) (fun e => by cases e) rfl (fun b _ j u hj => by cases hj) ⟨b2, o2, none⟩ s.os.length d (s.os.map (Value.int .i64)) (by rfl) (by rw [List.length_map]; omega) (HSV.out X4 HB4.out) (fun u hu => by obtain ⟨x, _, rfl⟩ := List.mem_map.1 hu; rfl) (by omega) (by unfold maxLen; omega) (by omega) ?_
                      intro v' X5 hown hgr
                      obtain ⟨qHQ, rHQ, rfl⟩ := owns_slice hown
                      rw [Nat.zero_add] at hown
                      simp only [Nat.zero_add]
                      have hb : Below X4.heap.size X4 X5 := ⟨hgr.os, hgr.tape, hgr.output, hgr.size, fun k hk => hgr.block k hk (by simp)⟩
                      have hT5 := hT4.below hb
                      have HB5 := Lib.hid (below_then HB4.out HB4.out.size hb)
                      have HC5 := Lib.hid (True.intro)
                      have HA5 := Lib.hid (HA4.out.below hb)
                      have HP5 := Lib.hid (owns_below HP4.out hb)
                      have HD5 := Lib.hid (True.intro)
                      have HQ5 := Lib.hid (show X5.ownsRow w1.heap.size 3 1 (.slice qHQ s.os.length rHQ) s.os.length (s.os.map (Value.int .i64)) from (by simpa using hown.mono HB4.out.size))
                      have HAP := Lib.hid (show ∀ g h : Nat, (Value.slice qHP s.ns.length rHP).ownBlock = some g → (Value.slice qHQ s.os.length rHQ).ownBlock = some h → g ≠ h from fun g h e1 e2 e => by have h1 := (HP4.out.lt g e1).2; have h2 := (hown.lt h (by simpa using e2)).1; omega)
                      clear hb hown hgr
                      refine hK.out _ _ ⟨hT5, fun _ _ => trivial⟩ ?_
                      clear hK K
                      (try simp only [Act.put, List.getElem_toArray, List.getElem_cons_succ, List.getElem_cons_zero, List.setIfInBounds_toArray, List.set_cons_succ, List.set_cons_zero])
                      refine wpTwo_takeT (i := 11) (v := .agg #[.int .i64 (s.now + 1), .slice qHP s.ns.length rHP, .slice qHQ s.os.length rHQ]) rfl (by kernel_rfl) (by kernel_rfl) (by kernel_rfl) (fun _ _ _ h => h) ⟨by rfl, ?_⟩ hT5 ?_
                      · rintro w hTw
                        go_simp
                      (try simp only [Act.put, List.getElem_toArray, List.getElem_cons_succ, List.getElem_cons_zero, List.setIfInBounds_toArray, List.set_cons_succ, List.set_cons_zero])
                      refine wpTwo_ready (rs := [13]) (by kernel_rfl) (by simp) ?_
                      refine (AllTwo.cons rfl (fun K hK => ?_) AllTwo.nil)
                      obtain ⟨d0, d1, d2⟩ := HA5.out.cells
                      have v0 := HA5.out.marks 0
                      have v1 := HA5.out.marks 1
                      have v2 := HA5.out.marks 2
                      obtain ⟨Xa, hXa⟩ : ∃ X : World, X = ((X5.setCell ⟨z7, 0, none⟩ (.int .i64 (s.now + 1))).setCell ⟨z7, 1, none⟩ (.slice qHP s.ns.length rHP)).setCell ⟨z7, 2, none⟩ (.slice qHQ s.os.length rHQ) := ⟨_, rfl⟩
                      have hka : Keeps (fun q => q = z7) X5 Xa := by rw [hXa]; exact RBox.putK X5 z7 _ _ _
                      have hrw : ∀ {v : Value} {n : Nat} {xs : List Int}, X5.ownsRow w1.heap.size 3 1 v n (xs.map (Value.int .i64)) → Xa.ownsRow w1.heap.size 3 1 v n (xs.map (Value.int .i64)) := fun {v n xs} h => hka.row h (fun g hg e => by
                        obtain ⟨cc, f, h1⟩ := Lib.ownsRow_kind h g hg
                        have h2 : X5.heap[z7]? = _ := HA5.out
                        rw [e, h2] at h1
                        simp at h1)
                      have HF := Lib.hid (show OutAt w1 z7 (s.now + 1) s.ns s.os qHP rHP qHQ rHQ Xa from ⟨by rw [hXa]; exact HA5.out.put _ _ _, hrw HP5.out, hrw HQ5.out, HAP.out, HB5.out.trans (hka.below HB5.out.size (fun q hq => by omega)), hz7⟩)
                      have hTa : RBox Xa z0 s.now (.slice (some ⟨b1, o1, none⟩) s.ns.length c) (.slice (some ⟨b2, o2, none⟩) s.os.length d) := HZL.out _ HF.out.below
                      go_simp
                      rw [← hXa]
                      refine hK.out _ _ ⟨hTa, fun _ _ => trivial⟩ ?_
                      clear hK K d0 d1 d2 v0 v1 v2 hXa hka hrw
                      (try simp only [Act.put, List.getElem_toArray, List.getElem_cons_succ, List.getElem_cons_zero, List.setIfInBounds_toArray, List.set_cons_succ, List.set_cons_zero])
                      refine wpTwo_end (by kernel_rfl) ?_ _
                      go_wp2
                      go_meet
                      exact ⟨z7, qHP, rHP, qHQ, rHQ, rfl, HF⟩
                · go_simp
                  obtain ⟨gHD, hy⟩ : ∃ q, q = X2.heap.size := ⟨_, rfl⟩
                  obtain ⟨X3, hX⟩ : ∃ X : World, X = X2.alloc (.cells #[] 3) := ⟨_, rfl⟩
                  rw [← hX, ← hy]
                  have hb : Below X2.heap.size X2 X3 := by rw [hX]; exact below1 _ _
                  have hT3 := hT2.below hb
                  have HB3 := Lib.hid (below_then HB2.out HB2.out.size hb)
                  have HC3 := Lib.hid (True.intro)
                  have HA3 := Lib.hid (HA2.out.below hb)
                  have HD3 := Lib.hid True.intro
                  clear hb hX hy
                  refine hK.out _ _ ⟨hT3, fun _ _ => trivial⟩ ?_
                  clear hK K
                  (try simp only [Act.put, List.getElem_toArray, List.getElem_cons_succ, List.getElem_cons_zero, List.setIfInBounds_toArray, List.set_cons_succ, List.set_cons_zero])
                  refine wpTwo_ready (rs := [6]) (by kernel_rfl) (by simp) ?_
                  refine (AllTwo.cons rfl (fun K hK => ?_) AllTwo.nil)
                  · refine step_append_grows (by rfl) _ _ 25 (by rfl) 3 i0 (.int .i64 0) 1 8 Try.underlying25 HI0.out.1 HI0.out.2.1 HI0.out.2.2.1 HI0.out.2.2.2 rfl (by decide) (some ⟨gHC, 0, none⟩) 0 0 [] (by rfl) (fun e => by cases e) rfl (fun b _ j u hj => by cases hj) ⟨b1, o1, none⟩ s.ns.length c (s.ns.map (Value.int .i64)) (by rfl) (by rw [List.length_map]; omega) (HSU.out X3 HB3.out) (fun u hu => by obtain ⟨x, _, rfl⟩ := List.mem_map.1 hu; rfl) (by omega) (by unfold maxLen; omega) (by omega) ?_
                    intro v' X4 hown hgr
                    obtain ⟨qHP, rHP, rfl⟩ := owns_slice hown
                    rw [Nat.zero_add] at hown
                    simp only [Nat.zero_add]
                    have hb : Below X3.heap.size X3 X4 := ⟨hgr.os, hgr.tape, hgr.output, hgr.size, fun k hk => hgr.block k hk (by simp)⟩
                    have hT4 := hT3.below hb
                    have HB4 := Lib.hid (below_then HB3.out HB3.out.size hb)
                    have HC4 := Lib.hid (True.intro)
                    have HA4 := Lib.hid (HA3.out.below hb)
                    have HD4 := Lib.hid (True.intro)
                    have HP4 := Lib.hid (show X4.ownsRow w1.heap.size 3 1 (.slice qHP s.ns.length rHP) s.ns.length (s.ns.map (Value.int .i64)) from (by simpa using hown.mono HB3.out.size))
                    clear hb hown hgr
                    refine hK.out _ _ ⟨hT4, fun _ _ => trivial⟩ ?_
                    clear hK K
                    (try simp only [Act.put, List.getElem_toArray, List.getElem_cons_succ, List.getElem_cons_zero, List.setIfInBounds_toArray, List.set_cons_succ, List.set_cons_zero])
                    refine wpTwo_ready (rs := [10]) (by kernel_rfl) (by simp) ?_
                    refine (AllTwo.cons rfl (fun K hK => ?_) AllTwo.nil)
                    · refine step_append_grows (by rfl) _ _ 25 (by rfl) 3 i0 (.int .i64 0) 1 8 Try.underlying25 HI0.out.1 HI0.out.2.1 HI0.out.2.2.1 HI0.out.2.2.2 rfl (by decide) (some ⟨gHD, 0, none⟩) 0 0 [] (by rfl) (fun e => by cases e) rfl (fun b _ j u hj => by cases hj) ⟨b2, o2, none⟩ s.os.length d (s.os.map (Value.int .i64)) (by rfl) (by rw [List.length_map]; omega) (HSV.out X4 HB4.out) (fun u hu => by obtain ⟨x, _, rfl⟩ := List.mem_map.1 hu; rfl) (by omega) (by unfold maxLen; omega) (by omega) ?_
                      intro v' X5 hown hgr
                      obtain ⟨qHQ, rHQ, rfl⟩ := owns_slice hown
                      rw [Nat.zero_add] at hown
                      simp only [Nat.zero_add]
                      have hb : Below X4.heap.size X4 X5 := ⟨hgr.os, hgr.tape, hgr.output, hgr.size, fun k hk => hgr.block k hk (by simp)⟩
                      have hT5 := hT4.below hb
                      have HB5 := Lib.hid (below_then HB4.out HB4.out.size hb)
                      have HC5 := Lib.hid (True.intro)
                      have HA5 := Lib.hid (HA4.out.below hb)
                      have HD5 := Lib.hid (True.intro)
                      have HP5 := Lib.hid (owns_below HP4.out hb)
                      have HQ5 := Lib.hid (show X5.ownsRow w1.heap.size 3 1 (.slice qHQ s.os.length rHQ) s.os.length (s.os.map (Value.int .i64)) from (by simpa using hown.mono HB4.out.size))
                      have HAP := Lib.hid (show ∀ g h : Nat, (Value.slice qHP s.ns.length rHP).ownBlock = some g → (Value.slice qHQ s.os.length rHQ).ownBlock = some h → g ≠ h from fun g h e1 e2 e => by have h1 := (HP4.out.lt g e1).2; have h2 := (hown.lt h (by simpa using e2)).1; omega)
                      clear hb hown hgr
                      refine hK.out _ _ ⟨hT5, fun _ _ => trivial⟩ ?_
                      clear hK K
                      (try simp only [Act.put, List.getElem_toArray, List.getElem_cons_succ, List.getElem_cons_zero, List.setIfInBounds_toArray, List.set_cons_succ, List.set_cons_zero])
                      refine wpTwo_takeT (i := 11) (v := .agg #[.int .i64 (s.now + 1), .slice qHP s.ns.length rHP, .slice qHQ s.os.length rHQ]) rfl (by kernel_rfl) (by kernel_rfl) (by kernel_rfl) (fun _ _ _ h => h) ⟨by rfl, ?_⟩ hT5 ?_
                      · rintro w hTw
                        go_simp
                      (try simp only [Act.put, List.getElem_toArray, List.getElem_cons_succ, List.getElem_cons_zero, List.setIfInBounds_toArray, List.set_cons_succ, List.set_cons_zero])
                      refine wpTwo_ready (rs := [13]) (by kernel_rfl) (by simp) ?_
                      refine (AllTwo.cons rfl (fun K hK => ?_) AllTwo.nil)
                      obtain ⟨d0, d1, d2⟩ := HA5.out.cells
                      have v0 := HA5.out.marks 0
                      have v1 := HA5.out.marks 1
                      have v2 := HA5.out.marks 2
                      obtain ⟨Xa, hXa⟩ : ∃ X : World, X = ((X5.setCell ⟨z7, 0, none⟩ (.int .i64 (s.now + 1))).setCell ⟨z7, 1, none⟩ (.slice qHP s.ns.length rHP)).setCell ⟨z7, 2, none⟩ (.slice qHQ s.os.length rHQ) := ⟨_, rfl⟩
                      have hka : Keeps (fun q => q = z7) X5 Xa := by rw [hXa]; exact RBox.putK X5 z7 _ _ _
                      have hrw : ∀ {v : Value} {n : Nat} {xs : List Int}, X5.ownsRow w1.heap.size 3 1 v n (xs.map (Value.int .i64)) → Xa.ownsRow w1.heap.size 3 1 v n (xs.map (Value.int .i64)) := fun {v n xs} h => hka.row h (fun g hg e => by
                        obtain ⟨cc, f, h1⟩ := Lib.ownsRow_kind h g hg
                        have h2 : X5.heap[z7]? = _ := HA5.out
                        rw [e, h2] at h1
                        simp at h1)
                      have HF := Lib.hid (show OutAt w1 z7 (s.now + 1) s.ns s.os qHP rHP qHQ rHQ Xa from ⟨by rw [hXa]; exact HA5.out.put _ _ _, hrw HP5.out, hrw HQ5.out, HAP.out, HB5.out.trans (hka.below HB5.out.size (fun q hq => by omega)), hz7⟩)
                      have hTa : RBox Xa z0 s.now (.slice (some ⟨b1, o1, none⟩) s.ns.length c) (.slice (some ⟨b2, o2, none⟩) s.os.length d) := HZL.out _ HF.out.below
                      go_simp
                      rw [← hXa]
                      refine hK.out _ _ ⟨hTa, fun _ _ => trivial⟩ ?_
                      clear hK K d0 d1 d2 v0 v1 v2 hXa hka hrw
                      (try simp only [Act.put, List.getElem_toArray, List.getElem_cons_succ, List.getElem_cons_zero, List.setIfInBounds_toArray, List.set_cons_succ, List.set_cons_zero])
                      refine wpTwo_end (by kernel_rfl) ?_ _
                      go_wp2
                      go_meet
                      exact ⟨z7, qHP, rHP, qHQ, rHQ, rfl, HF⟩
            · go_simp
              obtain ⟨gHD, hy⟩ : ∃ q, q = X0.heap.size := ⟨_, rfl⟩
              obtain ⟨X1, hX⟩ : ∃ X : World, X = X0.alloc (.cells #[] 3) := ⟨_, rfl⟩
              rw [← hX, ← hy]
              have hb : Below X0.heap.size X0 X1 := by rw [hX]; exact below1 _ _
              have hT1 := hT0.below hb
              have HB1 := Lib.hid (below_then HB0.out HB0.out.size hb)
              have HD1 := Lib.hid True.intro
              clear hb hX hy
              refine hK.out _ _ ⟨hT1, fun _ _ => trivial⟩ ?_
              clear hK K
              (try simp only [Act.put, List.getElem_toArray, List.getElem_cons_succ, List.getElem_cons_zero, List.setIfInBounds_toArray, List.set_cons_succ, List.set_cons_zero])
              refine wpTwo_ready (rs := [3, 12]) (by kernel_rfl) (by simp) ?_
              refine (AllTwo.cons rfl (fun K hK => ?_) (AllTwo.cons rfl (fun K hK => ?_) AllTwo.nil))
              · go_simp
                obtain ⟨gHC, hy⟩ : ∃ q, q = X1.heap.size := ⟨_, rfl⟩
                obtain ⟨X2, hX⟩ : ∃ X : World, X = X1.alloc (.cells #[] 3) := ⟨_, rfl⟩
                rw [← hX, ← hy]
                have hb : Below X1.heap.size X1 X2 := by rw [hX]; exact below1 _ _
                have hT2 := hT1.below hb
                have HB2 := Lib.hid (below_then HB1.out HB1.out.size hb)
                have HD2 := Lib.hid (True.intro)
                have HC2 := Lib.hid True.intro
                clear hb hX hy
                refine hK.out _ _ ⟨hT2, fun _ _ => trivial⟩ ?_
                clear hK K
                (try simp only [Act.put, List.getElem_toArray, List.getElem_cons_succ, List.getElem_cons_zero, List.setIfInBounds_toArray, List.set_cons_succ, List.set_cons_zero])
                refine wpTwo_ready (rs := [6, 12]) (by kernel_rfl) (by simp) ?_
                refine (AllTwo.cons rfl (fun K hK => ?_) (AllTwo.cons rfl (fun K hK => ?_) AllTwo.nil))
                · refine step_append_grows (by rfl) _ _ 25 (by rfl) 3 i0 (.int .i64 0) 1 8 Try.underlying25 HI0.out.1 HI0.out.2.1 HI0.out.2.2.1 HI0.out.2.2.2 rfl (by decide) (some ⟨gHC, 0, none⟩) 0 0 [] (by rfl) (fun e => by cases e) rfl (fun b _ j u hj => by cases hj) ⟨b1, o1, none⟩ s.ns.length c (s.ns.map (Value.int .i64)) (by rfl) (by rw [List.length_map]; omega) (HSU.out X2 HB2.out) (fun u hu => by obtain ⟨x, _, rfl⟩ := List.mem_map.1 hu; rfl) (by omega) (by unfold maxLen; omega) (by omega) ?_
                  intro v' X3 hown hgr
                  obtain ⟨qHP, rHP, rfl⟩ := owns_slice hown
                  rw [Nat.zero_add] at hown
                  simp only [Nat.zero_add]
                  have hb : Below X2.heap.size X2 X3 := ⟨hgr.os, hgr.tape, hgr.output, hgr.size, fun k hk => hgr.block k hk (by simp)⟩
                  have hT3 := hT2.below hb
                  have HB3 := Lib.hid (below_then HB2.out HB2.out.size hb)
                  have HD3 := Lib.hid (True.intro)
                  have HC3 := Lib.hid (True.intro)
                  have HP3 := Lib.hid (show X3.ownsRow w1.heap.size 3 1 (.slice qHP s.ns.length rHP) s.ns.length (s.ns.map (Value.int .i64)) from (by simpa using hown.mono HB2.out.size))
                  clear hb hown hgr
                  refine hK.out _ _ ⟨hT3, fun _ _ => trivial⟩ ?_
                  clear hK K
                  (try simp only [Act.put, List.getElem_toArray, List.getElem_cons_succ, List.getElem_cons_zero, List.setIfInBounds_toArray, List.set_cons_succ, List.set_cons_zero])
                  refine wpTwo_ready (rs := [10, 12]) (by kernel_rfl) (by simp) ?_
                  refine (AllTwo.cons rfl (fun K hK => ?_) (AllTwo.cons rfl (fun K hK => ?_) AllTwo.nil))
                  · refine step_append_grows (by rfl) _ _ 25 (by rfl) 3 i0 (.int .i64 0) 1 8 Try.underlying25 HI0.out.1 HI0.out.2.1 HI0.out.2.2.1 HI0.out.2.2.2 rfl (by decide) (some ⟨gHD, 0, none⟩) 0 0 [] (by rfl) (fun e => by cases e) rfl (fun b _ j u hj => by cases hj) ⟨b2, o2, none⟩ s.os.length d (s.os.map (Value.int .i64)) (by rfl) (by rw [List.length_map]; omega) (HSV.out X3 HB3.out) (fun u hu => by obtain ⟨x, _, rfl⟩ := List.mem_map.1 hu; rfl) (by omega) (by unfold maxLen; omega) (by omega) ?_
                    intro v' X4 hown hgr
                    obtain ⟨qHQ, rHQ, rfl⟩ := owns_slice hown
                    rw [Nat.zero_add] at hown
                    simp only [Nat.zero_add]
                    have hb : Below X3.heap.size X3 X4 := ⟨hgr.os, hgr.tape, hgr.output, hgr.size, fun k hk => hgr.block k hk (by simp)⟩
                    have hT4 := hT3.below hb
                    have HB4 := Lib.hid (below_then HB3.out HB3.out.size hb)
                    have HD4 := Lib.hid (True.intro)
                    have HC4 := Lib.hid (True.intro)
                    have HP4 := Lib.hid (owns_below HP3.out hb)
                    have HQ4 := Lib.hid (show X4.ownsRow w1.heap.size 3 1 (.slice qHQ s.os.length rHQ) s.os.length (s.os.map (Value.int .i64)) from (by simpa using hown.mono HB3.out.size))
                    have HAP := Lib.hid (show ∀ g h : Nat, (Value.slice qHP s.ns.length rHP).ownBlock = some g → (Value.slice qHQ s.os.length rHQ).ownBlock = some h → g ≠ h from fun g h e1 e2 e => by have h1 := (HP3.out.lt g e1).2; have h2 := (hown.lt h (by simpa using e2)).1; omega)
                    clear hb hown hgr
                    refine hK.out _ _ ⟨hT4, fun _ _ => trivial⟩ ?_
                    clear hK K
                    (try simp only [Act.put, List.getElem_toArray, List.getElem_cons_succ, List.getElem_cons_zero, List.setIfInBounds_toArray, List.set_cons_succ, List.set_cons_zero])
                    refine wpTwo_takeT (i := 11) (v := .agg #[.int .i64 (s.now + 1), .slice qHP s.ns.length rHP, .slice qHQ s.os.length rHQ]) rfl (by kernel_rfl) (by kernel_rfl) (by kernel_rfl) (fun _ _ _ h => h) ⟨by rfl, ?_⟩ hT4 ?_
                    · rintro w hTw
                      go_simp
                    (try simp only [Act.put, List.getElem_toArray, List.getElem_cons_succ, List.getElem_cons_zero, List.setIfInBounds_toArray, List.set_cons_succ, List.set_cons_zero])
                    refine wpTwo_ready (rs := [12]) (by kernel_rfl) (by simp) ?_
                    refine (AllTwo.cons rfl (fun K hK => ?_) AllTwo.nil)
                    · go_simp
                      obtain ⟨z7, hy⟩ : ∃ q, q = X4.heap.size := ⟨_, rfl⟩
                      obtain ⟨X5, hX⟩ : ∃ X : World, X = X4.alloc (.cells #[.int .i64 0, .slice none 0 0, .slice none 0 0] 45) := ⟨_, rfl⟩
                      rw [← hX, ← hy]
                      have hb : Below X4.heap.size X4 X5 := by rw [hX]; exact below1 _ _
                      have hz7 : w1.heap.size ≤ z7 := by rw [hy]; exact HB4.out.size
                      have hT5 := hT4.below hb
                      have HB5 := Lib.hid (below_then HB4.out HB4.out.size hb)
                      have HD5 := Lib.hid (True.intro)
                      have HC5 := Lib.hid (True.intro)
                      have HP5 := Lib.hid (owns_below HP4.out hb)
                      have HQ5 := Lib.hid (owns_below HQ4.out hb)
                      have HA5 := Lib.hid (show RBox X5 z7 0 (.slice none 0 0) (.slice none 0 0) by rw [hX, hy]; exact RBox.new _ _ _ _)
                      clear hb hX hy
                      refine hK.out _ _ ⟨hT5, fun _ _ => trivial⟩ ?_
                      clear hK K
                      (try simp only [Act.put, List.getElem_toArray, List.getElem_cons_succ, List.getElem_cons_zero, List.setIfInBounds_toArray, List.set_cons_succ, List.set_cons_zero])
                      refine wpTwo_ready (rs := [13]) (by kernel_rfl) (by simp) ?_
                      refine (AllTwo.cons rfl (fun K hK => ?_) AllTwo.nil)
                      obtain ⟨d0, d1, d2⟩ := HA5.out.cells
                      have v0 := HA5.out.marks 0
                      have v1 := HA5.out.marks 1
                      have v2 := HA5.out.marks 2
                      obtain ⟨Xa, hXa⟩ : ∃ X : World, X = ((X5.setCell ⟨z7, 0, none⟩ (.int .i64 (s.now + 1))).setCell ⟨z7, 1, none⟩ (.slice qHP s.ns.length rHP)).setCell ⟨z7, 2, none⟩ (.slice qHQ s.os.length rHQ) := ⟨_, rfl⟩
                      have hka : Keeps (fun q => q = z7) X5 Xa := by rw [hXa]; exact RBox.putK X5 z7 _ _ _
                      have hrw : ∀ {v : Value} {n : Nat} {xs : List Int}, X5.ownsRow w1.heap.size 3 1 v n (xs.map (Value.int .i64)) → Xa.ownsRow w1.heap.size 3 1 v n (xs.map (Value.int .i64)) := fun {v n xs} h => hka.row h (fun g hg e => by
                        obtain ⟨cc, f, h1⟩ := Lib.ownsRow_kind h g hg
                        have h2 : X5.heap[z7]? = _ := HA5.out
                        rw [e, h2] at h1
                        simp at h1)
                      have HF := Lib.hid (show OutAt w1 z7 (s.now + 1) s.ns s.os qHP rHP qHQ rHQ Xa from ⟨by rw [hXa]; exact HA5.out.put _ _ _, hrw HP5.out, hrw HQ5.out, HAP.out, HB5.out.trans (hka.below HB5.out.size (fun q hq => by omega)), hz7⟩)
                      have hTa : RBox Xa z0 s.now (.slice (some ⟨b1, o1, none⟩) s.ns.length c) (.slice (some ⟨b2, o2, none⟩) s.os.length d) := HZL.out _ HF.out.below
                      go_simp
                      rw [← hXa]
                      refine hK.out _ _ ⟨hTa, fun _ _ => trivial⟩ ?_
                      clear hK K d0 d1 d2 v0 v1 v2 hXa hka hrw
                      (try simp only [Act.put, List.getElem_toArray, List.getElem_cons_succ, List.getElem_cons_zero, List.setIfInBounds_toArray, List.set_cons_succ, List.set_cons_zero])
                      refine wpTwo_end (by kernel_rfl) ?_ _
                      go_wp2
                      go_meet
                      exact ⟨z7, qHP, rHP, qHQ, rHQ, rfl, HF⟩
                  · go_simp
                    obtain ⟨z7, hy⟩ : ∃ q, q = X3.heap.size := ⟨_, rfl⟩
                    obtain ⟨X4, hX⟩ : ∃ X : World, X = X3.alloc (.cells #[.int .i64 0, .slice none 0 0, .slice none 0 0] 45) := ⟨_, rfl⟩
                    rw [← hX, ← hy]
                    have hb : Below X3.heap.size X3 X4 := by rw [hX]; exact below1 _ _
                    have hz7 : w1.heap.size ≤ z7 := by rw [hy]; exact HB3.out.size
                    have hT4 := hT3.below hb
                    have HB4 := Lib.hid (below_then HB3.out HB3.out.size hb)
                    have HD4 := Lib.hid (True.intro)
                    have HC4 := Lib.hid (True.intro)
                    have HP4 := Lib.hid (owns_below HP3.out hb)
                    have HA4 := Lib.hid (show RBox X4 z7 0 (.slice none 0 0) (.slice none 0 0) by rw [hX, hy]; exact RBox.new _ _ _ _)
                    clear hb hX hy
                    refine hK.out _ _ ⟨hT4, fun _ _ => trivial⟩ ?_
                    clear hK K
                    (try simp only [Act.put, List.getElem_toArray, List.getElem_cons_succ, List.getElem_cons_zero, List.setIfInBounds_toArray, List.set_cons_succ, List.set_cons_zero])
                    refine wpTwo_ready (rs := [10]) (by kernel_rfl) (by simp) ?_
                    refine (AllTwo.cons rfl (fun K hK => ?_) AllTwo.nil)
                    · refine step_append_grows (by rfl) _ _ 25 (by rfl) 3 i0 (.int .i64 0) 1 8 Try.underlying25 HI0.out.1 HI0.out.2.1 HI0.out.2.2.1 HI0.out.2.2.2 rfl (by decide) (some ⟨gHD, 0, none⟩) 0 0 [] (by rfl) (fun e => by cases e) rfl (fun b _ j u hj => by cases hj) ⟨b2, o2, none⟩ s.os.length d (s.os.map (Value.int .i64)) (by rfl) (by rw [List.length_map]; omega) (HSV.out X4 HB4.out) (fun u hu => by obtain ⟨x, _, rfl⟩ := List.mem_map.1 hu; rfl) (by omega) (by unfold maxLen; omega) (by omega) ?_
                      intro v' X5 hown hgr
                      obtain ⟨qHQ, rHQ, rfl⟩ := owns_slice hown
                      rw [Nat.zero_add] at hown
                      simp only [Nat.zero_add]
                      have hb : Below X4.heap.size X4 X5 := ⟨hgr.os, hgr.tape, hgr.output, hgr.size, fun k hk => hgr.block k hk (by simp)⟩
                      have hT5 := hT4.below hb
                      have HB5 := Lib.hid (below_then HB4.out HB4.out.size hb)
                      have HD5 := Lib.hid (True.intro)
                      have HC5 := Lib.hid (True.intro)
                      have HP5 := Lib.hid (owns_below HP4.out hb)
                      have HA5 := Lib.hid (HA4.out.below hb)
                      have HQ5 := Lib.hid (show X5.ownsRow w1.heap.size 3 1 (.slice qHQ s.os.length rHQ) s.os.length (s.os.map (Value.int .i64)) from (by simpa using hown.mono HB4.out.size))
                      have HAP := Lib.hid (show ∀ g h : Nat, (Value.slice qHP s.ns.length rHP).ownBlock = some g → (Value.slice qHQ s.os.length rHQ).ownBlock = some h → g ≠ h from fun g h e1 e2 e => by have h1 := (HP4.out.lt g e1).2; have h2 := (hown.lt h (by simpa using e2)).1; omega)
                      clear hb hown hgr
                      refine hK.out _ _ ⟨hT5, fun _ _ => trivial⟩ ?_
                      clear hK K
                      (try simp only [Act.put, List.getElem_toArray, List.getElem_cons_succ, List.getElem_cons_zero, List.setIfInBounds_toArray, List.set_cons_succ, List.set_cons_zero])
                      refine wpTwo_takeT (i := 11) (v := .agg #[.int .i64 (s.now + 1), .slice qHP s.ns.length rHP, .slice qHQ s.os.length rHQ]) rfl (by kernel_rfl) (by kernel_rfl) (by kernel_rfl) (fun _ _ _ h => h) ⟨by rfl, ?_⟩ hT5 ?_
                      · rintro w hTw
                        go_simp
                      (try simp only [Act.put, List.getElem_toArray, List.getElem_cons_succ, List.getElem_cons_zero, List.setIfInBounds_toArray, List.set_cons_succ, List.set_cons_zero])
                      refine wpTwo_ready (rs := [13]) (by kernel_rfl) (by simp) ?_
                      refine (AllTwo.cons rfl (fun K hK => ?_) AllTwo.nil)
                      obtain ⟨d0, d1, d2⟩ := HA5.out.cells
                      have v0 := HA5.out.marks 0
                      have v1 := HA5.out.marks 1
                      have v2 := HA5.out.marks 2
                      obtain ⟨Xa, hXa⟩ : ∃ X : World, X = ((X5.setCell ⟨z7, 0, none⟩ (.int .i64 (s.now + 1))).setCell ⟨z7, 1, none⟩ (.slice qHP s.ns.length rHP)).setCell ⟨z7, 2, none⟩ (.slice qHQ s.os.length rHQ) := ⟨_, rfl⟩
                      have hka : Keeps (fun q => q = z7) X5 Xa := by rw [hXa]; exact RBox.putK X5 z7 _ _ _
                      have hrw : ∀ {v : Value} {n : Nat} {xs : List Int}, X5.ownsRow w1.heap.size 3 1 v n (xs.map (Value.int .i64)) → Xa.ownsRow w1.heap.size 3 1 v n (xs.map (Value.int .i64)) := fun {v n xs} h => hka.row h (fun g hg e => by
                        obtain ⟨cc, f, h1⟩ := Lib.ownsRow_kind h g hg
                        have h2 : X5.heap[z7]? = _ := HA5.out
                        rw [e, h2] at h1
                        simp at h1)
                      have HF := Lib.hid (show OutAt w1 z7 (s.now + 1) s.ns s.os qHP rHP qHQ rHQ Xa from ⟨by rw [hXa]; exact HA5.out.put _ _ _, hrw HP5.out, hrw HQ5.out, HAP.out, HB5.out.trans (hka.below HB5.out.size (fun q hq => by omega)), hz7⟩)
                      have hTa : RBox Xa z0 s.now (.slice (some ⟨b1, o1, none⟩) s.ns.length c) (.slice (some ⟨b2, o2, none⟩) s.os.length d) := HZL.out _ HF.out.below
                      go_simp
                      rw [← hXa]
                      refine hK.out _ _ ⟨hTa, fun _ _ => trivial⟩ ?_
                      clear hK K d0 d1 d2 v0 v1 v2 hXa hka hrw
                      (try simp only [Act.put, List.getElem_toArray, List.getElem_cons_succ, List.getElem_cons_zero, List.setIfInBounds_toArray, List.set_cons_succ, List.set_cons_zero])
                      refine wpTwo_end (by kernel_rfl) ?_ _
                      go_wp2
                      go_meet
                      exact ⟨z7, qHP, rHP, qHQ, rHQ, rfl, HF⟩
                · go_simp
                  obtain ⟨z7, hy⟩ : ∃ q, q = X2.heap.size := ⟨_, rfl⟩
                  obtain ⟨X3, hX⟩ : ∃ X : World, X = X2.alloc (.cells #[.int .i64 0, .slice none 0 0, .slice none 0 0] 45) := ⟨_, rfl⟩
                  rw [← hX, ← hy]
                  have hb : Below X2.heap.size X2 X3 := by rw [hX]; exact below1 _ _
                  have hz7 : w1.heap.size ≤ z7 := by rw [hy]; exact HB2.out.size
                  have hT3 := hT2.below hb
                  have HB3 := Lib.hid (below_then HB2.out HB2.out.size hb)
                  have HD3 := Lib.hid (True.intro)
                  have HC3 := Lib.hid (True.intro)
                  have HA3 := Lib.hid (show RBox X3 z7 0 (.slice none 0 0) (.slice none 0 0) by rw [hX, hy]; exact RBox.new _ _ _ _)
                  clear hb hX hy
                  refine hK.out _ _ ⟨hT3, fun _ _ => trivial⟩ ?_
                  clear hK K
                  (try simp only [Act.put, List.getElem_toArray, List.getElem_cons_succ, List.getElem_cons_zero, List.setIfInBounds_toArray, List.set_cons_succ, List.set_cons_zero])
                  refine wpTwo_ready (rs := [6]) (by kernel_rfl) (by simp) ?_
                  refine (AllTwo.cons rfl (fun K hK => ?_) AllTwo.nil)
                  · refine step_append_grows (by rfl) _ _ 25 (by rfl) 3 i0 (.int .i64 0) 1 8 Try.underlying25 HI0.out.1 HI0.out.2.1 HI0.out.2.2.1 HI0.out.2.2.2 rfl (by decide) (some ⟨gHC, 0, none⟩) 0 0 [] (by rfl) (fun e => by cases e) rfl (fun b _ j u hj => by cases hj) ⟨b1, o1, none⟩ s.ns.length c (s.ns.map (Value.int .i64)) (by rfl) (by rw [List.length_map]; omega) (HSU.out X3 HB3.out) (fun u hu => by obtain ⟨x, _, rfl⟩ := List.mem_map.1 hu; rfl) (by omega) (by unfold maxLen; omega) (by omega) ?_
                    intro v' X4 hown hgr
                    obtain ⟨qHP, rHP, rfl⟩ := owns_slice hown
                    rw [Nat.zero_add] at hown
                    simp only [Nat.zero_add]
                    have hb : Below X3.heap.size X3 X4 := ⟨hgr.os, hgr.tape, hgr.output, hgr.size, fun k hk => hgr.block k hk (by simp)⟩
                    have hT4 := hT3.below hb
                    have HB4 := Lib.hid (below_then HB3.out HB3.out.size hb)
                    have HD4 := Lib.hid (True.intro)
                    have HC4 := Lib.hid (True.intro)
                    have HA4 := Lib.hid (HA3.out.below hb)
                    have HP4 := Lib.hid (show X4.ownsRow w1.heap.size 3 1 (.slice qHP s.ns.length rHP) s.ns.length (s.ns.map (Value.int .i64)) from (by simpa using hown.mono HB3.out.size))
                    clear hb hown hgr
                    refine hK.out _ _ ⟨hT4, fun _ _ => trivial⟩ ?_
                    clear hK K
                    (try simp only [Act.put, List.getElem_toArray, List.getElem_cons_succ, List.getElem_cons_zero, List.setIfInBounds_toArray, List.set_cons_succ, List.set_cons_zero])
                    refine wpTwo_ready (rs := [10]) (by kernel_rfl) (by simp) ?_
                    refine (AllTwo.cons rfl (fun K hK => ?_) AllTwo.nil)
                    · refine step_append_grows (by rfl) _ _ 25 (by rfl) 3 i0 (.int .i64 0) 1 8 Try.underlying25 HI0.out.1 HI0.out.2.1 HI0.out.2.2.1 HI0.out.2.2.2 rfl (by decide) (some ⟨gHD, 0, none⟩) 0 0 [] (by rfl) (fun e => by cases e) rfl (fun b _ j u hj => by cases hj) ⟨b2, o2, none⟩ s.os.length d (s.os.map (Value.int .i64)) (by rfl) (by rw [List.length_map]; omega) (HSV.out X4 HB4.out) (fun u hu => by obtain ⟨x, _, rfl⟩ := List.mem_map.1 hu; rfl) (by omega) (by unfold maxLen; omega) (by omega) ?_
                      intro v' X5 hown hgr
                      obtain ⟨qHQ, rHQ, rfl⟩ := owns_slice hown
                      rw [Nat.zero_add] at hown
                      simp only [Nat.zero_add]
                      have hb : Below X4.heap.size X4 X5 := ⟨hgr.os, hgr.tape, hgr.output, hgr.size, fun k hk => hgr.block k hk (by simp)⟩
                      have hT5 := hT4.below hb
                      have HB5 := Lib.hid (below_then HB4.out HB4.out.size hb)
                      have HD5 := Lib.hid (True.intro)
                      have HC5 := Lib.hid (True.intro)
                      have HA5 := Lib.hid (HA4.out.below hb)
                      have HP5 := Lib.hid (owns_below HP4.out hb)
                      have HQ5 := Lib.hid (show X5.ownsRow w1.heap.size 3 1 (.slice qHQ s.os.length rHQ) s.os.length (s.os.map (Value.int .i64)) from (by simpa using hown.mono HB4.out.size))
                      have HAP := Lib.hid (show ∀ g h : Nat, (Value.slice qHP s.ns.length rHP).ownBlock = some g → (Value.slice qHQ s.os.length rHQ).ownBlock = some h → g ≠ h from fun g h e1 e2 e => by have h1 := (HP4.out.lt g e1).2; have h2 := (hown.lt h (by simpa using e2)).1; omega)
                      clear hb hown hgr
                      refine hK.out _ _ ⟨hT5, fun _ _ => trivial⟩ ?_
                      clear hK K
                      (try simp only [Act.put, List.getElem_toArray, List.getElem_cons_succ, List.getElem_cons_zero, List.setIfInBounds_toArray, List.set_cons_succ, List.set_cons_zero])
                      refine wpTwo_takeT (i := 11) (v := .agg #[.int .i64 (s.now + 1), .slice qHP s.ns.length rHP, .slice qHQ s.os.length rHQ]) rfl (by kernel_rfl) (by kernel_rfl) (by kernel_rfl) (fun _ _ _ h => h) ⟨by rfl, ?_⟩ hT5 ?_
                      · rintro w hTw
                        go_simp
                      (try simp only [Act.put, List.getElem_toArray, List.getElem_cons_succ, List.getElem_cons_zero, List.setIfInBounds_toArray, List.set_cons_succ, List.set_cons_zero])
                      refine wpTwo_ready (rs := [13]) (by kernel_rfl) (by simp) ?_
                      refine (AllTwo.cons rfl (fun K hK => ?_) AllTwo.nil)
                      obtain ⟨d0, d1, d2⟩ := HA5.out.cells
                      have v0 := HA5.out.marks 0
                      have v1 := HA5.out.marks 1
                      have v2 := HA5.out.marks 2
                      obtain ⟨Xa, hXa⟩ : ∃ X : World, X = ((X5.setCell ⟨z7, 0, none⟩ (.int .i64 (s.now + 1))).setCell ⟨z7, 1, none⟩ (.slice qHP s.ns.length rHP)).setCell ⟨z7, 2, none⟩ (.slice qHQ s.os.length rHQ) := ⟨_, rfl⟩
                      have hka : Keeps (fun q => q = z7) X5 Xa := by rw [hXa]; exact RBox.putK X5 z7 _ _ _
                      have hrw : ∀ {v : Value} {n : Nat} {xs : List Int}, X5.ownsRow w1.heap.size 3 1 v n (xs.map (Value.int .i64)) → Xa.ownsRow w1.heap.size 3 1 v n (xs.map (Value.int .i64)) := fun {v n xs} h => hka.row h (fun g hg e => by
                        obtain ⟨cc, f, h1⟩ := Lib.ownsRow_kind h g hg
                        have h2 : X5.heap[z7]? = _ := HA5.out
                        rw [e, h2] at h1
                        simp at h1)
                      have HF := Lib.hid (show OutAt w1 z7 (s.now + 1) s.ns s.os qHP rHP qHQ rHQ Xa from ⟨by rw [hXa]; exact HA5.out.put _ _ _, hrw HP5.out, hrw HQ5.out, HAP.out, HB5.out.trans (hka.below HB5.out.size (fun q hq => by omega)), hz7⟩)
                      have hTa : RBox Xa z0 s.now (.slice (some ⟨b1, o1, none⟩) s.ns.length c) (.slice (some ⟨b2, o2, none⟩) s.os.length d) := HZL.out _ HF.out.below
                      go_simp
                      rw [← hXa]
                      refine hK.out _ _ ⟨hTa, fun _ _ => trivial⟩ ?_
                      clear hK K d0 d1 d2 v0 v1 v2 hXa hka hrw
                      (try simp only [Act.put, List.getElem_toArray, List.getElem_cons_succ, List.getElem_cons_zero, List.setIfInBounds_toArray, List.set_cons_succ, List.set_cons_zero])
                      refine wpTwo_end (by kernel_rfl) ?_ _
                      go_wp2
                      go_meet
                      exact ⟨z7, qHP, rHP, qHQ, rHQ, rfl, HF⟩
              · go_simp
                obtain ⟨z7, hy⟩ : ∃ q, q = X1.heap.size := ⟨_, rfl⟩
                obtain ⟨X2, hX⟩ : ∃ X : World, X = X1.alloc (.cells #[.int .i64 0, .slice none 0 0, .slice none 0 0] 45) := ⟨_, rfl⟩
                rw [← hX, ← hy]
                have hb : Below X1.heap.size X1 X2 := by rw [hX]; exact below1 _ _
                have hz7 : w1.heap.size ≤ z7 := by rw [hy]; exact HB1.out.size
                have hT2 := hT1.below hb
                have HB2 := Lib.hid (below_then HB1.out HB1.out.size hb)
                have HD2 := Lib.hid (True.intro)
                have HA2 := Lib.hid (show RBox X2 z7 0 (.slice none 0 0) (.slice none 0 0) by rw [hX, hy]; exact RBox.new _ _ _ _)
                clear hb hX hy
                refine hK.out _ _ ⟨hT2, fun _ _ => trivial⟩ ?_
                clear hK K
                (try simp only [Act.put, List.getElem_toArray, List.getElem_cons_succ, List.getElem_cons_zero, List.setIfInBounds_toArray, List.set_cons_succ, List.set_cons_zero])
                refine wpTwo_ready (rs := [3]) (by kernel_rfl) (by simp) ?_
                refine (AllTwo.cons rfl (fun K hK => ?_) AllTwo.nil)
                · go_simp
                  obtain ⟨gHC, hy⟩ : ∃ q, q = X2.heap.size := ⟨_, rfl⟩
                  obtain ⟨X3, hX⟩ : ∃ X : World, X = X2.alloc (.cells #[] 3) := ⟨_, rfl⟩
                  rw [← hX, ← hy]
                  have hb : Below X2.heap.size X2 X3 := by rw [hX]; exact below1 _ _
                  have hT3 := hT2.below hb
                  have HB3 := Lib.hid (below_then HB2.out HB2.out.size hb)
                  have HD3 := Lib.hid (True.intro)
                  have HA3 := Lib.hid (HA2.out.below hb)
                  have HC3 := Lib.hid True.intro
                  clear hb hX hy
                  refine hK.out _ _ ⟨hT3, fun _ _ => trivial⟩ ?_
                  clear hK K
                  (try simp only [Act.put, List.getElem_toArray, List.getElem_cons_succ, List.getElem_cons_zero, List.setIfInBounds_toArray, List.set_cons_succ, List.set_cons_zero])
                  refine wpTwo_ready (rs := [6]) (by kernel_rfl) (by simp) ?_
                  refine (AllTwo.cons rfl (fun K hK => ?_) AllTwo.nil)
                  · refine step_append_grows (by rfl) _ _ 25 (by rfl) 3 i0 (.int .i64 0) 1 8 Try.underlying25 HI0.out.1 HI0.out.2.1 HI0.out.2.2.1 HI0.out.2.2.2 rfl (by decide) (some ⟨gHC, 0, none⟩) 0 0 [] (by rfl) (fun e => by cases e) rfl (fun b _ j u hj => by cases hj) ⟨b1, o1, none⟩ s.ns.length c (s.ns.map (Value.int .i64)) (by rfl) (by rw [List.length_map]; omega) (HSU.out X3 HB3.out) (fun u hu => by obtain ⟨x, _, rfl⟩ := List.mem_map.1 hu; rfl) (by omega) (by unfold maxLen; omega) (by omega) ?_
                    intro v' X4 hown hgr
                    obtain ⟨qHP, rHP, rfl⟩ := owns_slice hown
                    rw [Nat.zero_add] at hown
                    simp only [Nat.zero_add]
                    have hb : Below X3.heap.size X3 X4 := ⟨hgr.os, hgr.tape, hgr.output, hgr.size, fun k hk => hgr.block k hk (by simp)⟩
                    have hT4 := hT3.below hb
                    have HB4 := Lib.hid (below_then HB3.out HB3.out.size hb)
                    have HD4 := Lib.hid (True.intro)
                    have HA4 := Lib.hid (HA3.out.below hb)
                    have HC4 := Lib.hid (True.intro)
                    have HP4 := Lib.hid (show X4.ownsRow w1.heap.size 3 1 (.slice qHP s.ns.length rHP) s.ns.length (s.ns.map (Value.int .i64)) from (by simpa using hown.mono HB3.out.size))
                    clear hb hown hgr
                    refine hK.out _ _ ⟨hT4, fun _ _ => trivial⟩ ?_
                    clear hK K
                    (try simp only [Act.put, List.getElem_toArray, List.getElem_cons_succ, List.getElem_cons_zero, List.setIfInBounds_toArray, List.set_cons_succ, List.set_cons_zero])
                    refine wpTwo_ready (rs := [10]) (by kernel_rfl) (by simp) ?_
                    refine (AllTwo.cons rfl (fun K hK => ?_) AllTwo.nil)
                    · refine step_append_grows (by rfl) _ _ 25 (by rfl) 3 i0 (.int .i64 0) 1 8 Try.underlying25 HI0.out.1 HI0.out.2.1 HI0.out.2.2.1 HI0.out.2.2.2 rfl (by decide) (some ⟨gHD, 0, none⟩) 0 0 [] (by rfl) (fun e => by cases e) rfl (fun b _ j u hj => by cases hj) ⟨b2, o2, none⟩ s.os.length d (s.os.map (Value.int .i64)) (by rfl) (by rw [List.length_map]; omega) (HSV.out X4 HB4.out) (fun u hu => by obtain ⟨x, _, rfl⟩ := List.mem_map.1 hu; rfl) (by omega) (by unfold maxLen; omega) (by omega) ?_
                      intro v' X5 hown hgr
                      obtain ⟨qHQ, rHQ, rfl⟩ := owns_slice hown
                      rw [Nat.zero_add] at hown
                      simp only [Nat.zero_add]
                      have hb : Below X4.heap.size X4 X5 := ⟨hgr.os, hgr.tape, hgr.output, hgr.size, fun k hk => hgr.block k hk (by simp)⟩
                      have hT5 := hT4.below hb
                      have HB5 := Lib.hid (below_then HB4.out HB4.out.size hb)
                      have HD5 := Lib.hid (True.intro)
                      have HA5 := Lib.hid (HA4.out.below hb)
                      have HC5 := Lib.hid (True.intro)
                      have HP5 := Lib.hid (owns_below HP4.out hb)
                      have HQ5 := Lib.hid (show X5.ownsRow w1.heap.size 3 1 (.slice qHQ s.os.length rHQ) s.os.length (s.os.map (Value.int .i64)) from (by simpa using hown.mono HB4.out.size))
                      have HAP := Lib.hid (show ∀ g h : Nat, (Value.slice qHP s.ns.length rHP).ownBlock = some g → (Value.slice qHQ s.os.length rHQ).ownBlock = some h → g ≠ h from fun g h e1 e2 e => by have h1 := (HP4.out.lt g e1).2; have h2 := (hown.lt h (by simpa using e2)).1; omega)
                      clear hb hown hgr
                      refine hK.out _ _ ⟨hT5, fun _ _ => trivial⟩ ?_
                      clear hK K
                      (try simp only [Act.put, List.getElem_toArray, List.getElem_cons_succ, List.getElem_cons_zero, List.setIfInBounds_toArray, List.set_cons_succ, List.set_cons_zero])
                      refine wpTwo_takeT (i := 11) (v := .agg #[.int .i64 (s.now + 1), .slice qHP s.ns.length rHP, .slice qHQ s.os.length rHQ]) rfl (by kernel_rfl) (by kernel_rfl) (by kernel_rfl) (fun _ _ _ h => h) ⟨by rfl, ?_⟩ hT5 ?_
                      · rintro w hTw
                        go_simp
                      (try simp only [Act.put, List.getElem_toArray, List.getElem_cons_succ, List.getElem_cons_zero, List.setIfInBounds_toArray, List.set_cons_succ, List.set_cons_zero])
                      refine wpTwo_ready (rs := [13]) (by kernel_rfl) (by simp) ?_
                      refine (AllTwo.cons rfl (fun K hK => ?_) AllTwo.nil)
                      obtain ⟨d0, d1, d2⟩ := HA5.out.cells
                      have v0 := HA5.out.marks 0
                      have v1 := HA5.out.marks 1
                      have v2 := HA5.out.marks 2
                      obtain ⟨Xa, hXa⟩ : ∃ X : World, X = ((X5.setCell ⟨z7, 0, none⟩ (.int .i64 (s.now + 1))).setCell ⟨z7, 1, none⟩ (.slice qHP s.ns.length rHP)).setCell ⟨z7, 2, none⟩ (.slice qHQ s.os.length rHQ) := ⟨_, rfl⟩
                      have hka : Keeps (fun q => q = z7) X5 Xa := by rw [hXa]; exact RBox.putK X5 z7 _ _ _
                      have hrw : ∀ {v : Value} {n : Nat} {xs : List Int}, X5.ownsRow w1.heap.size 3 1 v n (xs.map (Value.int .i64)) → Xa.ownsRow w1.heap.size 3 1 v n (xs.map (Value.int .i64)) := fun {v n xs} h => hka.row h (fun g hg e => by
                        obtain ⟨cc, f, h1⟩ := Lib.ownsRow_kind h g hg
                        have h2 : X5.heap[z7]? = _ := HA5.out
                        rw [e, h2] at h1
                        simp at h1)
                      have HF := Lib.hid (show OutAt w1 z7 (s.now + 1) s.ns s.os qHP rHP qHQ rHQ Xa from ⟨by rw [hXa]; exact HA5.out.put _ _ _, hrw HP5.out, hrw HQ5.out, HAP.out, HB5.out.trans (hka.below HB5.out.size (fun q hq => by omega)), hz7⟩)
                      have hTa : RBox Xa z0 s.now (.slice (some ⟨b1, o1, none⟩) s.ns.length c) (.slice (some ⟨b2, o2, none⟩) s.os.length d) := HZL.out _ HF.out.below
                      go_simp
                      rw [← hXa]
                      refine hK.out _ _ ⟨hTa, fun _ _ => trivial⟩ ?_
                      clear hK K d0 d1 d2 v0 v1 v2 hXa hka hrw
                      (try simp only [Act.put, List.getElem_toArray, List.getElem_cons_succ, List.getElem_cons_zero, List.setIfInBounds_toArray, List.set_cons_succ, List.set_cons_zero])
                      refine wpTwo_end (by kernel_rfl) ?_ _
                      go_wp2
                      go_meet
                      exact ⟨z7, qHP, rHP, qHQ, rHQ, rfl, HF⟩
            · go_simp
              obtain ⟨z7, hy⟩ : ∃ q, q = X0.heap.size := ⟨_, rfl⟩
              obtain ⟨X1, hX⟩ : ∃ X : World, X = X0.alloc (.cells #[.int .i64 0, .slice none 0 0, .slice none 0 0] 45) := ⟨_, rfl⟩
              rw [← hX, ← hy]
              have hb : Below X0.heap.size X0 X1 := by rw [hX]; exact below1 _ _
              have hz7 : w1.heap.size ≤ z7 := by rw [hy]; exact HB0.out.size
              have hT1 := hT0.below hb
              have HB1 := Lib.hid (below_then HB0.out HB0.out.size hb)
              have HA1 := Lib.hid (show RBox X1 z7 0 (.slice none 0 0) (.slice none 0 0) by rw [hX, hy]; exact RBox.new _ _ _ _)
              clear hb hX hy
              refine hK.out _ _ ⟨hT1, fun _ _ => trivial⟩ ?_
              clear hK K
              (try simp only [Act.put, List.getElem_toArray, List.getElem_cons_succ, List.getElem_cons_zero, List.setIfInBounds_toArray, List.set_cons_succ, List.set_cons_zero])
              refine wpTwo_ready (rs := [3, 7]) (by kernel_rfl) (by simp) ?_
              refine (AllTwo.cons rfl (fun K hK => ?_) (AllTwo.cons rfl (fun K hK => ?_) AllTwo.nil))
              · go_simp
                obtain ⟨gHC, hy⟩ : ∃ q, q = X1.heap.size := ⟨_, rfl⟩
                obtain ⟨X2, hX⟩ : ∃ X : World, X = X1.alloc (.cells #[] 3) := ⟨_, rfl⟩
                rw [← hX, ← hy]
                have hb : Below X1.heap.size X1 X2 := by rw [hX]; exact below1 _ _
                have hT2 := hT1.below hb
                have HB2 := Lib.hid (below_then HB1.out HB1.out.size hb)
                have HA2 := Lib.hid (HA1.out.below hb)
                have HC2 := Lib.hid True.intro
                clear hb hX hy
                refine hK.out _ _ ⟨hT2, fun _ _ => trivial⟩ ?_
                clear hK K
                (try simp only [Act.put, List.getElem_toArray, List.getElem_cons_succ, List.getElem_cons_zero, List.setIfInBounds_toArray, List.set_cons_succ, List.set_cons_zero])
                refine wpTwo_ready (rs := [6, 7]) (by kernel_rfl) (by simp) ?_
                refine (AllTwo.cons rfl (fun K hK => ?_) (AllTwo.cons rfl (fun K hK => ?_) AllTwo.nil))
                · refine step_append_grows (by rfl) _ _ 25 (by rfl) 3 i0 (.int .i64 0) 1 8 Try.underlying25 HI0.out.1 HI0.out.2.1 HI0.out.2.2.1 HI0.out.2.2.2 rfl (by decide) (some ⟨gHC, 0, none⟩) 0 0 [] (by rfl) (fun e => by cases e) rfl (fun b _ j u hj => by cases hj) ⟨b1, o1, none⟩ s.ns.length c (s.ns.map (Value.int .i64)) (by rfl) (by rw [List.length_map]; omega) (HSU.out X2 HB2.out) (fun u hu => by obtain ⟨x, _, rfl⟩ := List.mem_map.1 hu; rfl) (by omega) (by unfold maxLen; omega) (by omega) ?_
                  intro v' X3 hown hgr
                  obtain ⟨qHP, rHP, rfl⟩ := owns_slice hown
                  rw [Nat.zero_add] at hown
                  simp only [Nat.zero_add]
                  have hb : Below X2.heap.size X2 X3 := ⟨hgr.os, hgr.tape, hgr.output, hgr.size, fun k hk => hgr.block k hk (by simp)⟩
                  have hT3 := hT2.below hb
                  have HB3 := Lib.hid (below_then HB2.out HB2.out.size hb)
                  have HA3 := Lib.hid (HA2.out.below hb)
                  have HC3 := Lib.hid (True.intro)
                  have HP3 := Lib.hid (show X3.ownsRow w1.heap.size 3 1 (.slice qHP s.ns.length rHP) s.ns.length (s.ns.map (Value.int .i64)) from (by simpa using hown.mono HB2.out.size))
                  clear hb hown hgr
                  refine hK.out _ _ ⟨hT3, fun _ _ => trivial⟩ ?_
                  clear hK K
                  (try simp only [Act.put, List.getElem_toArray, List.getElem_cons_succ, List.getElem_cons_zero, List.setIfInBounds_toArray, List.set_cons_succ, List.set_cons_zero])
                  refine wpTwo_ready (rs := [7]) (by kernel_rfl) (by simp) ?_
                  refine (AllTwo.cons rfl (fun K hK => ?_) AllTwo.nil)
                  · go_simp
                    obtain ⟨gHD, hy⟩ : ∃ q, q = X3.heap.size := ⟨_, rfl⟩
                    obtain ⟨X4, hX⟩ : ∃ X : World, X = X3.alloc (.cells #[] 3) := ⟨_, rfl⟩
                    rw [← hX, ← hy]
                    have hb : Below X3.heap.size X3 X4 := by rw [hX]; exact below1 _ _
                    have hT4 := hT3.below hb
                    have HB4 := Lib.hid (below_then HB3.out HB3.out.size hb)
                    have HA4 := Lib.hid (HA3.out.below hb)
                    have HC4 := Lib.hid (True.intro)
                    have HP4 := Lib.hid (owns_below HP3.out hb)
                    have HD4 := Lib.hid True.intro
                    clear hb hX hy
                    refine hK.out _ _ ⟨hT4, fun _ _ => trivial⟩ ?_
                    clear hK K
                    (try simp only [Act.put, List.getElem_toArray, List.getElem_cons_succ, List.getElem_cons_zero, List.setIfInBounds_toArray, List.set_cons_succ, List.set_cons_zero])
                    refine wpTwo_ready (rs := [10]) (by kernel_rfl) (by simp) ?_
                    refine (AllTwo.cons rfl (fun K hK => ?_) AllTwo.nil)
                    · refine step_append_grows (by rfl) _ _ 25 (by rfl) 3 i0 (.int .i64 0) 1 8 Try.underlying25 HI0.out.1 HI0.out.2.1 HI0.out.2.2.1 HI0.out.2.2.2 rfl (by decide) (some ⟨gHD, 0, none⟩) 0 0 [] (by rfl) (fun e => by cases e) rfl (fun b _ j u hj => by cases hj) ⟨b2, o2, none⟩ s.os.length d (s.os.map (Value.int .i64)) (by rfl) (by rw [List.length_map]; omega) (HSV.out X4 HB4.out) (fun u hu => by obtain ⟨x, _, rfl⟩ := List.mem_map.1 hu; rfl) (by omega) (by unfold maxLen; omega) (by omega) ?_
                      intro v' X5 hown hgr
                      obtain ⟨qHQ, rHQ, rfl⟩ := owns_slice hown
                      rw [Nat.zero_add] at hown
                      simp only [Nat.zero_add]
                      have hb : Below X4.heap.size X4 X5 := ⟨hgr.os, hgr.tape, hgr.output, hgr.size, fun k hk => hgr.block k hk (by simp)⟩
                      have hT5 := hT4.below hb
                      have HB5 := Lib.hid (below_then HB4.out HB4.out.size hb)
                      have HA5 := Lib.hid (HA4.out.below hb)
                      have HC5 := Lib.hid (True.intro)
                      have HP5 := Lib.hid (owns_below HP4.out hb)
                      have HD5 := Lib.hid (True.intro)
                      have HQ5 := Lib.hid (show X5.ownsRow w1.heap.size 3 1 (.slice qHQ s.os.length rHQ) s.os.length (s.os.map (Value.int .i64)) from (by simpa using hown.mono HB4.out.size))
                      have HAP := Lib.hid (show ∀ g h : Nat, (Value.slice qHP s.ns.length rHP).ownBlock = some g → (Value.slice qHQ s.os.length rHQ).ownBlock = some h → g ≠ h from fun g h e1 e2 e => by have h1 := (HP4.out.lt g e1).2; have h2 := (hown.lt h (by simpa using e2)).1; omega)
                      clear hb hown hgr
                      refine hK.out _ _ ⟨hT5, fun _ _ => trivial⟩ ?_
                      clear hK K
                      (try simp only [Act.put, List.getElem_toArray, List.getElem_cons_succ, List.getElem_cons_zero, List.setIfInBounds_toArray, List.set_cons_succ, List.set_cons_zero])
                      refine wpTwo_takeT (i := 11) (v := .agg #[.int .i64 (s.now + 1), .slice qHP s.ns.length rHP, .slice qHQ s.os.length rHQ]) rfl (by kernel_rfl) (by kernel_rfl) (by kernel_rfl) (fun _ _ _ h => h) ⟨by rfl, ?_⟩ hT5 ?_
                      · rintro w hTw
                        go_simp
                      (try simp only [Act.put, List.getElem_toArray, List.getElem_cons_succ, List.getElem_cons_zero, List.setIfInBounds_toArray, List.set_cons_succ, List.set_cons_zero])
                      refine wpTwo_ready (rs := [13]) (by kernel_rfl) (by simp) ?_
                      refine (AllTwo.cons rfl (fun K hK => ?_) AllTwo.nil)
                      obtain ⟨d0, d1, d2⟩ := HA5.out.cells
                      have v0 := HA5.out.marks 0
                      have v1 := HA5.out.marks 1
                      have v2 := HA5.out.marks 2
                      obtain ⟨Xa, hXa⟩ : ∃ X : World, X = ((X5.setCell ⟨z7, 0, none⟩ (.int .i64 (s.now + 1))).setCell ⟨z7, 1, none⟩ (.slice qHP s.ns.length rHP)).setCell ⟨z7, 2, none⟩ (.slice qHQ s.os.length rHQ) := ⟨_, rfl⟩
                      have hka : Keeps (fun q => q = z7) X5 Xa := by rw [hXa]; exact RBox.putK X5 z7 _ _ _
                      have hrw : ∀ {v : Value} {n : Nat} {xs : List Int}, X5.ownsRow w1.heap.size 3 1 v n (xs.map (Value.int .i64)) → Xa.ownsRow w1.heap.size 3 1 v n (xs.map (Value.int .i64)) := fun {v n xs} h => hka.row h (fun g hg e => by
                        obtain ⟨cc, f, h1⟩ := Lib.ownsRow_kind h g hg
                        have h2 : X5.heap[z7]? = _ := HA5.out
                        rw [e, h2] at h1
                        simp at h1)
                      have HF := Lib.hid (show OutAt w1 z7 (s.now + 1) s.ns s.os qHP rHP qHQ rHQ Xa from ⟨by rw [hXa]; exact HA5.out.put _ _ _, hrw HP5.out, hrw HQ5.out, HAP.out, HB5.out.trans (hka.below HB5.out.size (fun q hq => by omega)), hz7⟩)
                      have hTa : RBox Xa z0 s.now (.slice (some ⟨b1, o1, none⟩) s.ns.length c) (.slice (some ⟨b2, o2, none⟩) s.os.length d) := HZL.out _ HF.out.below
                      go_simp
                      rw [← hXa]
                      refine hK.out _ _ ⟨hTa, fun _ _ => trivial⟩ ?_
                      clear hK K d0 d1 d2 v0 v1 v2 hXa hka hrw
                      (try simp only [Act.put, List.getElem_toArray, List.getElem_cons_succ, List.getElem_cons_zero, List.setIfInBounds_toArray, List.set_cons_succ, List.set_cons_zero])
                      refine wpTwo_end (by kernel_rfl) ?_ _
                      go_wp2
                      go_meet
                      exact ⟨z7, qHP, rHP, qHQ, rHQ, rfl, HF⟩
                · go_simp
                  obtain ⟨gHD, hy⟩ : ∃ q, q = X2.heap.size := ⟨_, rfl⟩
                  obtain ⟨X3, hX⟩ : ∃ X : World, X = X2.alloc (.cells #[] 3) := ⟨_, rfl⟩
                  rw [← hX, ← hy]
                  have hb : Below X2.heap.size X2 X3 := by rw [hX]; exact below1 _ _
                  have hT3 := hT2.below hb
                  have HB3 := Lib.hid (below_then HB2.out HB2.out.size hb)
                  have HA3 := Lib.hid (HA2.out.below hb)
                  have HC3 := Lib.hid (True.intro)
                  have HD3 := Lib.hid True.intro
                  clear hb hX hy
                  refine hK.out _ _ ⟨hT3, fun _ _ => trivial⟩ ?_
                  clear hK K
                  (try simp only [Act.put, List.getElem_toArray, List.getElem_cons_succ, List.getElem_cons_zero, List.setIfInBounds_toArray, List.set_cons_succ, List.set_cons_zero])
                  refine wpTwo_ready (rs := [6]) (by kernel_rfl) (by simp) ?_
                  refine (AllTwo.cons rfl (fun K hK => ?_) AllTwo.nil)
                  · refine step_append_grows (by rfl) _ _ 25 (by rfl) 3 i0 (.int .i64 0) 1 8 Try.underlying25 HI0.out.1 HI0.out.2.1 HI0.out.2.2.1 HI0.out.2.2.2 rfl (by decide) (some ⟨gHC, 0, none⟩) 0 0 [] (by rfl) (fun e => by cases e) rfl (fun b _ j u hj => by cases hj) ⟨b1, o1, none⟩ s.ns.length c (s.ns.map (Value.int .i64)) (by rfl) (by rw [List.length_map]; omega) (HSU.out X3 HB3.out) (fun u hu => by obtain ⟨x, _, rfl⟩ := List.mem_map.1 hu; rfl) (by omega) (by unfold maxLen; omega) (by omega) ?_
                    intro v' X4 hown hgr
                    obtain ⟨qHP, rHP, rfl⟩ := owns_slice hown
                    rw [Nat.zero_add] at hown
                    simp only [Nat.zero_add]
                    have hb : Below X3.heap.size X3 X4 := ⟨hgr.os, hgr.tape, hgr.output, hgr.size, fun k hk => hgr.block k hk (by simp)⟩
                    have hT4 := hT3.below hb
                    have HB4 := Lib.hid (below_then HB3.out HB3.out.size hb)
                    have HA4 := Lib.hid (HA3.out.below hb)
                    have HC4 := Lib.hid (True.intro)
                    have HD4 := Lib.hid (True.intro)
                    have HP4 := Lib.hid (show X4.ownsRow w1.heap.size 3 1 (.slice qHP s.ns.length rHP) s.ns.length (s.ns.map (Value.int .i64)) from (by simpa using hown.mono HB3.out.size))
                    clear hb hown hgr
                    refine hK.out _ _ ⟨hT4, fun _ _ => trivial⟩ ?_
                    clear hK K
                    (try simp only [Act.put, List.getElem_toArray, List.getElem_cons_succ, List.getElem_cons_zero, List.setIfInBounds_toArray, List.set_cons_succ, List.set_cons_zero])
                    refine wpTwo_ready (rs := [10]) (by kernel_rfl) (by simp) ?_
                    refine (AllTwo.cons rfl (fun K hK => ?_) AllTwo.nil)
                    · refine step_append_grows (by rfl) _ _ 25 (by rfl) 3 i0 (.int .i64 0) 1 8 Try.underlying25 HI0.out.1 HI0.out.2.1 HI0.out.2.2.1 HI0.out.2.2.2 rfl (by decide) (some ⟨gHD, 0, none⟩) 0 0 [] (by rfl) (fun e => by cases e) rfl (fun b _ j u hj => by cases hj) ⟨b2, o2, none⟩ s.os.length d (s.os.map (Value.int .i64)) (by rfl) (by rw [List.length_map]; omega) (HSV.out X4 HB4.out) (fun u hu => by obtain ⟨x, _, rfl⟩ := List.mem_map.1 hu; rfl) (by omega) (by unfold maxLen; omega) (by omega) ?_
                      intro v' X5 hown hgr
                      obtain ⟨qHQ, rHQ, rfl⟩ := owns_slice hown
                      rw [Nat.zero_add] at hown
                      simp only [Nat.zero_add]
                      have hb : Below X4.heap.size X4 X5 := ⟨hgr.os, hgr.tape, hgr.output, hgr.size, fun k hk => hgr.block k hk (by simp)⟩
                      have hT5 := hT4.below hb
                      have HB5 := Lib.hid (below_then HB4.out HB4.out.size hb)
                      have HA5 := Lib.hid (HA4.out.below hb)
                      have HC5 := Lib.hid (True.intro)
                      have HD5 := Lib.hid (True.intro)
                      have HP5 := Lib.hid (owns_below HP4.out hb)
                      have HQ5 := Lib.hid (show X5.ownsRow w1.heap.size 3 1 (.slice qHQ s.os.length rHQ) s.os.length (s.os.map (Value.int .i64)) from (by simpa using hown.mono HB4.out.size))
                      have HAP := Lib.hid (show ∀ g h : Nat, (Value.slice qHP s.ns.length rHP).ownBlock = some g → (Value.slice qHQ s.os.length rHQ).ownBlock = some h → g ≠ h from fun g h e1 e2 e => by have h1 := (HP4.out.lt g e1).2; have h2 := (hown.lt h (by simpa using e2)).1; omega)
                      clear hb hown hgr
                      refine hK.out _ _ ⟨hT5, fun _ _ => trivial⟩ ?_
                      clear hK K
                      (try simp only [Act.put, List.getElem_toArray, List.getElem_cons_succ, List.getElem_cons_zero, List.setIfInBounds_toArray, List.set_cons_succ, List.set_cons_zero])
                      refine wpTwo_takeT (i := 11) (v := .agg #[.int .i64 (s.now + 1), .slice qHP s.ns.length rHP, .slice qHQ s.os.length rHQ]) rfl (by kernel_rfl) (by kernel_rfl) (by kernel_rfl) (fun _ _ _ h => h) ⟨by rfl, ?_⟩ hT5 ?_
                      · rintro w hTw
                        go_simp
                      (try simp only [Act.put, List.getElem_toArray, List.getElem_cons_succ, List.getElem_cons_zero, List.setIfInBounds_toArray, List.set_cons_succ, List.set_cons_zero])
                      refine wpTwo_ready (rs := [13]) (by kernel_rfl) (by simp) ?_
                      refine (AllTwo.cons rfl (fun K hK => ?_) AllTwo.nil)
                      obtain ⟨d0, d1, d2⟩ := HA5.out.cells
                      have v0 := HA5.out.marks 0
                      have v1 := HA5.out.marks 1
                      have v2 := HA5.out.marks 2
                      obtain ⟨Xa, hXa⟩ : ∃ X : World, X = ((X5.setCell ⟨z7, 0, none⟩ (.int .i64 (s.now + 1))).setCell ⟨z7, 1, none⟩ (.slice qHP s.ns.length rHP)).setCell ⟨z7, 2, none⟩ (.slice qHQ s.os.length rHQ) := ⟨_, rfl⟩
                      have hka : Keeps (fun q => q = z7) X5 Xa := by rw [hXa]; exact RBox.putK X5 z7 _ _ _
                      have hrw : ∀ {v : Value} {n : Nat} {xs : List Int}, X5.ownsRow w1.heap.size 3 1 v n (xs.map (Value.int .i64)) → Xa.ownsRow w1.heap.size 3 1 v n (xs.map (Value.int .i64)) := fun {v n xs} h => hka.row h (fun g hg e => by
                        obtain ⟨cc, f, h1⟩ := Lib.ownsRow_kind h g hg
                        have h2 : X5.heap[z7]? = _ := HA5.out
                        rw [e, h2] at h1
                        simp at h1)
                      have HF := Lib.hid (show OutAt w1 z7 (s.now + 1) s.ns s.os qHP rHP qHQ rHQ Xa from ⟨by rw [hXa]; exact HA5.out.put _ _ _, hrw HP5.out, hrw HQ5.out, HAP.out, HB5.out.trans (hka.below HB5.out.size (fun q hq => by omega)), hz7⟩)
                      have hTa : RBox Xa z0 s.now (.slice (some ⟨b1, o1, none⟩) s.ns.length c) (.slice (some ⟨b2, o2, none⟩) s.os.length d) := HZL.out _ HF.out.below
                      go_simp
                      rw [← hXa]
                      refine hK.out _ _ ⟨hTa, fun _ _ => trivial⟩ ?_
                      clear hK K d0 d1 d2 v0 v1 v2 hXa hka hrw
                      (try simp only [Act.put, List.getElem_toArray, List.getElem_cons_succ, List.getElem_cons_zero, List.setIfInBounds_toArray, List.set_cons_succ, List.set_cons_zero])
                      refine wpTwo_end (by kernel_rfl) ?_ _
                      go_wp2
                      go_meet
                      exact ⟨z7, qHP, rHP, qHQ, rHQ, rfl, HF⟩
              · go_simp
                obtain ⟨gHD, hy⟩ : ∃ q, q = X1.heap.size := ⟨_, rfl⟩
                obtain ⟨X2, hX⟩ : ∃ X : World, X = X1.alloc (.cells #[] 3) := ⟨_, rfl⟩
                rw [← hX, ← hy]
                have hb : Below X1.heap.size X1 X2 := by rw [hX]; exact below1 _ _
                have hT2 := hT1.below hb
                have HB2 := Lib.hid (below_then HB1.out HB1.out.size hb)
                have HA2 := Lib.hid (HA1.out.below hb)
                have HD2 := Lib.hid True.intro
                clear hb hX hy
                refine hK.out _ _ ⟨hT2, fun _ _ => trivial⟩ ?_
                clear hK K
                (try simp only [Act.put, List.getElem_toArray, List.getElem_cons_succ, List.getElem_cons_zero, List.setIfInBounds_toArray, List.set_cons_succ, List.set_cons_zero])
                refine wpTwo_ready (rs := [3]) (by kernel_rfl) (by simp) ?_
                refine (AllTwo.cons rfl (fun K hK => ?_) AllTwo.nil)
                · go_simp
                  obtain ⟨gHC, hy⟩ : ∃ q, q = X2.heap.size := ⟨_, rfl⟩
                  obtain ⟨X3, hX⟩ : ∃ X : World, X = X2.alloc (.cells #[] 3) := ⟨_, rfl⟩
                  rw [← hX, ← hy]
                  have hb : Below X2.heap.size X2 X3 := by rw [hX]; exact below1 _ _
                  have hT3 := hT2.below hb
                  have HB3 := Lib.hid (below_then HB2.out HB2.out.size hb)
                  have HA3 := Lib.hid (HA2.out.below hb)
                  have HD3 := Lib.hid (True.intro)
                  have HC3 := Lib.hid True.intro
                  clear hb hX hy
                  refine hK.out _ _ ⟨hT3, fun _ _ => trivial⟩ ?_
                  clear hK K
                  (try simp only [Act.put, List.getElem_toArray, List.getElem_cons_succ, List.getElem_cons_zero, List.setIfInBounds_toArray, List.set_cons_succ, List.set_cons_zero])
                  refine wpTwo_ready (rs := [6]) (by kernel_rfl) (by simp) ?_
                  refine (AllTwo.cons rfl (fun K hK => ?_) AllTwo.nil)
                  · refine step_append_grows (by rfl) _ _ 25 (by rfl) 3 i0 (.int .i64 0) 1 8 Try.underlying25 HI0.out.1 HI0.out.2.1 HI0.out.2.2.1 HI0.out.2.2.2 rfl (by decide) (some ⟨gHC, 0, none⟩) 0 0 [] (by rfl) (fun e => by cases e) rfl (fun b _ j u hj => by cases hj) ⟨b1, o1, none⟩ s.ns.length c (s.ns.map (Value.int .i64)) (by rfl) (by rw [List.length_map]; omega) (HSU.out X3 HB3.out) (fun u hu => by obtain ⟨x, _, rfl⟩ := List.mem_map.1 hu; rfl) (by omega) (by unfold maxLen; omega) (by omega) ?_
                    intro v' X4 hown hgr
                    obtain ⟨qHP, rHP, rfl⟩ := owns_slice hown
                    rw [Nat.zero_add] at hown
                    simp only [Nat.zero_add]
                    have hb : Below X3.heap.size X3 X4 := ⟨hgr.os, hgr.tape, hgr.output, hgr.size, fun k hk => hgr.block k hk (by simp)⟩
                    have hT4 := hT3.below hb
                    have HB4 := Lib.hid (below_then HB3.out HB3.out.size hb)
                    have HA4 := Lib.hid (HA3.out.below hb)
                    have HD4 := Lib.hid (True.intro)
                    have HC4 := Lib.hid (True.intro)
                    have HP4 := Lib.hid (show X4.ownsRow w1.heap.size 3 1 (.slice qHP s.ns.length rHP) s.ns.length (s.ns.map (Value.int .i64)) from (by simpa using hown.mono HB3.out.size))
                    clear hb hown hgr
                    refine hK.out _ _ ⟨hT4, fun _ _ => trivial⟩ ?_
                    clear hK K
                    (try simp only [Act.put, List.getElem_toArray, List.getElem_cons_succ, List.getElem_cons_zero, List.setIfInBounds_toArray, List.set_cons_succ, List.set_cons_zero])
                    refine wpTwo_ready (rs := [10]) (by kernel_rfl) (by simp) ?_
                    refine (AllTwo.cons rfl (fun K hK => ?_) AllTwo.nil)
                    · refine step_append_grows (by rfl) _ _ 25 (by rfl) 3 i0 (.int .i64 0) 1 8 Try.underlying25 HI0.out.1 HI0.out.2.1 HI0.out.2.2.1 HI0.out.2.2.2 rfl (by decide) (some ⟨gHD, 0, none⟩) 0 0 [] (by rfl) (fun e => by cases e) rfl (fun b _ j u hj => by cases hj) ⟨b2, o2, none⟩ s.os.length d (s.os.map (Value.int .i64)) (by rfl) (by rw [List.length_map]; omega) (HSV.out X4 HB4.out) (fun u hu => by obtain ⟨x, _, rfl⟩ := List.mem_map.1 hu; rfl) (by omega) (by unfold maxLen; omega) (by omega) ?_
                      intro v' X5 hown hgr
                      obtain ⟨qHQ, rHQ, rfl⟩ := owns_slice hown
                      rw [Nat.zero_add] at hown
                      simp only [Nat.zero_add]
                      have hb : Below X4.heap.size X4 X5 := ⟨hgr.os, hgr.tape, hgr.output, hgr.size, fun k hk => hgr.block k hk (by simp)⟩
                      have hT5 := hT4.below hb
                      have HB5 := Lib.hid (below_then HB4.out HB4.out.size hb)
                      have HA5 := Lib.hid (HA4.out.below hb)
                      have HD5 := Lib.hid (True.intro)
                      have HC5 := Lib.hid (True.intro)
                      have HP5 := Lib.hid (owns_below HP4.out hb)
                      have HQ5 := Lib.hid (show X5.ownsRow w1.heap.size 3 1 (.slice qHQ s.os.length rHQ) s.os.length (s.os.map (Value.int .i64)) from (by simpa using hown.mono HB4.out.size))
                      have HAP := Lib.hid (show ∀ g h : Nat, (Value.slice qHP s.ns.length rHP).ownBlock = some g → (Value.slice qHQ s.os.length rHQ).ownBlock = some h → g ≠ h from fun g h e1 e2 e => by have h1 := (HP4.out.lt g e1).2; have h2 := (hown.lt h (by simpa using e2)).1; omega)
                      clear hb hown hgr
                      refine hK.out _ _ ⟨hT5, fun _ _ => trivial⟩ ?_
                      clear hK K
                      (try simp only [Act.put, List.getElem_toArray, List.getElem_cons_succ, List.getElem_cons_zero, List.setIfInBounds_toArray, List.set_cons_succ, List.set_cons_zero])
                      refine wpTwo_takeT (i := 11) (v := .agg #[.int .i64 (s.now + 1), .slice qHP s.ns.length rHP, .slice qHQ s.os.length rHQ]) rfl (by kernel_rfl) (by kernel_rfl) (by kernel_rfl) (fun _ _ _ h => h) ⟨by rfl, ?_⟩ hT5 ?_
                      · rintro w hTw
                        go_simp
                      (try simp only [Act.put, List.getElem_toArray, List.getElem_cons_succ, List.getElem_cons_zero, List.setIfInBounds_toArray, List.set_cons_succ, List.set_cons_zero])
                      refine wpTwo_ready (rs := [13]) (by kernel_rfl) (by simp) ?_
                      refine (AllTwo.cons rfl (fun K hK => ?_) AllTwo.nil)
                      obtain ⟨d0, d1, d2⟩ := HA5.out.cells
                      have v0 := HA5.out.marks 0
                      have v1 := HA5.out.marks 1
                      have v2 := HA5.out.marks 2
                      obtain ⟨Xa, hXa⟩ : ∃ X : World, X = ((X5.setCell ⟨z7, 0, none⟩ (.int .i64 (s.now + 1))).setCell ⟨z7, 1, none⟩ (.slice qHP s.ns.length rHP)).setCell ⟨z7, 2, none⟩ (.slice qHQ s.os.length rHQ) := ⟨_, rfl⟩
                      have hka : Keeps (fun q => q = z7) X5 Xa := by rw [hXa]; exact RBox.putK X5 z7 _ _ _
                      have hrw : ∀ {v : Value} {n : Nat} {xs : List Int}, X5.ownsRow w1.heap.size 3 1 v n (xs.map (Value.int .i64)) → Xa.ownsRow w1.heap.size 3 1 v n (xs.map (Value.int .i64)) := fun {v n xs} h => hka.row h (fun g hg e => by
                        obtain ⟨cc, f, h1⟩ := Lib.ownsRow_kind h g hg
                        have h2 : X5.heap[z7]? = _ := HA5.out
                        rw [e, h2] at h1
                        simp at h1)
                      have HF := Lib.hid (show OutAt w1 z7 (s.now + 1) s.ns s.os qHP rHP qHQ rHQ Xa from ⟨by rw [hXa]; exact HA5.out.put _ _ _, hrw HP5.out, hrw HQ5.out, HAP.out, HB5.out.trans (hka.below HB5.out.size (fun q hq => by omega)), hz7⟩)
                      have hTa : RBox Xa z0 s.now (.slice (some ⟨b1, o1, none⟩) s.ns.length c) (.slice (some ⟨b2, o2, none⟩) s.os.length d) := HZL.out _ HF.out.below
                      go_simp
                      rw [← hXa]
                      refine hK.out _ _ ⟨hTa, fun _ _ => trivial⟩ ?_
                      clear hK K d0 d1 d2 v0 v1 v2 hXa hka hrw
                      (try simp only [Act.put, List.getElem_toArray, List.getElem_cons_succ, List.getElem_cons_zero, List.setIfInBounds_toArray, List.set_cons_succ, List.set_cons_zero])
                      refine wpTwo_end (by kernel_rfl) ?_ _
                      go_wp2
                      go_meet
                      exact ⟨z7, qHP, rHP, qHQ, rHQ, rfl, HF⟩
          case rest =>
            obtain ⟨z7, q1, r1, q2, r2, rfl, hO⟩ := hcut
            obtain ⟨wd, hwd⟩ : ∃ X : World, X = wc := ⟨_, rfl⟩
            rw [← hwd] at hO
            rw [← hwd]
            clear hwd e0 e1 e2 x0 x1 hx
            obtain ⟨g1, rfl⟩ : ∃ g, q1 = some ⟨g, 0, none⟩ := by
              rcases hO.out.nest.2 with ⟨h, h0⟩ | ⟨g, cap, cur, h, _⟩
              · have h1 := HG.out.l1; injection h with _ h2; omega
              · injection h with h; exact ⟨g, h⟩
            obtain ⟨g2, rfl⟩ : ∃ g, q2 = some ⟨g, 0, none⟩ := by
              rcases hO.out.opened.2 with ⟨h, h0⟩ | ⟨g, cap, cur, h, _⟩
              · have h1 := HG.out.l1; have h3 := HG.out.lo; injection h with _ h2; omega
              · injection h with h; exact ⟨g, h⟩
            have hgg : g1 ≠ g2 := hO.out.apart g1 g2 rfl rfl
            have hz1 : z7 ≠ g1 := fun e => by
              obtain ⟨cc, f, h1⟩ := Lib.ownsRow_kind hO.out.nest g1 rfl
              have h2 : wd.heap[z7]? = _ := hO.out.box
              rw [e, h1] at h2; simp at h2
            have hz2 : z7 ≠ g2 := fun e => by
              obtain ⟨cc, f, h1⟩ := Lib.ownsRow_kind hO.out.opened g2 rfl
              have h2 : wd.heap[z7]? = _ := hO.out.box
              rw [e, h1] at h2; simp at h2
            obtain ⟨y0, y1, y2⟩ := hO.out.box.cells
            obtain ⟨x0, x1⟩ := (HW1.out.2.1.below hO.out.below).cells
            have hc1 := hO.out.nest.cellAt i (by omega)
            have hm1 := hO.out.nest.frozenAt i
            have hio : i < s.os.length := by have := HG.out.lo; omega
            rw [List.getElem?_map, List.getElem?_eq_getElem hi] at hc1
            obtain ⟨we, hwe⟩ : ∃ X : World, X = wd.setCell ⟨g1, i, none⟩ (.int .i64 (n - 1)) := ⟨_, rfl⟩
            have hke : Keeps (fun q => q = g1) wd we := by rw [hwe]; exact Keeps.setCell wd (S := (· = g1)) (p := ⟨g1, i, none⟩) rfl _
            have hN2 : we.ownsRow w1.heap.size 3 1 (.slice (some ⟨g1, 0, none⟩) s.ns.length r1) s.ns.length ((s.ns.set i (n - 1)).map (Value.int .i64)) := by
              rw [hwe, List.map_set]
              exact (hO.out.nest.stored i _).1
            have hO2 : we.ownsRow w1.heap.size 3 1 (.slice (some ⟨g2, 0, none⟩) s.os.length r2) s.os.length (s.os.map (Value.int .i64)) := hke.row hO.out.opened (fun g hg e => by have hgk := own_blk hg; omega)
            have hB2 : RBox we z7 (s.now + 1) (.slice (some ⟨g1, 0, none⟩) s.ns.length r1) (.slice (some ⟨g2, 0, none⟩) s.os.length r2) := hO.out.box.keeps hke hz1
            have hL1 := (hO.out.nest.lt g1 rfl).1
            have hW2 : Below w1.heap.size w1 we := hO.out.below.trans (hke.below hO.out.below.size (fun q e => by omega))
            have HE2 := Lib.hid (And.intro hN2 (And.intro hO2 (And.intro hB2 hW2)))
            have HL2 := Lib.hid (And.intro hL1 (And.intro (hO.out.opened.lt g2 rfl).1 hO.out.late))
            have HWE := Lib.hid hwe
            have HGG := Lib.hid (And.intro hgg (And.intro hz1 hz2))
            clear hwe hke hN2 hO2 hB2 hW2 hO hL1
            go_upto_region 15 with fail
            rw [← HWE.out]
            clear y0 y1 y2 x0 x1 hc1 hm1 HWE hgg hz1 hz2
            obtain ⟨y0, y1, y2⟩ := HE2.out.2.2.1.cells
            obtain ⟨x0, x1⟩ := (HW1.out.2.1.below HE2.out.2.2.2).cells
            by_cases hcs : n = 1
            · have hq5 : (n == 1) = true := by rw [hcs]; rfl
              have HS := Lib.hid (show stepS s (i : Int) false = ⟨s.now + 1, s.ns.set i (n - 1), s.os.set i 0⟩ by
                unfold stepS
                simp only [Bool.false_eq_true, if_false, Int.toNat_natCast]
                rw [show s.ns.getD i 0 = n from HN.out.symm, if_pos hcs])
              have hios : (i : Int) < (s.os.length : Int) := by omega
              have hc2 := HE2.out.2.1.cellAt i (by omega)
              have hm2 := HE2.out.2.1.frozenAt i
              rw [List.getElem?_map, List.getElem?_eq_getElem hio] at hc2
              obtain ⟨wf, hwf⟩ : ∃ X : World, X = we.setCell ⟨g2, i, none⟩ (.int .i64 0) := ⟨_, rfl⟩
              have hkf : Keeps (fun q => q = g2) we wf := by rw [hwf]; exact Keeps.setCell we (S := (· = g2)) (p := ⟨g2, i, none⟩) rfl _
              have hN3 : wf.ownsRow w1.heap.size 3 1 (.slice (some ⟨g1, 0, none⟩) s.ns.length r1) s.ns.length ((s.ns.set i (n - 1)).map (Value.int .i64)) := hkf.row HE2.out.1 (fun g hg e => by have hgk := own_blk hg; have := HGG.out.1; omega)
              have hO3 : wf.ownsRow w1.heap.size 3 1 (.slice (some ⟨g2, 0, none⟩) s.os.length r2) s.os.length ((s.os.set i 0).map (Value.int .i64)) := by
                rw [hwf, List.map_set]
                exact (HE2.out.2.1.stored i _).1
              have HE3 := Lib.hid (And.intro hN3 (And.intro hO3 (And.intro (HE2.out.2.2.1.keeps hkf HGG.out.2.2) (HE2.out.2.2.2.trans (hkf.below HE2.out.2.2.2.size (fun q e => by have := HL2.out.2.1; omega))))))
              have HWF := Lib.hid hwf
              have HNL := Lib.hid (show (stepS s (i : Int) false).ns.length = s.ns.length ∧ (stepS s (i : Int) false).os.length = s.os.length from stepS_len s i false)
              clear hwf hkf hN3 hO3 hcs HE2
              go_upto_region 17 with fail
              rw [← HWF.out]
              clear y0 y1 y2 x0 x1 hc2 hm2 HWF
              obtain ⟨y0, y1, y2⟩ := HE3.out.2.2.1.cells
              have HZR := Lib.hid (show RBox wf (z0 + 1 + 1) 0 (.slice none 0 0) (.slice none 0 0) from HW1.out.2.2.1.below HE3.out.2.2.2)
              obtain ⟨f0, f1, f2⟩ := HZR.out.cells
              have m0 := HZR.out.marks 0
              have m1 := HZR.out.marks 1
              have m2 := HZR.out.marks 2
              have HP := Lib.hid (HZR.out.put (s.now + 1) (.slice (some ⟨g1, 0, none⟩) s.ns.length r1) (.slice (some ⟨g2, 0, none⟩) s.os.length r2))
              have HK := Lib.hid (RBox.putK wf (z0 + 1 + 1) (s.now + 1) (.slice (some ⟨g1, 0, none⟩) s.ns.length r1) (.slice (some ⟨g2, 0, none⟩) s.os.length r2))
              obtain ⟨w9, hw9⟩ : ∃ X : World, X = (((wf.setCell ⟨z0 + 1 + 1, 0, none⟩ (.int .i64 (s.now + 1))).setCell ⟨z0 + 1 + 1, 1, none⟩ (.slice (some ⟨g1, 0, none⟩) s.ns.length r1)).setCell ⟨z0 + 1 + 1, 2, none⟩ (.slice (some ⟨g2, 0, none⟩) s.os.length r2)) := ⟨_, rfl⟩
              rw [← hw9] at HP HK
              have HW9 := Lib.hid hw9
              clear hw9
              go_wp2
              rw [← HW9.out]
              have hgl := HL2.out
              have hzz := HZ0.out
              have hB9 : Below W.heap.size W wf := HW1.out.2.2.2.trans (HE3.out.2.2.2.mono HW1.out.2.2.2.size)
              refine bodyPost_ret (v := .tuple #[.agg #[.int .i64 (s.now + 1), .slice (some ⟨g1, 0, none⟩) s.ns.length r1, .slice (some ⟨g2, 0, none⟩) s.os.length r2], .int .i64 0]) (HP.out.result2 rfl _ rfl rfl) rfl ⟨⟨_, _, _, _, _, _, _, by rw [HE.out], .inr ⟨HE.out, ?_, HNL.out.1.symm, HNL.out.2.symm, ?_, ?_⟩⟩, hB9.trans (HK.out.below hB9.size (fun q e => by omega))⟩
              · rw [HS.out]
              · rw [HNL.out.1, HS.out]; exact ((HK.out.row HE3.out.1 (fun g hg e => by have hgk := own_blk hg; omega)).mono (by omega))
              · rw [HNL.out.2, HS.out]; exact ((HK.out.row HE3.out.2.1 (fun g hg e => by have hgk := own_blk hg; omega)).mono (by omega))
            · have hq5 : (n == 1) = false := by rw [beq_eq_false_iff_ne]; exact hcs
              have HS := Lib.hid (show stepS s (i : Int) false = ⟨s.now + 1, s.ns.set i (n - 1), s.os⟩ by
                unfold stepS
                simp only [Bool.false_eq_true, if_false, Int.toNat_natCast]
                rw [show s.ns.getD i 0 = n from HN.out.symm, if_neg hcs])
              have HNL := Lib.hid (show (stepS s (i : Int) false).ns.length = s.ns.length ∧ (stepS s (i : Int) false).os.length = s.os.length from stepS_len s i false)
              clear hcs
              go_upto_region 17 with fail
              clear y0 y1 y2 x0 x1
              obtain ⟨y0, y1, y2⟩ := HE2.out.2.2.1.cells
              have HZR := Lib.hid (show RBox we (z0 + 1 + 1) 0 (.slice none 0 0) (.slice none 0 0) from HW1.out.2.2.1.below HE2.out.2.2.2)
              obtain ⟨f0, f1, f2⟩ := HZR.out.cells
              have m0 := HZR.out.marks 0
              have m1 := HZR.out.marks 1
              have m2 := HZR.out.marks 2
              have HP := Lib.hid (HZR.out.put (s.now + 1) (.slice (some ⟨g1, 0, none⟩) s.ns.length r1) (.slice (some ⟨g2, 0, none⟩) s.os.length r2))
              have HK := Lib.hid (RBox.putK we (z0 + 1 + 1) (s.now + 1) (.slice (some ⟨g1, 0, none⟩) s.ns.length r1) (.slice (some ⟨g2, 0, none⟩) s.os.length r2))
              obtain ⟨w9, hw9⟩ : ∃ X : World, X = (((we.setCell ⟨z0 + 1 + 1, 0, none⟩ (.int .i64 (s.now + 1))).setCell ⟨z0 + 1 + 1, 1, none⟩ (.slice (some ⟨g1, 0, none⟩) s.ns.length r1)).setCell ⟨z0 + 1 + 1, 2, none⟩ (.slice (some ⟨g2, 0, none⟩) s.os.length r2)) := ⟨_, rfl⟩
              rw [← hw9] at HP HK
              have HW9 := Lib.hid hw9
              clear hw9
              go_wp2
              rw [← HW9.out]
              have hgl := HL2.out
              have hzz := HZ0.out
              have hB9 : Below W.heap.size W we := HW1.out.2.2.2.trans (HE2.out.2.2.2.mono HW1.out.2.2.2.size)
              refine bodyPost_ret (v := .tuple #[.agg #[.int .i64 (s.now + 1), .slice (some ⟨g1, 0, none⟩) s.ns.length r1, .slice (some ⟨g2, 0, none⟩) s.os.length r2], .int .i64 0]) (HP.out.result2 rfl _ rfl rfl) rfl ⟨⟨_, _, _, _, _, _, _, by rw [HE.out], .inr ⟨HE.out, ?_, HNL.out.1.symm, HNL.out.2.symm, ?_, ?_⟩⟩, hB9.trans (HK.out.below hB9.size (fun q e => by omega))⟩
              · rw [HS.out]
              · rw [HNL.out.1, HS.out]; exact ((HK.out.row HE2.out.1 (fun g hg e => by have hgk := own_blk hg; omega)).mono (by omega))
              · rw [HNL.out.2, HS.out]; exact ((HK.out.row HE2.out.2.1 (fun g hg e => by have hgk := own_blk hg; omega)).mono (by omega))
  · have hh' : hasB s.ns.length cpu = false := by cases h : hasB s.ns.length cpu <;> simp_all
    have hE : stepE s cpu en = 2 := by unfold stepE; rw [if_pos hh']
    have hcc : cpu < 0 ∨ (0 ≤ cpu ∧ (s.ns.length : Int) ≤ cpu) := by unfold hasB at hh'; simp only [Bool.and_eq_false_iff, decide_eq_false_iff_not] at hh'; omega
    clear hh hh'
    go_enter Try.func70, Try.ntmps70
    go_upto_region 1 with fail
    rw [← hw1, ← hz0]
    clear hw1 hz0
    rcases hcc with hc | ⟨hc, hc2⟩
    · have HZX := Lib.hid HW1.out.2.2.1
      obtain ⟨f0, f1, f2⟩ := HZX.out.cells
      have m0 := HZX.out.marks 0
      have m1 := HZX.out.marks 1
      have m2 := HZX.out.marks 2
      have HP := Lib.hid (HZX.out.put 0 (.slice none 0 0) (.slice none 0 0))
      have HK := Lib.hid (RBox.putK w1 (z0 + 1 + 1) 0 (.slice none 0 0) (.slice none 0 0))
      obtain ⟨w3, hw3⟩ : ∃ X : World, X = (((w1.setCell ⟨z0 + 1 + 1, 0, none⟩ (.int .i64 0)).setCell ⟨z0 + 1 + 1, 1, none⟩ (.slice none 0 0)).setCell ⟨z0 + 1 + 1, 2, none⟩ (.slice none 0 0)) := ⟨_, rfl⟩
      rw [← hw3] at HP HK
      have HW3 := Lib.hid hw3
      have HEN := Lib.hid (show _ = (2 : Int) from hE)
      clear hw3 hE
      clear e0 e1 e2
      go_wp2
      rw [← HW3.out]
      exact bodyPost_ret (v := .tuple #[zeroR, .int .i64 2]) (HP.out.result2 rfl _ rfl rfl) rfl ⟨⟨0, none, 0, 0, none, 0, 0, by rw [HEN.out]; rfl, .inl ⟨by rw [HEN.out]; decide, rfl, ⟨rfl, rfl, rfl⟩, ⟨rfl, rfl, rfl⟩⟩⟩, HW1.out.2.2.2.trans (HK.out.below HW1.out.2.2.2.size (fun k e => by have := HZ0.out; omega))⟩
    · have HZX := Lib.hid HW1.out.2.2.1
      obtain ⟨f0, f1, f2⟩ := HZX.out.cells
      have m0 := HZX.out.marks 0
      have m1 := HZX.out.marks 1
      have m2 := HZX.out.marks 2
      have HP := Lib.hid (HZX.out.put 0 (.slice none 0 0) (.slice none 0 0))
      have HK := Lib.hid (RBox.putK w1 (z0 + 1 + 1) 0 (.slice none 0 0) (.slice none 0 0))
      obtain ⟨w3, hw3⟩ : ∃ X : World, X = (((w1.setCell ⟨z0 + 1 + 1, 0, none⟩ (.int .i64 0)).setCell ⟨z0 + 1 + 1, 1, none⟩ (.slice none 0 0)).setCell ⟨z0 + 1 + 1, 2, none⟩ (.slice none 0 0)) := ⟨_, rfl⟩
      rw [← hw3] at HP HK
      have HW3 := Lib.hid hw3
      have HEN := Lib.hid (show _ = (2 : Int) from hE)
      clear hw3 hE

      go_wp2
      rw [← HW3.out]
      exact bodyPost_ret (v := .tuple #[zeroR, .int .i64 2]) (HP.out.result2 rfl _ rfl rfl) rfl ⟨⟨0, none, 0, 0, none, 0, 0, by rw [HEN.out]; rfl, .inl ⟨by rw [HEN.out]; decide, rfl, ⟨rfl, rfl, rfl⟩, ⟨rfl, rfl, rfl⟩⟩⟩, HW1.out.2.2.2.trans (HK.out.below HW1.out.2.2.2.size (fun k e => by have := HZ0.out; omega))⟩

end Go.Proofs.Ytdmcijfjnegcgaa
