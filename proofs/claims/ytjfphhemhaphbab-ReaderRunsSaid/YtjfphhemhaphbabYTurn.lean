/-
  Package reader: the steps that a turn makes.
  Conditions: the ranges of Go's types.
-/
import Derived.Test.YtjfphhemhaphbabYOwn
import Derived.RegionTactic
namespace Go.Proofs.Ytjfphhemhaphbab
set_option maxRecDepth 100000
open Go.RowKit Go.Shelf
attribute [local go_sem] Oper.semAt_some

/-- The error of a step; 0: none. -/
def stepE (s : RdS) (c : Int) (en : Bool) : Int :=
  if hasB s.ns.length c = false then 2 else if s.now = 2147483647 ∨ (en = true ∧ s.ns.getD c.toNat 0 = 8) then 6 else if en = false ∧ s.ns.getD c.toNat 0 = 0 then 4 else 0
/-- Readers behind a step. -/
def stepS (s : RdS) (c : Int) (en : Bool) : RdS :=
  if en = true then ⟨s.now + 1, s.ns.set c.toNat (s.ns.getD c.toNat 0 + 1), if s.ns.getD c.toNat 0 = 0 then s.os.set c.toNat (s.now + 1) else s.os⟩
  else ⟨s.now + 1, s.ns.set c.toNat (s.ns.getD c.toNat 0 - 1), if s.ns.getD c.toNat 0 = 1 then s.os.set c.toNat 0 else s.os⟩

/-- Readers that make steps, in memory. -/
structure TurnAt (W : World) (z g h : Nat) (s : RdS) : Prop where
  box : W.heap[z]? = some (.cells #[.int .i64 s.now, .slice (some ⟨g, 0, none⟩) s.ns.length s.ns.length, .slice (some ⟨h, 0, none⟩) s.os.length s.os.length] 49 (0, 0))
  nest : IBlock W g s.ns
  opened : IBlock W h s.os
  apart : g ≠ h
theorem TurnAt.below {W W' : World} {z g h : Nat} {s : RdS} (k : TurnAt W z g h s) (hb : Below W.heap.size W W') : TurnAt W' z g h s :=
  ⟨(hb.block z (Array.getElem?_eq_some_iff.1 k.box).1).trans k.box, k.nest.below hb, k.opened.below hb, k.apart⟩
theorem TurnAt.zg {W : World} {z g h : Nat} {s : RdS} (k : TurnAt W z g h s) : z ≠ g := fun e => by
  have h1 := k.box; have h2 := k.nest; unfold IBlock at h2; rw [e, h2] at h1; injection h1 with h1; injection h1 with _ h1 _; revert h1; decide
theorem TurnAt.zh {W : World} {z g h : Nat} {s : RdS} (k : TurnAt W z g h s) : z ≠ h := fun e => by
  have h1 := k.box; have h2 := k.opened; unfold IBlock at h2; rw [e, h2] at h1; injection h1 with h1; injection h1 with _ h1 _; revert h1; decide
theorem TurnAt.cells {W : World} {z g h : Nat} {s : RdS} (k : TurnAt W z g h s) : W.cell? ⟨z, 0, none⟩ = some (.int .i64 s.now) ∧ W.cell? ⟨z, 1, none⟩ = some (.slice (some ⟨g, 0, none⟩) s.ns.length s.ns.length) ∧ W.cell? ⟨z, 2, none⟩ = some (.slice (some ⟨h, 0, none⟩) s.os.length s.os.length) := by
  have h' := k.box
  simp [World.cell?, h']
theorem TurnAt.mark {W : World} {z g h : Nat} {s : RdS} (k : TurnAt W z g h s) (i : Nat) : W.frozen? ⟨z, i, none⟩ = false := by
  have h' := k.box
  simp [World.frozen?, h']

theorem TurnAt.setNow {W : World} {z g h : Nat} {s : RdS} (k : TurnAt W z g h s) (x : Int) : TurnAt (W.setCell ⟨z, 0, none⟩ (.int .i64 x)) z g h ⟨x, s.ns, s.os⟩ := by
  have hk : Keeps (fun b => b = z) W (W.setCell ⟨z, 0, none⟩ (.int .i64 x)) := Keeps.setCell W (S := (· = z)) (p := ⟨z, 0, none⟩) rfl _
  refine ⟨?_, k.nest.keeps hk (fun e => k.zg e.symm), k.opened.keeps hk (fun e => k.zh e.symm), k.apart⟩
  rw [heap_setCell_same W z 0 _ _ _ k.box]
  rfl
theorem TurnAt.setNest {W : World} {z g h : Nat} {s : RdS} (k : TurnAt W z g h s) (i : Nat) (x : Int) : TurnAt (W.setCell ⟨g, i, none⟩ (.int .i64 x)) z g h ⟨s.now, s.ns.set i x, s.os⟩ := by
  have hk : Keeps (fun b => b = g) W (W.setCell ⟨g, i, none⟩ (.int .i64 x)) := Keeps.setCell W (S := (· = g)) (p := ⟨g, i, none⟩) rfl _
  refine ⟨?_, block_set k.nest i x, k.opened.keeps hk (fun e => k.apart e.symm), k.apart⟩
  simp only [List.length_set]
  exact (hk.block z (Array.getElem?_eq_some_iff.1 k.box).1 k.zg).trans k.box
theorem TurnAt.setOpened {W : World} {z g h : Nat} {s : RdS} (k : TurnAt W z g h s) (i : Nat) (x : Int) : TurnAt (W.setCell ⟨h, i, none⟩ (.int .i64 x)) z g h ⟨s.now, s.ns, s.os.set i x⟩ := by
  have hk : Keeps (fun b => b = h) W (W.setCell ⟨h, i, none⟩ (.int .i64 x)) := Keeps.setCell W (S := (· = h)) (p := ⟨h, i, none⟩) rfl _
  refine ⟨?_, k.nest.keeps hk k.apart, block_set k.opened i x, k.apart⟩
  simp only [List.length_set]
  exact (hk.block z (Array.getElem?_eq_some_iff.1 k.box).1 k.zh).trans k.box
theorem TurnAt.drewN {W : World} {z g h : Nat} {s : RdS} (k : TurnAt W z g h s) (n : Nat) : TurnAt (W.drewN n) z g h s := ⟨k.box, k.nest, k.opened, k.apart⟩
theorem TurnAt.alike {W W' : World} {z g h : Nat} {s : RdS} (k : TurnAt W z g h s) (hw : W'.heap = W.heap) : TurnAt W' z g h s := ⟨by rw [hw]; exact k.box, by unfold IBlock; rw [hw]; exact k.nest, by unfold IBlock; rw [hw]; exact k.opened, k.apart⟩

set_option maxHeartbeats 4000000 in
theorem enter_c (z g h : Nat) (s : RdS) (c : Int) (W : World) (k : TurnAt W z g h s) (hl : s.os.length = s.ns.length) (h8 : s.ns.length ≤ 8) (hnow : 0 ≤ s.now ∧ s.now ≤ 2147483647) (hr : ∀ x ∈ s.ns, 0 ≤ x ∧ x ≤ 8) :
    Calls Try.prog 25 #[.pointer (some ⟨z, 0, none⟩), .int .i64 c] W fun e w' => e = .returned (.int .i64 (stepE s c true)) ∧ Keeps (fun b => b = z ∨ b = g ∨ b = h) W w' ∧ (stepE s c true = 0 → TurnAt w' z g h (stepS s c true)) := by
  obtain ⟨now, ns, os⟩ := s
  simp only at hl h8 hnow hr
  have HC := Lib.hid (fun (Z : World) => has_c now c (some ⟨g, 0, none⟩) ns.length ns.length (.slice (some ⟨h, 0, none⟩) os.length os.length) Z)
  have HLL := Lib.hid hl
  clear hl
  obtain ⟨d0, d1, d2⟩ := k.cells
  simp only at d0 d1 d2
  by_cases hh : hasB ns.length c = true
  · have HK := Lib.hid k
    obtain ⟨i, rfl⟩ : ∃ i : Nat, c = (i : Int) := by unfold hasB at hh; simp only [Bool.and_eq_true, decide_eq_true_eq] at hh; exact Int.eq_ofNat_of_zero_le hh.1
    have hi : i < ns.length := by unfold hasB at hh; simp only [Bool.and_eq_true, decide_eq_true_eq] at hh; omega
    rw [hh] at HC
    have HH := Lib.hid hh
    have hx := k.nest.cell i hi
    simp only at hx
    obtain ⟨n, hn⟩ : ∃ n, n = ns[i] := ⟨_, rfl⟩
    have HD := Lib.hid (show ns.getD i 0 = n by rw [List.getD_eq_getElem?_getD, List.getElem?_eq_getElem hi, hn]; rfl)
    have hnr := hr n (by rw [hn]; exact List.getElem_mem hi)
    rw [← hn] at hx
    have hi0 : (0 : Int) ≤ (i : Int) := by omega
    have hil : (i : Int) < (ns.length : Int) := by omega
    clear hh k hr hn
    by_cases c1 : now = 2147483647
    · have hE : stepE ⟨now, ns, os⟩ (i : Int) true = 6 := by unfold stepE; simp only; rw [HH.out, if_neg (by simp), if_pos (.inl c1)]
      rw [hE]
      have hq : (now == 2147483647) = true := by rw [c1]; rfl
      clear hE c1
      go_enter Try.func25, Try.ntmps25
      go_wp2_with fail
      (with_reducible refine (HC.out W).mono ?_)
      rintro e w1 ⟨rfl, hb1⟩
      have HB := Lib.hid (Keeps.of_below (S := fun b => b = z ∨ b = g ∨ b = h) hb1)
      obtain ⟨e0, e1, e2⟩ := (HK.out.below hb1).cells
      clear hb1
      go_wp2
      go_ret
      exact ⟨rfl, HB.out, fun h => by cases h⟩
    · have hq : (now == 2147483647) = false := by rw [beq_eq_false_iff_ne]; exact c1
      by_cases c2 : n = 8
      · have hE : stepE ⟨now, ns, os⟩ (i : Int) true = 6 := by unfold stepE; simp only; rw [HH.out, if_neg (by simp), if_pos (.inr ⟨trivial, by rw [Int.toNat_natCast, HD.out, c2]⟩)]
        rw [hE]
        have hq2 : (n == 8) = true := by rw [c2]; rfl
        clear hE c1 c2
        go_enter Try.func25, Try.ntmps25
        go_wp2_with fail
        (with_reducible refine (HC.out W).mono ?_)
        rintro e w1 ⟨rfl, hb1⟩
        have HB := Lib.hid (Keeps.of_below (S := fun b => b = z ∨ b = g ∨ b = h) hb1)
        obtain ⟨e0, e1, e2⟩ := (HK.out.below hb1).cells
        have hx1 := below_cell hb1 hx
        clear hb1
        go_wp2
        go_ret
        exact ⟨rfl, HB.out, fun h => by cases h⟩
      · have hE : stepE ⟨now, ns, os⟩ (i : Int) true = 0 := by
          unfold stepE; simp only; rw [HH.out, if_neg (by simp), if_neg (by rintro (h | ⟨_, h⟩); exact c1 h; rw [Int.toNat_natCast, HD.out] at h; exact c2 h), if_neg (by simp)]
        rw [hE]
        have hq2 : (n == 8) = false := by rw [beq_eq_false_iff_ne]; exact c2
        have hnow1 : now < 2147483647 := by omega
        clear hE c1 c2
        go_enter Try.func25, Try.ntmps25
        go_wp2_with fail
        (with_reducible refine (HC.out W).mono ?_)
        rintro e w1 ⟨rfl, hb1⟩
        have HB := Lib.hid (Keeps.of_below (S := fun b => b = z ∨ b = g ∨ b = h) hb1)
        have k1 := HK.out.below hb1
        obtain ⟨e0, e1, e2⟩ := k1.cells
        have f0 := k1.mark 0
        have hx1 := below_cell hb1 hx
        have K2 := Lib.hid (k1.setNow (now + 1))
        obtain ⟨w2, hw2⟩ : ∃ X : World, X = w1.setCell ⟨z, 0, none⟩ (.int .i64 (now + 1)) := ⟨_, rfl⟩
        have HB2 := Lib.hid (show Keeps (fun b => b = z ∨ b = g ∨ b = h) W w2 by rw [hw2]; exact HB.out.trans (Keeps.setCell w1 (p := ⟨z, 0, none⟩) (.inl rfl) _))
        rw [← hw2] at K2
        have HW2 := Lib.hid hw2
        have hiO : i < os.length := by rw [HLL.out]; exact hi
        clear hb1 hw2 k1 HB
        go_upto_region 6 with fail
        rw [← HW2.out]
        clear e0 e1 e2 f0 hx1 HW2 hx d0 d1 d2
        obtain ⟨e0, e1, e2⟩ := K2.out.cells
        have hx2 := K2.out.nest.cell i hi
        simp only at e0 e1 e2 hx2
        rw [show ns[i] = n by have := HD.out; rwa [List.getD_eq_getElem?_getD, List.getElem?_eq_getElem hi] at this] at hx2
        by_cases c3 : n = 0
        · have hq3 : (n == 0) = true := by rw [c3]; rfl
          subst c3
          have hy2 := K2.out.opened.cell i hiO
          have f2 := K2.out.opened.free i
          simp only at hy2
          have hiL : (i : Int) < (os.length : Int) := by omega
          have HST := Lib.hid (show stepS ⟨now, ns, os⟩ (i : Int) true = ⟨now + 1, ns.set i (0 + 1), os.set i (now + 1)⟩ by unfold stepS; simp only [if_true, Int.toNat_natCast]; rw [HD.out, if_pos rfl])
          have K3 := Lib.hid (show TurnAt (w2.setCell ⟨h, i, none⟩ (.int .i64 (now + 1))).drew z g h ⟨now + 1, ns, os.set i (now + 1)⟩ from (K2.out.setOpened i (now + 1)).alike rfl)
          have HB3 := Lib.hid (show Keeps (fun b => b = z ∨ b = g ∨ b = h) W (w2.setCell ⟨h, i, none⟩ (.int .i64 (now + 1))).drew from (HB2.out.trans (Keeps.setCell w2 (S := fun b => b = z ∨ b = g ∨ b = h) (p := ⟨h, i, none⟩) (.inr (.inr rfl)) (.int .i64 (now + 1)))).drewN 1)
          obtain ⟨w3, hw3⟩ : ∃ X : World, X = (w2.setCell ⟨h, i, none⟩ (.int .i64 (now + 1))).drew := ⟨_, rfl⟩
          rw [← hw3] at K3 HB3
          have HW3 := Lib.hid hw3
          clear hw3 K2 HB2
          go_wp2
          go_region
          rw [← HW3.out]
          clear e0 e1 e2 hx2 hy2 f2 HW3
          obtain ⟨e0, e1, e2⟩ := K3.out.cells
          have hx2 := K3.out.nest.cell i hi
          simp only at e0 e1 e2 hx2
          rw [show ns[i] = 0 by have := HD.out; rwa [List.getD_eq_getElem?_getD, List.getElem?_eq_getElem hi] at this] at hx2
          have f2 := K3.out.nest.free i
          have K4 := Lib.hid (K3.out.setNest i (0 + 1))
          have HB4 := Lib.hid (HB3.out.trans (Keeps.setCell w3 (S := fun b => b = z ∨ b = g ∨ b = h) (p := ⟨g, i, none⟩) (.inr (.inl rfl)) (.int .i64 (0 + 1))))
          clear K3 HB3
          go_wp2
          go_ret
          exact ⟨rfl, HB4.out, by rw [HST.out]; exact K4.out⟩
        · have hq3 : (n == 0) = false := by rw [beq_eq_false_iff_ne]; exact c3
          have K3 := Lib.hid (K2.out.setNest i (n + 1))
          have HB3 := Lib.hid (HB2.out.trans (Keeps.setCell w2 (S := fun b => b = z ∨ b = g ∨ b = h) (p := ⟨g, i, none⟩) (.inr (.inl rfl)) (.int .i64 (n + 1))))
          have f2 := K2.out.nest.free i
          have HST := Lib.hid (show stepS ⟨now, ns, os⟩ (i : Int) true = ⟨now + 1, ns.set i (n + 1), os⟩ by unfold stepS; simp only [if_true, Int.toNat_natCast]; rw [HD.out, if_neg c3])
          clear c3 K2 HB2
          go_wp2
          go_ret
          exact ⟨rfl, HB3.out, by rw [HST.out]; exact K3.out⟩
  · have hh' : hasB ns.length c = false := by cases h : hasB ns.length c <;> simp_all
    have hE : stepE ⟨now, ns, os⟩ c true = 2 := by unfold stepE; rw [if_pos hh']
    rw [hE]
    rw [hh'] at HC
    clear hh hh' hE k
    go_enter Try.func25, Try.ntmps25
    go_wp2_with fail
    (with_reducible refine (HC.out W).mono ?_)
    rintro e w1 ⟨rfl, hb1⟩
    have HB := Lib.hid (Keeps.of_below (S := fun b => b = z ∨ b = g ∨ b = h) hb1)
    clear hb1
    go_wp2
    go_ret
    exact ⟨rfl, HB.out, fun h => by cases h⟩

end Go.Proofs.Ytjfphhemhaphbab
