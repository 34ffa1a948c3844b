/-
  ScriptOf returns true for every two scripts, and row of picks; what was in memory stays.
  Conditions: the scripts and the picks lie so; the package's table of parts is as it was laid.
-/
import Derived.Test.YtjgdkfgcfningaaDoorSRefWords
import Derived.Test.YtjgdkfgcfningaaDoorSRefSame
import Derived.Test.YtjgdkfgcfningaaDoorSRefRead
import Derived.Test.YtjgdkfgcfningaaDoorSEqP
import Derived.Test.YtjgdkfgcfningaaDoorSWord2
namespace Go.Proofs.YtjgdkfgcfningaaDoor
open Go.RowKit Go.Shelf
attribute [local go_sem] Oper.semAt_some

theorem SAt.parts {w : World} {c g : Int} {p : Option Addr} {n cp : Nat} {q : Option Addr} {m d : Nat} {s : SM} (h : SAt w (.agg #[.int .i64 c, .int .i64 g, .slice p n cp, .slice q m d]) s) : LRow w p n cp s.ls ∧ RI w q m d s.ps := by
  obtain ⟨p', n', c', q', m', d', e, h1, h2⟩ := h
  simp at e
  obtain ⟨-, -, ⟨rfl, rfl, rfl⟩, rfl, rfl, rfl⟩ := e
  exact ⟨h1, h2⟩
theorem keeps4 (X : World) (o : Nat) (v0 v1 v2 v3 : Value) : Keeps (fun q => q = o) X ((((X.setCell ⟨o, 0, none⟩ v0).setCell ⟨o, 1, none⟩ v1).setCell ⟨o, 2, none⟩ v2).setCell ⟨o, 3, none⟩ v3) := by
  have k0 : ∀ (X : World) (i : Nat) (v : Value), Keeps (fun q => q = o) X (X.setCell ⟨o, i, none⟩ v) := fun X i v => Keeps.setCell X (S := fun q => q = o) (p := ⟨o, i, none⟩) rfl v
  exact ((k0 _ 0 v0).trans (k0 _ 1 v1)).trans ((k0 _ 2 v2).trans (k0 _ 3 v3))
theorem few_lens {s : SM} (h : Few s) : ∀ n ∈ s.ls.map List.length, n ≤ 1099511627776 := fun n hn => by
  obtain ⟨l, hl, rfl⟩ := List.mem_map.1 hn
  exact h.calls l hl

set_option maxRecDepth 100000 in
set_option maxHeartbeats 16000000 in
theorem scriptOf_walk (vx vy : Value) (s s1 : SM) (pp : Option Addr) (np dp : Nat) (ps : List Int) (W : World) (hx : SAt W vx s) (hy : SAt W vy s1) (hp : RI W pp np dp ps) (hnp : np ≤ 9223372036854775807) (hT : Tab W)
    (hll : ∀ l ∈ s.ls, l.length ≤ 9223372036854775807) (hln : s.ls.length ≤ 9223372036854775807) (hpn : s.ps.length ≤ 9223372036854775807)
    (hll1 : ∀ l ∈ s1.ls, l.length ≤ 9223372036854775807) (hln1 : s1.ls.length ≤ 9223372036854775807) (hpn1 : s1.ps.length ≤ 9223372036854775807) :
    Calls Tryd.prog 3 #[vx, vy, .slice pp np dp] W fun e w' => e = .returned (.bool true) ∧ Below W.heap.size W w' := by
  obtain ⟨k8, hk8⟩ : ∃ k, k = min np 1000 := ⟨_, rfl⟩
  have hkn : k8 ≤ np := by omega
  have hk2 : k8 ≤ 1000 := by omega
  have hm : ∀ w, (Builtin.min_ #[3, 3] 3 #[.int .i64 (np : Int), .int .i64 1000]).run Tryd.prog w = .ok (.int .i64 (k8 : Int)) w := run_minI np k8 1000 hk8
  have hcutI := run_cutI pp np dp k8 (Nat.le_trans hkn hp.room)
  obtain ⟨xs, hxs⟩ : ∃ l, l = ps.take k8 := ⟨_, rfl⟩
  have HPP := Lib.hid (hp.take k8 hkn)
  rw [← hxs] at HPP
  have HXL := Lib.hid (show xs.length ≤ 4294967296 by rw [hxs, List.length_take]; omega)
  have OWX := Lib.hid (fun Z (hb : Below W.heap.size W Z) => own_o vx s Z (hx.below hb) hll hln hpn)
  have OWY := Lib.hid (fun Z (hb : Below W.heap.size W Z) => own_o vy s1 Z (hy.below hb) hll1 hln1 hpn1)
  have HTT := Lib.hid hT
  obtain ⟨p, n, cp, q, m, d, rfl, -, -⟩ := hx
  obtain ⟨p1, n1, cp1, q1, m1, d1, rfl, -, -⟩ := hy
  obtain ⟨y, hy⟩ : ∃ y, y = W.heap.size := ⟨_, rfl⟩
  obtain ⟨w0, hw0⟩ : ∃ X : World, X = (W.alloc (.cells #[.int .i64 s.c, .int .i64 s.g, .slice p n cp, .slice q m d] 25)).alloc (.cells #[.int .i64 s1.c, .int .i64 s1.g, .slice p1 n1 cp1, .slice q1 m1 d1] 25) := ⟨_, rfl⟩
  have hb0 : Below W.heap.size W w0 := by rw [hw0]; exact ((Below.refl _ _).alloc (Nat.le_refl _) _).alloc (by simp) _
  have hbx : SBlk w0 y s.c s.g p n cp q m d := by rw [hw0, hy]; exact (SBlk.new _ _ _ _ _ _ _ _ _).below ((Below.refl _ _).alloc (Nat.le_refl _) _)
  have hby : SBlk w0 (y + 1) s1.c s1.g p1 n1 cp1 q1 m1 d1 := by
    have := SBlk.new (W.alloc (.cells #[.int .i64 s.c, .int .i64 s.g, .slice p n cp, .slice q m d] 25)) s1.c s1.g p1 n1 cp1 q1 m1 d1
    rw [World.size_alloc] at this
    rw [hw0, hy]; exact this
  have HWK := Lib.hid (wakes_c w0 (hT.below hb0))
  have HE := Lib.hid (And.intro hw0 hy)
  have HB0 := Lib.hid hb0
  have HBX0 := Lib.hid hbx
  have HBY0 := Lib.hid hby
  clear hp hT hk8 hxs hll hln hpn hll1 hln1 hpn1 hw0 hy hb0 hbx hby
  go_enter Tryd.func3, Tryd.ntmps3
  go_upto_region 1 with (fail)
  rw [← HE.out.1, ← HE.out.2]
  go_wp2_with fail
  refine HWK.out.mono ?_
  rintro e w1 ⟨rfl, hb1⟩
  have HB1 := Lib.hid (below_then HB0.out HB0.out.size hb1)
  have HBX := Lib.hid (HBX0.out.below hb1)
  have HBY := Lib.hid (HBY0.out.below hb1)
  clear hb1 HWK HBX0 HBY0 HB0 HE
  go_upto_region 3 with (fail)
  go_cut [7, 8] (fun v7 v8 wc => ∃ (y4 y5 : Nat), v7 = .pointer (some ⟨y4, 0, none⟩) ∧ v8 = .pointer (some ⟨y5, 0, none⟩) ∧ ∃ (pa : Option Addr) (ca : Nat) (qa : Option Addr) (ma da : Nat) (pb : Option Addr) (cb : Nat) (qb : Option Addr) (mb db : Nat),
    Hid (SBlk wc y s.c s.g p n cp q m d ∧ SBlk wc (y + 1) s1.c s1.g p1 n1 cp1 q1 m1 d1 ∧ SBlk wc y4 (ownS s).c (ownS s).g pa (ownS s).ls.length ca qa ma da ∧ SBlk wc y5 (ownS s1).c (ownS s1).g pb (ownS s1).ls.length cb qb mb db ∧
      SAt wc (.agg #[.int .i64 (ownS s).c, .int .i64 (ownS s).g, .slice pa (ownS s).ls.length ca, .slice qa ma da]) (ownS s) ∧ SAt wc (.agg #[.int .i64 (ownS s1).c, .int .i64 (ownS s1).g, .slice pb (ownS s1).ls.length cb, .slice qb mb db]) (ownS s1) ∧ Below W.heap.size W wc))
  case first =>
    refine wpTwo_begin (T := fun w' => SBlk w' y s.c s.g p n cp q m d ∧ SBlk w' (y + 1) s1.c s1.g p1 n1 cp1 q1 m1 d1) (S := fun _ => True) (late := fun _ => false) (by kernel_rfl) ?_
    obtain ⟨X0, hX0⟩ : ∃ X : World, X = w1.drew := ⟨_, rfl⟩
    rw [← hX0]
    have hbX : Below w1.heap.size w1 X0 := by rw [hX0]; exact (Below.refl _ _).drew
    have hT0 := And.intro (HBX.out.below hbX) (HBY.out.below hbX)
    have HB0 := Lib.hid (below_then HB1.out HB1.out.size hbX)
    have hs0 := HB0.out.size
    clear hX0 hbX
    refine wpTwo_takeT (i := 0) (v := .agg #[.int .i64 s.c, .int .i64 s.g, .slice p n cp, .slice q m d]) rfl (by kernel_rfl) (by kernel_rfl) (by kernel_rfl) (fun _ _ _ h => h) ⟨by rfl, ?_⟩ hT0 ?_
    · intro w hTw
      obtain ⟨t0, t1, t2, t3⟩ := SBlk.cells hTw.1
      go_simp
    (try simp only [Act.put, List.getElem_toArray, List.getElem_cons_zero, List.setIfInBounds_toArray, List.set_cons_succ, List.set_cons_zero])
    refine wpTwo_takeT (i := 2) (v := .agg #[.int .i64 s1.c, .int .i64 s1.g, .slice p1 n1 cp1, .slice q1 m1 d1]) rfl (by kernel_rfl) (by kernel_rfl) (by kernel_rfl) (fun _ _ _ h => h) ⟨by rfl, ?_⟩ hT0 ?_
    · intro w hTw
      obtain ⟨t0, t1, t2, t3⟩ := SBlk.cells hTw.2
      go_simp
    (try simp only [Act.put, List.getElem_toArray, List.getElem_cons_succ, List.getElem_cons_zero, List.setIfInBounds_toArray, List.set_cons_succ, List.set_cons_zero])
    refine wpTwo_ready (rs := [1, 4, 5]) (by kernel_rfl) (by simp) ?_
    refine (AllTwo.cons rfl (fun K hK => ?_) (AllTwo.cons rfl (fun K hK => ?_) (AllTwo.cons rfl (fun K hK => ?_) AllTwo.nil)))
    · go_simp
      refine (OWX.out X0 HB0.out).mono ?_
      rintro e X1 ⟨⟨vA, rfl, hOA⟩, hb⟩
      have hT1 := And.intro (hT0.1.below hb) (hT0.2.below hb)
      have HB1 := Lib.hid (below_then HB0.out hs0 hb)
      have hs1 := HB1.out.size
      have HOA1 := Lib.hid hOA
      clear hb hOA
      go_wp2_with fail
      refine hK.out _ _ ⟨hT1, fun _ _ => trivial⟩ ?_
      clear hK K
      (try simp only [Act.put, List.getElem_toArray, List.getElem_cons_succ, List.getElem_cons_zero, List.setIfInBounds_toArray, List.set_cons_succ, List.set_cons_zero])
      refine wpTwo_ready (rs := [3, 4, 5]) (by kernel_rfl) (by simp) ?_
      refine (AllTwo.cons rfl (fun K hK => ?_) (AllTwo.cons rfl (fun K hK => ?_) (AllTwo.cons rfl (fun K hK => ?_) AllTwo.nil)))
      · go_simp
        refine (OWY.out X1 HB1.out).mono ?_
        rintro e X2 ⟨⟨vB, rfl, hOB⟩, hb⟩
        have hT2 := And.intro (hT1.1.below hb) (hT1.2.below hb)
        have HB2 := Lib.hid (below_then HB1.out hs1 hb)
        have hs2 := HB2.out.size
        have HOB2 := Lib.hid hOB
        have HOA2 := Lib.hid (HOA1.out.below hb)
        clear hb hOB
        go_wp2_with fail
        refine hK.out _ _ ⟨hT2, fun _ _ => trivial⟩ ?_
        clear hK K
        (try simp only [Act.put, List.getElem_toArray, List.getElem_cons_succ, List.getElem_cons_zero, List.setIfInBounds_toArray, List.set_cons_succ, List.set_cons_zero])
        refine wpTwo_ready (rs := [4, 5]) (by kernel_rfl) (by simp) ?_
        refine (AllTwo.cons rfl (fun K hK => ?_) (AllTwo.cons rfl (fun K hK => ?_) AllTwo.nil))
        · go_simp
          obtain ⟨y4, hy4⟩ : ∃ q, q = X2.heap.size := ⟨_, rfl⟩
          obtain ⟨X3, hX⟩ : ∃ X : World, X = X2.alloc (.cells #[.int .i64 0, .int .i64 0, .slice none 0 0, .slice none 0 0] 25) := ⟨_, rfl⟩
          rw [← hX, ← hy4]
          have hb : Below X2.heap.size X2 X3 := by rw [hX]; exact (Below.refl _ _).alloc (Nat.le_refl _) _
          have hz4 : SBlk X3 y4 0 0 none 0 0 none 0 0 := by rw [hX, hy4]; exact SBlk.new _ _ _ _ _ _ _ _ _
          have hT3 := And.intro (hT2.1.below hb) (hT2.2.below hb)
          have HB3 := Lib.hid (below_then HB2.out hs2 hb)
          have hs3 := HB3.out.size
          have HZ43 := Lib.hid hz4
          have hlt4 : W.heap.size ≤ y4 := by rw [hy4]; exact hs2
          have hne4 : y4 ≠ y ∧ y4 ≠ y + 1 := by have h1 := hT2.1.lt; have h2 := hT2.2.lt; omega
          have HOA3 := Lib.hid (HOA2.out.below hb)
          have HOB3 := Lib.hid (HOB2.out.below hb)
          clear hb hX hy4 hz4
          refine hK.out _ _ ⟨hT3, fun _ _ => trivial⟩ ?_
          clear hK K
          (try simp only [Act.put, List.getElem_toArray, List.getElem_cons_succ, List.getElem_cons_zero, List.setIfInBounds_toArray, List.set_cons_succ, List.set_cons_zero])
          refine wpTwo_ready (rs := [5]) (by kernel_rfl) (by simp) ?_
          refine (AllTwo.cons rfl (fun K hK => ?_) AllTwo.nil)
          · go_simp
            obtain ⟨y5, hy5⟩ : ∃ q, q = X3.heap.size := ⟨_, rfl⟩
            obtain ⟨X4, hX⟩ : ∃ X : World, X = X3.alloc (.cells #[.int .i64 0, .int .i64 0, .slice none 0 0, .slice none 0 0] 25) := ⟨_, rfl⟩
            rw [← hX, ← hy5]
            have hb : Below X3.heap.size X3 X4 := by rw [hX]; exact (Below.refl _ _).alloc (Nat.le_refl _) _
            have hz5 : SBlk X4 y5 0 0 none 0 0 none 0 0 := by rw [hX, hy5]; exact SBlk.new _ _ _ _ _ _ _ _ _
            have hT4 := And.intro (hT3.1.below hb) (hT3.2.below hb)
            have HB4 := Lib.hid (below_then HB3.out hs3 hb)
            have hs4 := HB4.out.size
            have HZ54 := Lib.hid hz5
            have hlt5 : W.heap.size ≤ y5 := by rw [hy5]; exact hs3
            have hne5 : y5 ≠ y ∧ y5 ≠ y + 1 := by have h1 := hT3.1.lt; have h2 := hT3.2.lt; omega
            have hne45 : y4 ≠ y5 := by have h1 := HZ43.out.lt; omega
            have HOA4 := Lib.hid (HOA3.out.below hb)
            have HOB4 := Lib.hid (HOB3.out.below hb)
            have HZ44 := Lib.hid (HZ43.out.below hb)
            clear hb hX hy5 hz5
            refine hK.out _ _ ⟨hT4, fun _ _ => trivial⟩ ?_
            clear hK K
            (try simp only [Act.put, List.getElem_toArray, List.getElem_cons_succ, List.getElem_cons_zero, List.setIfInBounds_toArray, List.set_cons_succ, List.set_cons_zero])
            obtain ⟨pa, ca, qa, ma, da, rfl, hla, hpa⟩ := HOA4.out
            obtain ⟨pb, cb, qb, mb, db, rfl, hlb, hpb⟩ := HOB4.out
            clear hla hpa hlb hpb
            refine wpTwo_ready (rs := [6]) (by kernel_rfl) (by simp) ?_
            refine (AllTwo.cons rfl (fun K hK => ?_) AllTwo.nil)
            obtain ⟨⟨g0, g1, g2, g3⟩, gf⟩ := And.intro HZ44.out.cells HZ44.out.free
            have gf0 := gf 0
            have gf1 := gf 1
            have gf2 := gf 2
            have gf3 := gf 3
            obtain ⟨Xa, hXa⟩ : ∃ X : World, X = (((X4.setCell ⟨y4, 0, none⟩ (.int .i64 (ownS s).c)).setCell ⟨y4, 1, none⟩ (.int .i64 (ownS s).g)).setCell ⟨y4, 2, none⟩ (.slice pa (ownS s).ls.length ca)).setCell ⟨y4, 3, none⟩ (.slice qa ma da) := ⟨_, rfl⟩
            have hSA : SBlk Xa y4 (ownS s).c (ownS s).g pa (ownS s).ls.length ca qa ma da := by rw [hXa]; exact (((HZ44.out.set0 _).set1 _).set2 _ _ _).set3 _ _ _
            have hk4 : Keeps (fun q => q = y4) X4 Xa := by rw [hXa]; exact keeps4 X4 y4 _ _ _ _
            have hTa := And.intro (hT4.1.keeps hk4 (fun e => hne4.1 e.symm)) (hT4.2.keeps hk4 (fun e => hne4.2 e.symm))
            have HOAa := Lib.hid (HOA4.out.other HZ44.out hk4)
            have HOBa := Lib.hid (HOB4.out.other HZ44.out hk4)
            have HZ5a := Lib.hid (HZ54.out.keeps hk4 (fun e => hne45 e.symm))
            have HBa := Lib.hid (HB4.out.trans (hk4.below hs4 (fun q hq => by rw [hq]; exact hlt4)))
            go_simp
            rw [← hXa]
            refine hK.out _ _ ⟨hTa, fun _ _ => trivial⟩ ?_
            clear hK K g0 g1 g2 g3 gf gf0 gf1 gf2 gf3 hXa
            (try simp only [Act.put, List.getElem_toArray, List.getElem_cons_succ, List.getElem_cons_zero, List.setIfInBounds_toArray, List.set_cons_succ, List.set_cons_zero])
            refine wpTwo_ready (rs := [7]) (by kernel_rfl) (by simp) ?_
            refine (AllTwo.cons rfl (fun K hK => ?_) AllTwo.nil)
            obtain ⟨⟨g0, g1, g2, g3⟩, gf⟩ := And.intro HZ5a.out.cells HZ5a.out.free
            have gf0 := gf 0
            have gf1 := gf 1
            have gf2 := gf 2
            have gf3 := gf 3
            obtain ⟨Xb, hXb⟩ : ∃ X : World, X = (((Xa.setCell ⟨y5, 0, none⟩ (.int .i64 (ownS s1).c)).setCell ⟨y5, 1, none⟩ (.int .i64 (ownS s1).g)).setCell ⟨y5, 2, none⟩ (.slice pb (ownS s1).ls.length cb)).setCell ⟨y5, 3, none⟩ (.slice qb mb db) := ⟨_, rfl⟩
            have hSB : SBlk Xb y5 (ownS s1).c (ownS s1).g pb (ownS s1).ls.length cb qb mb db := by rw [hXb]; exact (((HZ5a.out.set0 _).set1 _).set2 _ _ _).set3 _ _ _
            have hk5 : Keeps (fun q => q = y5) Xa Xb := by rw [hXb]; exact keeps4 Xa y5 _ _ _ _
            have hTb := And.intro (hTa.1.keeps hk5 (fun e => hne5.1 e.symm)) (hTa.2.keeps hk5 (fun e => hne5.2 e.symm))
            have HOAb := Lib.hid (HOAa.out.other HZ5a.out hk5)
            have HOBb := Lib.hid (HOBa.out.other HZ5a.out hk5)
            have HBb := Lib.hid (HBa.out.trans (hk5.below HBa.out.size (fun q hq => by rw [hq]; exact hlt5)))
            have hSAb := hSA.keeps hk5 (fun e => hne45 e)
            go_simp
            rw [← hXb]
            refine hK.out _ _ ⟨hTb, fun _ _ => trivial⟩ ?_
            clear hK K g0 g1 g2 g3 gf gf0 gf1 gf2 gf3 hXb
            (try simp only [Act.put, List.getElem_toArray, List.getElem_cons_succ, List.getElem_cons_zero, List.setIfInBounds_toArray, List.set_cons_succ, List.set_cons_zero])
            refine wpTwo_end (by kernel_rfl) ?_ _
            go_wp2
            go_meet
            exact ⟨y4, y5, rfl, rfl, pa, ca, qa, ma, da, pb, cb, qb, mb, db, Lib.hid ⟨hTb.1, hTb.2, hSAb, hSB, HOAb.out.sat, HOBb.out.sat, HBb.out⟩⟩
        · go_simp
          obtain ⟨y5, hy5⟩ : ∃ q, q = X2.heap.size := ⟨_, rfl⟩
          obtain ⟨X3, hX⟩ : ∃ X : World, X = X2.alloc (.cells #[.int .i64 0, .int .i64 0, .slice none 0 0, .slice none 0 0] 25) := ⟨_, rfl⟩
          rw [← hX, ← hy5]
          have hb : Below X2.heap.size X2 X3 := by rw [hX]; exact (Below.refl _ _).alloc (Nat.le_refl _) _
          have hz5 : SBlk X3 y5 0 0 none 0 0 none 0 0 := by rw [hX, hy5]; exact SBlk.new _ _ _ _ _ _ _ _ _
          have hT3 := And.intro (hT2.1.below hb) (hT2.2.below hb)
          have HB3 := Lib.hid (below_then HB2.out hs2 hb)
          have hs3 := HB3.out.size
          have HZ53 := Lib.hid hz5
          have hlt5 : W.heap.size ≤ y5 := by rw [hy5]; exact hs2
          have hne5 : y5 ≠ y ∧ y5 ≠ y + 1 := by have h1 := hT2.1.lt; have h2 := hT2.2.lt; omega
          have HOA3 := Lib.hid (HOA2.out.below hb)
          have HOB3 := Lib.hid (HOB2.out.below hb)
          clear hb hX hy5 hz5
          refine hK.out _ _ ⟨hT3, fun _ _ => trivial⟩ ?_
          clear hK K
          (try simp only [Act.put, List.getElem_toArray, List.getElem_cons_succ, List.getElem_cons_zero, List.setIfInBounds_toArray, List.set_cons_succ, List.set_cons_zero])
          refine wpTwo_ready (rs := [4]) (by kernel_rfl) (by simp) ?_
          refine (AllTwo.cons rfl (fun K hK => ?_) AllTwo.nil)
          · go_simp
            obtain ⟨y4, hy4⟩ : ∃ q, q = X3.heap.size := ⟨_, rfl⟩
            obtain ⟨X4, hX⟩ : ∃ X : World, X = X3.alloc (.cells #[.int .i64 0, .int .i64 0, .slice none 0 0, .slice none 0 0] 25) := ⟨_, rfl⟩
            rw [← hX, ← hy4]
            have hb : Below X3.heap.size X3 X4 := by rw [hX]; exact (Below.refl _ _).alloc (Nat.le_refl _) _
            have hz4 : SBlk X4 y4 0 0 none 0 0 none 0 0 := by rw [hX, hy4]; exact SBlk.new _ _ _ _ _ _ _ _ _
            have hT4 := And.intro (hT3.1.below hb) (hT3.2.below hb)
            have HB4 := Lib.hid (below_then HB3.out hs3 hb)
            have hs4 := HB4.out.size
            have HZ44 := Lib.hid hz4
            have hlt4 : W.heap.size ≤ y4 := by rw [hy4]; exact hs3
            have hne4 : y4 ≠ y ∧ y4 ≠ y + 1 := by have h1 := hT3.1.lt; have h2 := hT3.2.lt; omega
            have hne45 : y4 ≠ y5 := by have h1 := HZ53.out.lt; omega
            have HOA4 := Lib.hid (HOA3.out.below hb)
            have HOB4 := Lib.hid (HOB3.out.below hb)
            have HZ54 := Lib.hid (HZ53.out.below hb)
            clear hb hX hy4 hz4
            refine hK.out _ _ ⟨hT4, fun _ _ => trivial⟩ ?_
            clear hK K
            (try simp only [Act.put, List.getElem_toArray, List.getElem_cons_succ, List.getElem_cons_zero, List.setIfInBounds_toArray, List.set_cons_succ, List.set_cons_zero])
            obtain ⟨pa, ca, qa, ma, da, rfl, hla, hpa⟩ := HOA4.out
            obtain ⟨pb, cb, qb, mb, db, rfl, hlb, hpb⟩ := HOB4.out
            clear hla hpa hlb hpb
            refine wpTwo_ready (rs := [6]) (by kernel_rfl) (by simp) ?_
            refine (AllTwo.cons rfl (fun K hK => ?_) AllTwo.nil)
            obtain ⟨⟨g0, g1, g2, g3⟩, gf⟩ := And.intro HZ44.out.cells HZ44.out.free
            have gf0 := gf 0
            have gf1 := gf 1
            have gf2 := gf 2
            have gf3 := gf 3
            obtain ⟨Xa, hXa⟩ : ∃ X : World, X = (((X4.setCell ⟨y4, 0, none⟩ (.int .i64 (ownS s).c)).setCell ⟨y4, 1, none⟩ (.int .i64 (ownS s).g)).setCell ⟨y4, 2, none⟩ (.slice pa (ownS s).ls.length ca)).setCell ⟨y4, 3, none⟩ (.slice qa ma da) := ⟨_, rfl⟩
            have hSA : SBlk Xa y4 (ownS s).c (ownS s).g pa (ownS s).ls.length ca qa ma da := by rw [hXa]; exact (((HZ44.out.set0 _).set1 _).set2 _ _ _).set3 _ _ _
            have hk4 : Keeps (fun q => q = y4) X4 Xa := by rw [hXa]; exact keeps4 X4 y4 _ _ _ _
            have hTa := And.intro (hT4.1.keeps hk4 (fun e => hne4.1 e.symm)) (hT4.2.keeps hk4 (fun e => hne4.2 e.symm))
            have HOAa := Lib.hid (HOA4.out.other HZ44.out hk4)
            have HOBa := Lib.hid (HOB4.out.other HZ44.out hk4)
            have HZ5a := Lib.hid (HZ54.out.keeps hk4 (fun e => hne45 e.symm))
            have HBa := Lib.hid (HB4.out.trans (hk4.below hs4 (fun q hq => by rw [hq]; exact hlt4)))
            go_simp
            rw [← hXa]
            refine hK.out _ _ ⟨hTa, fun _ _ => trivial⟩ ?_
            clear hK K g0 g1 g2 g3 gf gf0 gf1 gf2 gf3 hXa
            (try simp only [Act.put, List.getElem_toArray, List.getElem_cons_succ, List.getElem_cons_zero, List.setIfInBounds_toArray, List.set_cons_succ, List.set_cons_zero])
            refine wpTwo_ready (rs := [7]) (by kernel_rfl) (by simp) ?_
            refine (AllTwo.cons rfl (fun K hK => ?_) AllTwo.nil)
            obtain ⟨⟨g0, g1, g2, g3⟩, gf⟩ := And.intro HZ5a.out.cells HZ5a.out.free
            have gf0 := gf 0
            have gf1 := gf 1
            have gf2 := gf 2
            have gf3 := gf 3
            obtain ⟨Xb, hXb⟩ : ∃ X : World, X = (((Xa.setCell ⟨y5, 0, none⟩ (.int .i64 (ownS s1).c)).setCell ⟨y5, 1, none⟩ (.int .i64 (ownS s1).g)).setCell ⟨y5, 2, none⟩ (.slice pb (ownS s1).ls.length cb)).setCell ⟨y5, 3, none⟩ (.slice qb mb db) := ⟨_, rfl⟩
            have hSB : SBlk Xb y5 (ownS s1).c (ownS s1).g pb (ownS s1).ls.length cb qb mb db := by rw [hXb]; exact (((HZ5a.out.set0 _).set1 _).set2 _ _ _).set3 _ _ _
            have hk5 : Keeps (fun q => q = y5) Xa Xb := by rw [hXb]; exact keeps4 Xa y5 _ _ _ _
            have hTb := And.intro (hTa.1.keeps hk5 (fun e => hne5.1 e.symm)) (hTa.2.keeps hk5 (fun e => hne5.2 e.symm))
            have HOAb := Lib.hid (HOAa.out.other HZ5a.out hk5)
            have HOBb := Lib.hid (HOBa.out.other HZ5a.out hk5)
            have HBb := Lib.hid (HBa.out.trans (hk5.below HBa.out.size (fun q hq => by rw [hq]; exact hlt5)))
            have hSAb := hSA.keeps hk5 (fun e => hne45 e)
            go_simp
            rw [← hXb]
            refine hK.out _ _ ⟨hTb, fun _ _ => trivial⟩ ?_
            clear hK K g0 g1 g2 g3 gf gf0 gf1 gf2 gf3 hXb
            (try simp only [Act.put, List.getElem_toArray, List.getElem_cons_succ, List.getElem_cons_zero, List.setIfInBounds_toArray, List.set_cons_succ, List.set_cons_zero])
            refine wpTwo_end (by kernel_rfl) ?_ _
            go_wp2
            go_meet
            exact ⟨y4, y5, rfl, rfl, pa, ca, qa, ma, da, pb, cb, qb, mb, db, Lib.hid ⟨hTb.1, hTb.2, hSAb, hSB, HOAb.out.sat, HOBb.out.sat, HBb.out⟩⟩
      · go_simp
        obtain ⟨y4, hy4⟩ : ∃ q, q = X1.heap.size := ⟨_, rfl⟩
        obtain ⟨X2, hX⟩ : ∃ X : World, X = X1.alloc (.cells #[.int .i64 0, .int .i64 0, .slice none 0 0, .slice none 0 0] 25) := ⟨_, rfl⟩
        rw [← hX, ← hy4]
        have hb : Below X1.heap.size X1 X2 := by rw [hX]; exact (Below.refl _ _).alloc (Nat.le_refl _) _
        have hz4 : SBlk X2 y4 0 0 none 0 0 none 0 0 := by rw [hX, hy4]; exact SBlk.new _ _ _ _ _ _ _ _ _
        have hT2 := And.intro (hT1.1.below hb) (hT1.2.below hb)
        have HB2 := Lib.hid (below_then HB1.out hs1 hb)
        have hs2 := HB2.out.size
        have HZ42 := Lib.hid hz4
        have hlt4 : W.heap.size ≤ y4 := by rw [hy4]; exact hs1
        have hne4 : y4 ≠ y ∧ y4 ≠ y + 1 := by have h1 := hT1.1.lt; have h2 := hT1.2.lt; omega
        have HOA2 := Lib.hid (HOA1.out.below hb)
        clear hb hX hy4 hz4
        refine hK.out _ _ ⟨hT2, fun _ _ => trivial⟩ ?_
        clear hK K
        (try simp only [Act.put, List.getElem_toArray, List.getElem_cons_succ, List.getElem_cons_zero, List.setIfInBounds_toArray, List.set_cons_succ, List.set_cons_zero])
        refine wpTwo_ready (rs := [3, 5]) (by kernel_rfl) (by simp) ?_
        refine (AllTwo.cons rfl (fun K hK => ?_) (AllTwo.cons rfl (fun K hK => ?_) AllTwo.nil))
        · go_simp
          refine (OWY.out X2 HB2.out).mono ?_
          rintro e X3 ⟨⟨vB, rfl, hOB⟩, hb⟩
          have hT3 := And.intro (hT2.1.below hb) (hT2.2.below hb)
          have HB3 := Lib.hid (below_then HB2.out hs2 hb)
          have hs3 := HB3.out.size
          have HOB3 := Lib.hid hOB
          have HOA3 := Lib.hid (HOA2.out.below hb)
          have HZ43 := Lib.hid (HZ42.out.below hb)
          clear hb hOB
          go_wp2_with fail
          refine hK.out _ _ ⟨hT3, fun _ _ => trivial⟩ ?_
          clear hK K
          (try simp only [Act.put, List.getElem_toArray, List.getElem_cons_succ, List.getElem_cons_zero, List.setIfInBounds_toArray, List.set_cons_succ, List.set_cons_zero])
          refine wpTwo_ready (rs := [5]) (by kernel_rfl) (by simp) ?_
          refine (AllTwo.cons rfl (fun K hK => ?_) AllTwo.nil)
          · go_simp
            obtain ⟨y5, hy5⟩ : ∃ q, q = X3.heap.size := ⟨_, rfl⟩
            obtain ⟨X4, hX⟩ : ∃ X : World, X = X3.alloc (.cells #[.int .i64 0, .int .i64 0, .slice none 0 0, .slice none 0 0] 25) := ⟨_, rfl⟩
            rw [← hX, ← hy5]
            have hb : Below X3.heap.size X3 X4 := by rw [hX]; exact (Below.refl _ _).alloc (Nat.le_refl _) _
            have hz5 : SBlk X4 y5 0 0 none 0 0 none 0 0 := by rw [hX, hy5]; exact SBlk.new _ _ _ _ _ _ _ _ _
            have hT4 := And.intro (hT3.1.below hb) (hT3.2.below hb)
            have HB4 := Lib.hid (below_then HB3.out hs3 hb)
            have hs4 := HB4.out.size
            have HZ54 := Lib.hid hz5
            have hlt5 : W.heap.size ≤ y5 := by rw [hy5]; exact hs3
            have hne5 : y5 ≠ y ∧ y5 ≠ y + 1 := by have h1 := hT3.1.lt; have h2 := hT3.2.lt; omega
            have hne45 : y4 ≠ y5 := by have h1 := HZ43.out.lt; omega
            have HOA4 := Lib.hid (HOA3.out.below hb)
            have HOB4 := Lib.hid (HOB3.out.below hb)
            have HZ44 := Lib.hid (HZ43.out.below hb)
            clear hb hX hy5 hz5
            refine hK.out _ _ ⟨hT4, fun _ _ => trivial⟩ ?_
            clear hK K
            (try simp only [Act.put, List.getElem_toArray, List.getElem_cons_succ, List.getElem_cons_zero, List.setIfInBounds_toArray, List.set_cons_succ, List.set_cons_zero])
            obtain ⟨pa, ca, qa, ma, da, rfl, hla, hpa⟩ := HOA4.out
            obtain ⟨pb, cb, qb, mb, db, rfl, hlb, hpb⟩ := HOB4.out
            clear hla hpa hlb hpb
            refine wpTwo_ready (rs := [6]) (by kernel_rfl) (by simp) ?_
            refine (AllTwo.cons rfl (fun K hK => ?_) AllTwo.nil)
            obtain ⟨⟨g0, g1, g2, g3⟩, gf⟩ := And.intro HZ44.out.cells HZ44.out.free
            have gf0 := gf 0
            have gf1 := gf 1
            have gf2 := gf 2
            have gf3 := gf 3
            obtain ⟨Xa, hXa⟩ : ∃ X : World, X = (((X4.setCell ⟨y4, 0, none⟩ (.int .i64 (ownS s).c)).setCell ⟨y4, 1, none⟩ (.int .i64 (ownS s).g)).setCell ⟨y4, 2, none⟩ (.slice pa (ownS s).ls.length ca)).setCell ⟨y4, 3, none⟩ (.slice qa ma da) := ⟨_, rfl⟩
            have hSA : SBlk Xa y4 (ownS s).c (ownS s).g pa (ownS s).ls.length ca qa ma da := by rw [hXa]; exact (((HZ44.out.set0 _).set1 _).set2 _ _ _).set3 _ _ _
            have hk4 : Keeps (fun q => q = y4) X4 Xa := by rw [hXa]; exact keeps4 X4 y4 _ _ _ _
            have hTa := And.intro (hT4.1.keeps hk4 (fun e => hne4.1 e.symm)) (hT4.2.keeps hk4 (fun e => hne4.2 e.symm))
            have HOAa := Lib.hid (HOA4.out.other HZ44.out hk4)
            have HOBa := Lib.hid (HOB4.out.other HZ44.out hk4)
            have HZ5a := Lib.hid (HZ54.out.keeps hk4 (fun e => hne45 e.symm))
            have HBa := Lib.hid (HB4.out.trans (hk4.below hs4 (fun q hq => by rw [hq]; exact hlt4)))
            go_simp
            rw [← hXa]
            refine hK.out _ _ ⟨hTa, fun _ _ => trivial⟩ ?_
            clear hK K g0 g1 g2 g3 gf gf0 gf1 gf2 gf3 hXa
            (try simp only [Act.put, List.getElem_toArray, List.getElem_cons_succ, List.getElem_cons_zero, List.setIfInBounds_toArray, List.set_cons_succ, List.set_cons_zero])
            refine wpTwo_ready (rs := [7]) (by kernel_rfl) (by simp) ?_
            refine (AllTwo.cons rfl (fun K hK => ?_) AllTwo.nil)
            obtain ⟨⟨g0, g1, g2, g3⟩, gf⟩ := And.intro HZ5a.out.cells HZ5a.out.free
            have gf0 := gf 0
            have gf1 := gf 1
            have gf2 := gf 2
            have gf3 := gf 3
            obtain ⟨Xb, hXb⟩ : ∃ X : World, X = (((Xa.setCell ⟨y5, 0, none⟩ (.int .i64 (ownS s1).c)).setCell ⟨y5, 1, none⟩ (.int .i64 (ownS s1).g)).setCell ⟨y5, 2, none⟩ (.slice pb (ownS s1).ls.length cb)).setCell ⟨y5, 3, none⟩ (.slice qb mb db) := ⟨_, rfl⟩
            have hSB : SBlk Xb y5 (ownS s1).c (ownS s1).g pb (ownS s1).ls.length cb qb mb db := by rw [hXb]; exact (((HZ5a.out.set0 _).set1 _).set2 _ _ _).set3 _ _ _
            have hk5 : Keeps (fun q => q = y5) Xa Xb := by rw [hXb]; exact keeps4 Xa y5 _ _ _ _
            have hTb := And.intro (hTa.1.keeps hk5 (fun e => hne5.1 e.symm)) (hTa.2.keeps hk5 (fun e => hne5.2 e.symm))
            have HOAb := Lib.hid (HOAa.out.other HZ5a.out hk5)
            have HOBb := Lib.hid (HOBa.out.other HZ5a.out hk5)
            have HBb := Lib.hid (HBa.out.trans (hk5.below HBa.out.size (fun q hq => by rw [hq]; exact hlt5)))
            have hSAb := hSA.keeps hk5 (fun e => hne45 e)
            go_simp
            rw [← hXb]
            refine hK.out _ _ ⟨hTb, fun _ _ => trivial⟩ ?_
            clear hK K g0 g1 g2 g3 gf gf0 gf1 gf2 gf3 hXb
            (try simp only [Act.put, List.getElem_toArray, List.getElem_cons_succ, List.getElem_cons_zero, List.setIfInBounds_toArray, List.set_cons_succ, List.set_cons_zero])
            refine wpTwo_end (by kernel_rfl) ?_ _
            go_wp2
            go_meet
            exact ⟨y4, y5, rfl, rfl, pa, ca, qa, ma, da, pb, cb, qb, mb, db, Lib.hid ⟨hTb.1, hTb.2, hSAb, hSB, HOAb.out.sat, HOBb.out.sat, HBb.out⟩⟩
        · go_simp
          obtain ⟨y5, hy5⟩ : ∃ q, q = X2.heap.size := ⟨_, rfl⟩
          obtain ⟨X3, hX⟩ : ∃ X : World, X = X2.alloc (.cells #[.int .i64 0, .int .i64 0, .slice none 0 0, .slice none 0 0] 25) := ⟨_, rfl⟩
          rw [← hX, ← hy5]
          have hb : Below X2.heap.size X2 X3 := by rw [hX]; exact (Below.refl _ _).alloc (Nat.le_refl _) _
          have hz5 : SBlk X3 y5 0 0 none 0 0 none 0 0 := by rw [hX, hy5]; exact SBlk.new _ _ _ _ _ _ _ _ _
          have hT3 := And.intro (hT2.1.below hb) (hT2.2.below hb)
          have HB3 := Lib.hid (below_then HB2.out hs2 hb)
          have hs3 := HB3.out.size
          have HZ53 := Lib.hid hz5
          have hlt5 : W.heap.size ≤ y5 := by rw [hy5]; exact hs2
          have hne5 : y5 ≠ y ∧ y5 ≠ y + 1 := by have h1 := hT2.1.lt; have h2 := hT2.2.lt; omega
          have hne45 : y4 ≠ y5 := by have h1 := HZ42.out.lt; omega
          have HOA3 := Lib.hid (HOA2.out.below hb)
          have HZ43 := Lib.hid (HZ42.out.below hb)
          clear hb hX hy5 hz5
          refine hK.out _ _ ⟨hT3, fun _ _ => trivial⟩ ?_
          clear hK K
          (try simp only [Act.put, List.getElem_toArray, List.getElem_cons_succ, List.getElem_cons_zero, List.setIfInBounds_toArray, List.set_cons_succ, List.set_cons_zero])
          refine wpTwo_ready (rs := [3]) (by kernel_rfl) (by simp) ?_
          refine (AllTwo.cons rfl (fun K hK => ?_) AllTwo.nil)
          · go_simp
            refine (OWY.out X3 HB3.out).mono ?_
            rintro e X4 ⟨⟨vB, rfl, hOB⟩, hb⟩
            have hT4 := And.intro (hT3.1.below hb) (hT3.2.below hb)
            have HB4 := Lib.hid (below_then HB3.out hs3 hb)
            have hs4 := HB4.out.size
            have HOB4 := Lib.hid hOB
            have HOA4 := Lib.hid (HOA3.out.below hb)
            have HZ44 := Lib.hid (HZ43.out.below hb)
            have HZ54 := Lib.hid (HZ53.out.below hb)
            clear hb hOB
            go_wp2_with fail
            refine hK.out _ _ ⟨hT4, fun _ _ => trivial⟩ ?_
            clear hK K
            (try simp only [Act.put, List.getElem_toArray, List.getElem_cons_succ, List.getElem_cons_zero, List.setIfInBounds_toArray, List.set_cons_succ, List.set_cons_zero])
            obtain ⟨pa, ca, qa, ma, da, rfl, hla, hpa⟩ := HOA4.out
            obtain ⟨pb, cb, qb, mb, db, rfl, hlb, hpb⟩ := HOB4.out
            clear hla hpa hlb hpb
            refine wpTwo_ready (rs := [6]) (by kernel_rfl) (by simp) ?_
            refine (AllTwo.cons rfl (fun K hK => ?_) AllTwo.nil)
            obtain ⟨⟨g0, g1, g2, g3⟩, gf⟩ := And.intro HZ44.out.cells HZ44.out.free
            have gf0 := gf 0
            have gf1 := gf 1
            have gf2 := gf 2
            have gf3 := gf 3
            obtain ⟨Xa, hXa⟩ : ∃ X : World, X = (((X4.setCell ⟨y4, 0, none⟩ (.int .i64 (ownS s).c)).setCell ⟨y4, 1, none⟩ (.int .i64 (ownS s).g)).setCell ⟨y4, 2, none⟩ (.slice pa (ownS s).ls.length ca)).setCell ⟨y4, 3, none⟩ (.slice qa ma da) := ⟨_, rfl⟩
            have hSA : SBlk Xa y4 (ownS s).c (ownS s).g pa (ownS s).ls.length ca qa ma da := by rw [hXa]; exact (((HZ44.out.set0 _).set1 _).set2 _ _ _).set3 _ _ _
            have hk4 : Keeps (fun q => q = y4) X4 Xa := by rw [hXa]; exact keeps4 X4 y4 _ _ _ _
            have hTa := And.intro (hT4.1.keeps hk4 (fun e => hne4.1 e.symm)) (hT4.2.keeps hk4 (fun e => hne4.2 e.symm))
            have HOAa := Lib.hid (HOA4.out.other HZ44.out hk4)
            have HOBa := Lib.hid (HOB4.out.other HZ44.out hk4)
            have HZ5a := Lib.hid (HZ54.out.keeps hk4 (fun e => hne45 e.symm))
            have HBa := Lib.hid (HB4.out.trans (hk4.below hs4 (fun q hq => by rw [hq]; exact hlt4)))
            go_simp
            rw [← hXa]
            refine hK.out _ _ ⟨hTa, fun _ _ => trivial⟩ ?_
            clear hK K g0 g1 g2 g3 gf gf0 gf1 gf2 gf3 hXa
            (try simp only [Act.put, List.getElem_toArray, List.getElem_cons_succ, List.getElem_cons_zero, List.setIfInBounds_toArray, List.set_cons_succ, List.set_cons_zero])
            refine wpTwo_ready (rs := [7]) (by kernel_rfl) (by simp) ?_
            refine (AllTwo.cons rfl (fun K hK => ?_) AllTwo.nil)
            obtain ⟨⟨g0, g1, g2, g3⟩, gf⟩ := And.intro HZ5a.out.cells HZ5a.out.free
            have gf0 := gf 0
            have gf1 := gf 1
            have gf2 := gf 2
            have gf3 := gf 3
            obtain ⟨Xb, hXb⟩ : ∃ X : World, X = (((Xa.setCell ⟨y5, 0, none⟩ (.int .i64 (ownS s1).c)).setCell ⟨y5, 1, none⟩ (.int .i64 (ownS s1).g)).setCell ⟨y5, 2, none⟩ (.slice pb (ownS s1).ls.length cb)).setCell ⟨y5, 3, none⟩ (.slice qb mb db) := ⟨_, rfl⟩
            have hSB : SBlk Xb y5 (ownS s1).c (ownS s1).g pb (ownS s1).ls.length cb qb mb db := by rw [hXb]; exact (((HZ5a.out.set0 _).set1 _).set2 _ _ _).set3 _ _ _
            have hk5 : Keeps (fun q => q = y5) Xa Xb := by rw [hXb]; exact keeps4 Xa y5 _ _ _ _
            have hTb := And.intro (hTa.1.keeps hk5 (fun e => hne5.1 e.symm)) (hTa.2.keeps hk5 (fun e => hne5.2 e.symm))
            have HOAb := Lib.hid (HOAa.out.other HZ5a.out hk5)
            have HOBb := Lib.hid (HOBa.out.other HZ5a.out hk5)
            have HBb := Lib.hid (HBa.out.trans (hk5.below HBa.out.size (fun q hq => by rw [hq]; exact hlt5)))
            have hSAb := hSA.keeps hk5 (fun e => hne45 e)
            go_simp
            rw [← hXb]
            refine hK.out _ _ ⟨hTb, fun _ _ => trivial⟩ ?_
            clear hK K g0 g1 g2 g3 gf gf0 gf1 gf2 gf3 hXb
            (try simp only [Act.put, List.getElem_toArray, List.getElem_cons_succ, List.getElem_cons_zero, List.setIfInBounds_toArray, List.set_cons_succ, List.set_cons_zero])
            refine wpTwo_end (by kernel_rfl) ?_ _
            go_wp2
            go_meet
            exact ⟨y4, y5, rfl, rfl, pa, ca, qa, ma, da, pb, cb, qb, mb, db, Lib.hid ⟨hTb.1, hTb.2, hSAb, hSB, HOAb.out.sat, HOBb.out.sat, HBb.out⟩⟩
      · go_simp
        obtain ⟨y5, hy5⟩ : ∃ q, q = X1.heap.size := ⟨_, rfl⟩
        obtain ⟨X2, hX⟩ : ∃ X : World, X = X1.alloc (.cells #[.int .i64 0, .int .i64 0, .slice none 0 0, .slice none 0 0] 25) := ⟨_, rfl⟩
        rw [← hX, ← hy5]
        have hb : Below X1.heap.size X1 X2 := by rw [hX]; exact (Below.refl _ _).alloc (Nat.le_refl _) _
        have hz5 : SBlk X2 y5 0 0 none 0 0 none 0 0 := by rw [hX, hy5]; exact SBlk.new _ _ _ _ _ _ _ _ _
        have hT2 := And.intro (hT1.1.below hb) (hT1.2.below hb)
        have HB2 := Lib.hid (below_then HB1.out hs1 hb)
        have hs2 := HB2.out.size
        have HZ52 := Lib.hid hz5
        have hlt5 : W.heap.size ≤ y5 := by rw [hy5]; exact hs1
        have hne5 : y5 ≠ y ∧ y5 ≠ y + 1 := by have h1 := hT1.1.lt; have h2 := hT1.2.lt; omega
        have HOA2 := Lib.hid (HOA1.out.below hb)
        clear hb hX hy5 hz5
        refine hK.out _ _ ⟨hT2, fun _ _ => trivial⟩ ?_
        clear hK K
        (try simp only [Act.put, List.getElem_toArray, List.getElem_cons_succ, List.getElem_cons_zero, List.setIfInBounds_toArray, List.set_cons_succ, List.set_cons_zero])
        refine wpTwo_ready (rs := [3, 4]) (by kernel_rfl) (by simp) ?_
        refine (AllTwo.cons rfl (fun K hK => ?_) (AllTwo.cons rfl (fun K hK => ?_) AllTwo.nil))
        · go_simp
          refine (OWY.out X2 HB2.out).mono ?_
          rintro e X3 ⟨⟨vB, rfl, hOB⟩, hb⟩
          have hT3 := And.intro (hT2.1.below hb) (hT2.2.below hb)
          have HB3 := Lib.hid (below_then HB2.out hs2 hb)
          have hs3 := HB3.out.size
          have HOB3 := Lib.hid hOB
          have HOA3 := Lib.hid (HOA2.out.below hb)
          have HZ53 := Lib.hid (HZ52.out.below hb)
          clear hb hOB
          go_wp2_with fail
          refine hK.out _ _ ⟨hT3, fun _ _ => trivial⟩ ?_
          clear hK K
          (try simp only [Act.put, List.getElem_toArray, List.getElem_cons_succ, List.getElem_cons_zero, List.setIfInBounds_toArray, List.set_cons_succ, List.set_cons_zero])
          refine wpTwo_ready (rs := [4]) (by kernel_rfl) (by simp) ?_
          refine (AllTwo.cons rfl (fun K hK => ?_) AllTwo.nil)
          · go_simp
            obtain ⟨y4, hy4⟩ : ∃ q, q = X3.heap.size := ⟨_, rfl⟩
            obtain ⟨X4, hX⟩ : ∃ X : World, X = X3.alloc (.cells #[.int .i64 0, .int .i64 0, .slice none 0 0, .slice none 0 0] 25) := ⟨_, rfl⟩
            rw [← hX, ← hy4]
            have hb : Below X3.heap.size X3 X4 := by rw [hX]; exact (Below.refl _ _).alloc (Nat.le_refl _) _
            have hz4 : SBlk X4 y4 0 0 none 0 0 none 0 0 := by rw [hX, hy4]; exact SBlk.new _ _ _ _ _ _ _ _ _
            have hT4 := And.intro (hT3.1.below hb) (hT3.2.below hb)
            have HB4 := Lib.hid (below_then HB3.out hs3 hb)
            have hs4 := HB4.out.size
            have HZ44 := Lib.hid hz4
            have hlt4 : W.heap.size ≤ y4 := by rw [hy4]; exact hs3
            have hne4 : y4 ≠ y ∧ y4 ≠ y + 1 := by have h1 := hT3.1.lt; have h2 := hT3.2.lt; omega
            have hne45 : y4 ≠ y5 := by have h1 := HZ53.out.lt; omega
            have HOA4 := Lib.hid (HOA3.out.below hb)
            have HOB4 := Lib.hid (HOB3.out.below hb)
            have HZ54 := Lib.hid (HZ53.out.below hb)
            clear hb hX hy4 hz4
            refine hK.out _ _ ⟨hT4, fun _ _ => trivial⟩ ?_
            clear hK K
            (try simp only [Act.put, List.getElem_toArray, List.getElem_cons_succ, List.getElem_cons_zero, List.setIfInBounds_toArray, List.set_cons_succ, List.set_cons_zero])
            obtain ⟨pa, ca, qa, ma, da, rfl, hla, hpa⟩ := HOA4.out
            obtain ⟨pb, cb, qb, mb, db, rfl, hlb, hpb⟩ := HOB4.out
            clear hla hpa hlb hpb
            refine wpTwo_ready (rs := [6]) (by kernel_rfl) (by simp) ?_
            refine (AllTwo.cons rfl (fun K hK => ?_) AllTwo.nil)
            obtain ⟨⟨g0, g1, g2, g3⟩, gf⟩ := And.intro HZ44.out.cells HZ44.out.free
            have gf0 := gf 0
            have gf1 := gf 1
            have gf2 := gf 2
            have gf3 := gf 3
            obtain ⟨Xa, hXa⟩ : ∃ X : World, X = (((X4.setCell ⟨y4, 0, none⟩ (.int .i64 (ownS s).c)).setCell ⟨y4, 1, none⟩ (.int .i64 (ownS s).g)).setCell ⟨y4, 2, none⟩ (.slice pa (ownS s).ls.length ca)).setCell ⟨y4, 3, none⟩ (.slice qa ma da) := ⟨_, rfl⟩
            have hSA : SBlk Xa y4 (ownS s).c (ownS s).g pa (ownS s).ls.length ca qa ma da := by rw [hXa]; exact (((HZ44.out.set0 _).set1 _).set2 _ _ _).set3 _ _ _
            have hk4 : Keeps (fun q => q = y4) X4 Xa := by rw [hXa]; exact keeps4 X4 y4 _ _ _ _
            have hTa := And.intro (hT4.1.keeps hk4 (fun e => hne4.1 e.symm)) (hT4.2.keeps hk4 (fun e => hne4.2 e.symm))
            have HOAa := Lib.hid (HOA4.out.other HZ44.out hk4)
            have HOBa := Lib.hid (HOB4.out.other HZ44.out hk4)
            have HZ5a := Lib.hid (HZ54.out.keeps hk4 (fun e => hne45 e.symm))
            have HBa := Lib.hid (HB4.out.trans (hk4.below hs4 (fun q hq => by rw [hq]; exact hlt4)))
            go_simp
            rw [← hXa]
            refine hK.out _ _ ⟨hTa, fun _ _ => trivial⟩ ?_
            clear hK K g0 g1 g2 g3 gf gf0 gf1 gf2 gf3 hXa
            (try simp only [Act.put, List.getElem_toArray, List.getElem_cons_succ, List.getElem_cons_zero, List.setIfInBounds_toArray, List.set_cons_succ, List.set_cons_zero])
            refine wpTwo_ready (rs := [7]) (by kernel_rfl) (by simp) ?_
            refine (AllTwo.cons rfl (fun K hK => ?_) AllTwo.nil)
            obtain ⟨⟨g0, g1, g2, g3⟩, gf⟩ := And.intro HZ5a.out.cells HZ5a.out.free
            have gf0 := gf 0
            have gf1 := gf 1
            have gf2 := gf 2
            have gf3 := gf 3
            obtain ⟨Xb, hXb⟩ : ∃ X : World, X = (((Xa.setCell ⟨y5, 0, none⟩ (.int .i64 (ownS s1).c)).setCell ⟨y5, 1, none⟩ (.int .i64 (ownS s1).g)).setCell ⟨y5, 2, none⟩ (.slice pb (ownS s1).ls.length cb)).setCell ⟨y5, 3, none⟩ (.slice qb mb db) := ⟨_, rfl⟩
            have hSB : SBlk Xb y5 (ownS s1).c (ownS s1).g pb (ownS s1).ls.length cb qb mb db := by rw [hXb]; exact (((HZ5a.out.set0 _).set1 _).set2 _ _ _).set3 _ _ _
            have hk5 : Keeps (fun q => q = y5) Xa Xb := by rw [hXb]; exact keeps4 Xa y5 _ _ _ _
            have hTb := And.intro (hTa.1.keeps hk5 (fun e => hne5.1 e.symm)) (hTa.2.keeps hk5 (fun e => hne5.2 e.symm))
            have HOAb := Lib.hid (HOAa.out.other HZ5a.out hk5)
            have HOBb := Lib.hid (HOBa.out.other HZ5a.out hk5)
            have HBb := Lib.hid (HBa.out.trans (hk5.below HBa.out.size (fun q hq => by rw [hq]; exact hlt5)))
            have hSAb := hSA.keeps hk5 (fun e => hne45 e)
            go_simp
            rw [← hXb]
            refine hK.out _ _ ⟨hTb, fun _ _ => trivial⟩ ?_
            clear hK K g0 g1 g2 g3 gf gf0 gf1 gf2 gf3 hXb
            (try simp only [Act.put, List.getElem_toArray, List.getElem_cons_succ, List.getElem_cons_zero, List.setIfInBounds_toArray, List.set_cons_succ, List.set_cons_zero])
            refine wpTwo_end (by kernel_rfl) ?_ _
            go_wp2
            go_meet
            exact ⟨y4, y5, rfl, rfl, pa, ca, qa, ma, da, pb, cb, qb, mb, db, Lib.hid ⟨hTb.1, hTb.2, hSAb, hSB, HOAb.out.sat, HOBb.out.sat, HBb.out⟩⟩
        · go_simp
          obtain ⟨y4, hy4⟩ : ∃ q, q = X2.heap.size := ⟨_, rfl⟩
          obtain ⟨X3, hX⟩ : ∃ X : World, X = X2.alloc (.cells #[.int .i64 0, .int .i64 0, .slice none 0 0, .slice none 0 0] 25) := ⟨_, rfl⟩
          rw [← hX, ← hy4]
          have hb : Below X2.heap.size X2 X3 := by rw [hX]; exact (Below.refl _ _).alloc (Nat.le_refl _) _
          have hz4 : SBlk X3 y4 0 0 none 0 0 none 0 0 := by rw [hX, hy4]; exact SBlk.new _ _ _ _ _ _ _ _ _
          have hT3 := And.intro (hT2.1.below hb) (hT2.2.below hb)
          have HB3 := Lib.hid (below_then HB2.out hs2 hb)
          have hs3 := HB3.out.size
          have HZ43 := Lib.hid hz4
          have hlt4 : W.heap.size ≤ y4 := by rw [hy4]; exact hs2
          have hne4 : y4 ≠ y ∧ y4 ≠ y + 1 := by have h1 := hT2.1.lt; have h2 := hT2.2.lt; omega
          have hne45 : y4 ≠ y5 := by have h1 := HZ52.out.lt; omega
          have HOA3 := Lib.hid (HOA2.out.below hb)
          have HZ53 := Lib.hid (HZ52.out.below hb)
          clear hb hX hy4 hz4
          refine hK.out _ _ ⟨hT3, fun _ _ => trivial⟩ ?_
          clear hK K
          (try simp only [Act.put, List.getElem_toArray, List.getElem_cons_succ, List.getElem_cons_zero, List.setIfInBounds_toArray, List.set_cons_succ, List.set_cons_zero])
          refine wpTwo_ready (rs := [3]) (by kernel_rfl) (by simp) ?_
          refine (AllTwo.cons rfl (fun K hK => ?_) AllTwo.nil)
          · go_simp
            refine (OWY.out X3 HB3.out).mono ?_
            rintro e X4 ⟨⟨vB, rfl, hOB⟩, hb⟩
            have hT4 := And.intro (hT3.1.below hb) (hT3.2.below hb)
            have HB4 := Lib.hid (below_then HB3.out hs3 hb)
            have hs4 := HB4.out.size
            have HOB4 := Lib.hid hOB
            have HOA4 := Lib.hid (HOA3.out.below hb)
            have HZ44 := Lib.hid (HZ43.out.below hb)
            have HZ54 := Lib.hid (HZ53.out.below hb)
            clear hb hOB
            go_wp2_with fail
            refine hK.out _ _ ⟨hT4, fun _ _ => trivial⟩ ?_
            clear hK K
            (try simp only [Act.put, List.getElem_toArray, List.getElem_cons_succ, List.getElem_cons_zero, List.setIfInBounds_toArray, List.set_cons_succ, List.set_cons_zero])
            obtain ⟨pa, ca, qa, ma, da, rfl, hla, hpa⟩ := HOA4.out
            obtain ⟨pb, cb, qb, mb, db, rfl, hlb, hpb⟩ := HOB4.out
            clear hla hpa hlb hpb
            refine wpTwo_ready (rs := [6]) (by kernel_rfl) (by simp) ?_
            refine (AllTwo.cons rfl (fun K hK => ?_) AllTwo.nil)
            obtain ⟨⟨g0, g1, g2, g3⟩, gf⟩ := And.intro HZ44.out.cells HZ44.out.free
            have gf0 := gf 0
            have gf1 := gf 1
            have gf2 := gf 2
            have gf3 := gf 3
            obtain ⟨Xa, hXa⟩ : ∃ X : World, X = (((X4.setCell ⟨y4, 0, none⟩ (.int .i64 (ownS s).c)).setCell ⟨y4, 1, none⟩ (.int .i64 (ownS s).g)).setCell ⟨y4, 2, none⟩ (.slice pa (ownS s).ls.length ca)).setCell ⟨y4, 3, none⟩ (.slice qa ma da) := ⟨_, rfl⟩
            have hSA : SBlk Xa y4 (ownS s).c (ownS s).g pa (ownS s).ls.length ca qa ma da := by rw [hXa]; exact (((HZ44.out.set0 _).set1 _).set2 _ _ _).set3 _ _ _
            have hk4 : Keeps (fun q => q = y4) X4 Xa := by rw [hXa]; exact keeps4 X4 y4 _ _ _ _
            have hTa := And.intro (hT4.1.keeps hk4 (fun e => hne4.1 e.symm)) (hT4.2.keeps hk4 (fun e => hne4.2 e.symm))
            have HOAa := Lib.hid (HOA4.out.other HZ44.out hk4)
            have HOBa := Lib.hid (HOB4.out.other HZ44.out hk4)
            have HZ5a := Lib.hid (HZ54.out.keeps hk4 (fun e => hne45 e.symm))
            have HBa := Lib.hid (HB4.out.trans (hk4.below hs4 (fun q hq => by rw [hq]; exact hlt4)))
            go_simp
            rw [← hXa]
            refine hK.out _ _ ⟨hTa, fun _ _ => trivial⟩ ?_
            clear hK K g0 g1 g2 g3 gf gf0 gf1 gf2 gf3 hXa
            (try simp only [Act.put, List.getElem_toArray, List.getElem_cons_succ, List.getElem_cons_zero, List.setIfInBounds_toArray, List.set_cons_succ, List.set_cons_zero])
            refine wpTwo_ready (rs := [7]) (by kernel_rfl) (by simp) ?_
            refine (AllTwo.cons rfl (fun K hK => ?_) AllTwo.nil)
            obtain ⟨⟨g0, g1, g2, g3⟩, gf⟩ := And.intro HZ5a.out.cells HZ5a.out.free
            have gf0 := gf 0
            have gf1 := gf 1
            have gf2 := gf 2
            have gf3 := gf 3
            obtain ⟨Xb, hXb⟩ : ∃ X : World, X = (((Xa.setCell ⟨y5, 0, none⟩ (.int .i64 (ownS s1).c)).setCell ⟨y5, 1, none⟩ (.int .i64 (ownS s1).g)).setCell ⟨y5, 2, none⟩ (.slice pb (ownS s1).ls.length cb)).setCell ⟨y5, 3, none⟩ (.slice qb mb db) := ⟨_, rfl⟩
            have hSB : SBlk Xb y5 (ownS s1).c (ownS s1).g pb (ownS s1).ls.length cb qb mb db := by rw [hXb]; exact (((HZ5a.out.set0 _).set1 _).set2 _ _ _).set3 _ _ _
            have hk5 : Keeps (fun q => q = y5) Xa Xb := by rw [hXb]; exact keeps4 Xa y5 _ _ _ _
            have hTb := And.intro (hTa.1.keeps hk5 (fun e => hne5.1 e.symm)) (hTa.2.keeps hk5 (fun e => hne5.2 e.symm))
            have HOAb := Lib.hid (HOAa.out.other HZ5a.out hk5)
            have HOBb := Lib.hid (HOBa.out.other HZ5a.out hk5)
            have HBb := Lib.hid (HBa.out.trans (hk5.below HBa.out.size (fun q hq => by rw [hq]; exact hlt5)))
            have hSAb := hSA.keeps hk5 (fun e => hne45 e)
            go_simp
            rw [← hXb]
            refine hK.out _ _ ⟨hTb, fun _ _ => trivial⟩ ?_
            clear hK K g0 g1 g2 g3 gf gf0 gf1 gf2 gf3 hXb
            (try simp only [Act.put, List.getElem_toArray, List.getElem_cons_succ, List.getElem_cons_zero, List.setIfInBounds_toArray, List.set_cons_succ, List.set_cons_zero])
            refine wpTwo_end (by kernel_rfl) ?_ _
            go_wp2
            go_meet
            exact ⟨y4, y5, rfl, rfl, pa, ca, qa, ma, da, pb, cb, qb, mb, db, Lib.hid ⟨hTb.1, hTb.2, hSAb, hSB, HOAb.out.sat, HOBb.out.sat, HBb.out⟩⟩
    · go_simp
      obtain ⟨y4, hy4⟩ : ∃ q, q = X0.heap.size := ⟨_, rfl⟩
      obtain ⟨X1, hX⟩ : ∃ X : World, X = X0.alloc (.cells #[.int .i64 0, .int .i64 0, .slice none 0 0, .slice none 0 0] 25) := ⟨_, rfl⟩
      rw [← hX, ← hy4]
      have hb : Below X0.heap.size X0 X1 := by rw [hX]; exact (Below.refl _ _).alloc (Nat.le_refl _) _
      have hz4 : SBlk X1 y4 0 0 none 0 0 none 0 0 := by rw [hX, hy4]; exact SBlk.new _ _ _ _ _ _ _ _ _
      have hT1 := And.intro (hT0.1.below hb) (hT0.2.below hb)
      have HB1 := Lib.hid (below_then HB0.out hs0 hb)
      have hs1 := HB1.out.size
      have HZ41 := Lib.hid hz4
      have hlt4 : W.heap.size ≤ y4 := by rw [hy4]; exact hs0
      have hne4 : y4 ≠ y ∧ y4 ≠ y + 1 := by have h1 := hT0.1.lt; have h2 := hT0.2.lt; omega
      clear hb hX hy4 hz4
      refine hK.out _ _ ⟨hT1, fun _ _ => trivial⟩ ?_
      clear hK K
      (try simp only [Act.put, List.getElem_toArray, List.getElem_cons_succ, List.getElem_cons_zero, List.setIfInBounds_toArray, List.set_cons_succ, List.set_cons_zero])
      refine wpTwo_ready (rs := [1, 5]) (by kernel_rfl) (by simp) ?_
      refine (AllTwo.cons rfl (fun K hK => ?_) (AllTwo.cons rfl (fun K hK => ?_) AllTwo.nil))
      · go_simp
        refine (OWX.out X1 HB1.out).mono ?_
        rintro e X2 ⟨⟨vA, rfl, hOA⟩, hb⟩
        have hT2 := And.intro (hT1.1.below hb) (hT1.2.below hb)
        have HB2 := Lib.hid (below_then HB1.out hs1 hb)
        have hs2 := HB2.out.size
        have HOA2 := Lib.hid hOA
        have HZ42 := Lib.hid (HZ41.out.below hb)
        clear hb hOA
        go_wp2_with fail
        refine hK.out _ _ ⟨hT2, fun _ _ => trivial⟩ ?_
        clear hK K
        (try simp only [Act.put, List.getElem_toArray, List.getElem_cons_succ, List.getElem_cons_zero, List.setIfInBounds_toArray, List.set_cons_succ, List.set_cons_zero])
        refine wpTwo_ready (rs := [3, 5]) (by kernel_rfl) (by simp) ?_
        refine (AllTwo.cons rfl (fun K hK => ?_) (AllTwo.cons rfl (fun K hK => ?_) AllTwo.nil))
        · go_simp
          refine (OWY.out X2 HB2.out).mono ?_
          rintro e X3 ⟨⟨vB, rfl, hOB⟩, hb⟩
          have hT3 := And.intro (hT2.1.below hb) (hT2.2.below hb)
          have HB3 := Lib.hid (below_then HB2.out hs2 hb)
          have hs3 := HB3.out.size
          have HOB3 := Lib.hid hOB
          have HOA3 := Lib.hid (HOA2.out.below hb)
          have HZ43 := Lib.hid (HZ42.out.below hb)
          clear hb hOB
          go_wp2_with fail
          refine hK.out _ _ ⟨hT3, fun _ _ => trivial⟩ ?_
          clear hK K
          (try simp only [Act.put, List.getElem_toArray, List.getElem_cons_succ, List.getElem_cons_zero, List.setIfInBounds_toArray, List.set_cons_succ, List.set_cons_zero])
          refine wpTwo_ready (rs := [5]) (by kernel_rfl) (by simp) ?_
          refine (AllTwo.cons rfl (fun K hK => ?_) AllTwo.nil)
          · go_simp
            obtain ⟨y5, hy5⟩ : ∃ q, q = X3.heap.size := ⟨_, rfl⟩
            obtain ⟨X4, hX⟩ : ∃ X : World, X = X3.alloc (.cells #[.int .i64 0, .int .i64 0, .slice none 0 0, .slice none 0 0] 25) := ⟨_, rfl⟩
            rw [← hX, ← hy5]
            have hb : Below X3.heap.size X3 X4 := by rw [hX]; exact (Below.refl _ _).alloc (Nat.le_refl _) _
            have hz5 : SBlk X4 y5 0 0 none 0 0 none 0 0 := by rw [hX, hy5]; exact SBlk.new _ _ _ _ _ _ _ _ _
            have hT4 := And.intro (hT3.1.below hb) (hT3.2.below hb)
            have HB4 := Lib.hid (below_then HB3.out hs3 hb)
            have hs4 := HB4.out.size
            have HZ54 := Lib.hid hz5
            have hlt5 : W.heap.size ≤ y5 := by rw [hy5]; exact hs3
            have hne5 : y5 ≠ y ∧ y5 ≠ y + 1 := by have h1 := hT3.1.lt; have h2 := hT3.2.lt; omega
            have hne45 : y4 ≠ y5 := by have h1 := HZ43.out.lt; omega
            have HOA4 := Lib.hid (HOA3.out.below hb)
            have HOB4 := Lib.hid (HOB3.out.below hb)
            have HZ44 := Lib.hid (HZ43.out.below hb)
            clear hb hX hy5 hz5
            refine hK.out _ _ ⟨hT4, fun _ _ => trivial⟩ ?_
            clear hK K
            (try simp only [Act.put, List.getElem_toArray, List.getElem_cons_succ, List.getElem_cons_zero, List.setIfInBounds_toArray, List.set_cons_succ, List.set_cons_zero])
            obtain ⟨pa, ca, qa, ma, da, rfl, hla, hpa⟩ := HOA4.out
            obtain ⟨pb, cb, qb, mb, db, rfl, hlb, hpb⟩ := HOB4.out
            clear hla hpa hlb hpb
            refine wpTwo_ready (rs := [6]) (by kernel_rfl) (by simp) ?_
            refine (AllTwo.cons rfl (fun K hK => ?_) AllTwo.nil)
            obtain ⟨⟨g0, g1, g2, g3⟩, gf⟩ := And.intro HZ44.out.cells HZ44.out.free
            have gf0 := gf 0
            have gf1 := gf 1
            have gf2 := gf 2
            have gf3 := gf 3
            obtain ⟨Xa, hXa⟩ : ∃ X : World, X = (((X4.setCell ⟨y4, 0, none⟩ (.int .i64 (ownS s).c)).setCell ⟨y4, 1, none⟩ (.int .i64 (ownS s).g)).setCell ⟨y4, 2, none⟩ (.slice pa (ownS s).ls.length ca)).setCell ⟨y4, 3, none⟩ (.slice qa ma da) := ⟨_, rfl⟩
            have hSA : SBlk Xa y4 (ownS s).c (ownS s).g pa (ownS s).ls.length ca qa ma da := by rw [hXa]; exact (((HZ44.out.set0 _).set1 _).set2 _ _ _).set3 _ _ _
            have hk4 : Keeps (fun q => q = y4) X4 Xa := by rw [hXa]; exact keeps4 X4 y4 _ _ _ _
            have hTa := And.intro (hT4.1.keeps hk4 (fun e => hne4.1 e.symm)) (hT4.2.keeps hk4 (fun e => hne4.2 e.symm))
            have HOAa := Lib.hid (HOA4.out.other HZ44.out hk4)
            have HOBa := Lib.hid (HOB4.out.other HZ44.out hk4)
            have HZ5a := Lib.hid (HZ54.out.keeps hk4 (fun e => hne45 e.symm))
            have HBa := Lib.hid (HB4.out.trans (hk4.below hs4 (fun q hq => by rw [hq]; exact hlt4)))
            go_simp
            rw [← hXa]
            refine hK.out _ _ ⟨hTa, fun _ _ => trivial⟩ ?_
            clear hK K g0 g1 g2 g3 gf gf0 gf1 gf2 gf3 hXa
            (try simp only [Act.put, List.getElem_toArray, List.getElem_cons_succ, List.getElem_cons_zero, List.setIfInBounds_toArray, List.set_cons_succ, List.set_cons_zero])
            refine wpTwo_ready (rs := [7]) (by kernel_rfl) (by simp) ?_
            refine (AllTwo.cons rfl (fun K hK => ?_) AllTwo.nil)
            obtain ⟨⟨g0, g1, g2, g3⟩, gf⟩ := And.intro HZ5a.out.cells HZ5a.out.free
            have gf0 := gf 0
            have gf1 := gf 1
            have gf2 := gf 2
            have gf3 := gf 3
            obtain ⟨Xb, hXb⟩ : ∃ X : World, X = (((Xa.setCell ⟨y5, 0, none⟩ (.int .i64 (ownS s1).c)).setCell ⟨y5, 1, none⟩ (.int .i64 (ownS s1).g)).setCell ⟨y5, 2, none⟩ (.slice pb (ownS s1).ls.length cb)).setCell ⟨y5, 3, none⟩ (.slice qb mb db) := ⟨_, rfl⟩
            have hSB : SBlk Xb y5 (ownS s1).c (ownS s1).g pb (ownS s1).ls.length cb qb mb db := by rw [hXb]; exact (((HZ5a.out.set0 _).set1 _).set2 _ _ _).set3 _ _ _
            have hk5 : Keeps (fun q => q = y5) Xa Xb := by rw [hXb]; exact keeps4 Xa y5 _ _ _ _
            have hTb := And.intro (hTa.1.keeps hk5 (fun e => hne5.1 e.symm)) (hTa.2.keeps hk5 (fun e => hne5.2 e.symm))
            have HOAb := Lib.hid (HOAa.out.other HZ5a.out hk5)
            have HOBb := Lib.hid (HOBa.out.other HZ5a.out hk5)
            have HBb := Lib.hid (HBa.out.trans (hk5.below HBa.out.size (fun q hq => by rw [hq]; exact hlt5)))
            have hSAb := hSA.keeps hk5 (fun e => hne45 e)
            go_simp
            rw [← hXb]
            refine hK.out _ _ ⟨hTb, fun _ _ => trivial⟩ ?_
            clear hK K g0 g1 g2 g3 gf gf0 gf1 gf2 gf3 hXb
            (try simp only [Act.put, List.getElem_toArray, List.getElem_cons_succ, List.getElem_cons_zero, List.setIfInBounds_toArray, List.set_cons_succ, List.set_cons_zero])
            refine wpTwo_end (by kernel_rfl) ?_ _
            go_wp2
            go_meet
            exact ⟨y4, y5, rfl, rfl, pa, ca, qa, ma, da, pb, cb, qb, mb, db, Lib.hid ⟨hTb.1, hTb.2, hSAb, hSB, HOAb.out.sat, HOBb.out.sat, HBb.out⟩⟩
        · go_simp
          obtain ⟨y5, hy5⟩ : ∃ q, q = X2.heap.size := ⟨_, rfl⟩
          obtain ⟨X3, hX⟩ : ∃ X : World, X = X2.alloc (.cells #[.int .i64 0, .int .i64 0, .slice none 0 0, .slice none 0 0] 25) := ⟨_, rfl⟩
          rw [← hX, ← hy5]
          have hb : Below X2.heap.size X2 X3 := by rw [hX]; exact (Below.refl _ _).alloc (Nat.le_refl _) _
          have hz5 : SBlk X3 y5 0 0 none 0 0 none 0 0 := by rw [hX, hy5]; exact SBlk.new _ _ _ _ _ _ _ _ _
          have hT3 := And.intro (hT2.1.below hb) (hT2.2.below hb)
          have HB3 := Lib.hid (below_then HB2.out hs2 hb)
          have hs3 := HB3.out.size
          have HZ53 := Lib.hid hz5
          have hlt5 : W.heap.size ≤ y5 := by rw [hy5]; exact hs2
          have hne5 : y5 ≠ y ∧ y5 ≠ y + 1 := by have h1 := hT2.1.lt; have h2 := hT2.2.lt; omega
          have hne45 : y4 ≠ y5 := by have h1 := HZ42.out.lt; omega
          have HOA3 := Lib.hid (HOA2.out.below hb)
          have HZ43 := Lib.hid (HZ42.out.below hb)
          clear hb hX hy5 hz5
          refine hK.out _ _ ⟨hT3, fun _ _ => trivial⟩ ?_
          clear hK K
          (try simp only [Act.put, List.getElem_toArray, List.getElem_cons_succ, List.getElem_cons_zero, List.setIfInBounds_toArray, List.set_cons_succ, List.set_cons_zero])
          refine wpTwo_ready (rs := [3]) (by kernel_rfl) (by simp) ?_
          refine (AllTwo.cons rfl (fun K hK => ?_) AllTwo.nil)
          · go_simp
            refine (OWY.out X3 HB3.out).mono ?_
            rintro e X4 ⟨⟨vB, rfl, hOB⟩, hb⟩
            have hT4 := And.intro (hT3.1.below hb) (hT3.2.below hb)
            have HB4 := Lib.hid (below_then HB3.out hs3 hb)
            have hs4 := HB4.out.size
            have HOB4 := Lib.hid hOB
            have HOA4 := Lib.hid (HOA3.out.below hb)
            have HZ44 := Lib.hid (HZ43.out.below hb)
            have HZ54 := Lib.hid (HZ53.out.below hb)
            clear hb hOB
            go_wp2_with fail
            refine hK.out _ _ ⟨hT4, fun _ _ => trivial⟩ ?_
            clear hK K
            (try simp only [Act.put, List.getElem_toArray, List.getElem_cons_succ, List.getElem_cons_zero, List.setIfInBounds_toArray, List.set_cons_succ, List.set_cons_zero])
            obtain ⟨pa, ca, qa, ma, da, rfl, hla, hpa⟩ := HOA4.out
            obtain ⟨pb, cb, qb, mb, db, rfl, hlb, hpb⟩ := HOB4.out
            clear hla hpa hlb hpb
            refine wpTwo_ready (rs := [6]) (by kernel_rfl) (by simp) ?_
            refine (AllTwo.cons rfl (fun K hK => ?_) AllTwo.nil)
            obtain ⟨⟨g0, g1, g2, g3⟩, gf⟩ := And.intro HZ44.out.cells HZ44.out.free
            have gf0 := gf 0
            have gf1 := gf 1
            have gf2 := gf 2
            have gf3 := gf 3
            obtain ⟨Xa, hXa⟩ : ∃ X : World, X = (((X4.setCell ⟨y4, 0, none⟩ (.int .i64 (ownS s).c)).setCell ⟨y4, 1, none⟩ (.int .i64 (ownS s).g)).setCell ⟨y4, 2, none⟩ (.slice pa (ownS s).ls.length ca)).setCell ⟨y4, 3, none⟩ (.slice qa ma da) := ⟨_, rfl⟩
            have hSA : SBlk Xa y4 (ownS s).c (ownS s).g pa (ownS s).ls.length ca qa ma da := by rw [hXa]; exact (((HZ44.out.set0 _).set1 _).set2 _ _ _).set3 _ _ _
            have hk4 : Keeps (fun q => q = y4) X4 Xa := by rw [hXa]; exact keeps4 X4 y4 _ _ _ _
            have hTa := And.intro (hT4.1.keeps hk4 (fun e => hne4.1 e.symm)) (hT4.2.keeps hk4 (fun e => hne4.2 e.symm))
            have HOAa := Lib.hid (HOA4.out.other HZ44.out hk4)
            have HOBa := Lib.hid (HOB4.out.other HZ44.out hk4)
            have HZ5a := Lib.hid (HZ54.out.keeps hk4 (fun e => hne45 e.symm))
            have HBa := Lib.hid (HB4.out.trans (hk4.below hs4 (fun q hq => by rw [hq]; exact hlt4)))
            go_simp
            rw [← hXa]
            refine hK.out _ _ ⟨hTa, fun _ _ => trivial⟩ ?_
            clear hK K g0 g1 g2 g3 gf gf0 gf1 gf2 gf3 hXa
            (try simp only [Act.put, List.getElem_toArray, List.getElem_cons_succ, List.getElem_cons_zero, List.setIfInBounds_toArray, List.set_cons_succ, List.set_cons_zero])
            refine wpTwo_ready (rs := [7]) (by kernel_rfl) (by simp) ?_
            refine (AllTwo.cons rfl (fun K hK => ?_) AllTwo.nil)
            obtain ⟨⟨g0, g1, g2, g3⟩, gf⟩ := And.intro HZ5a.out.cells HZ5a.out.free
            have gf0 := gf 0
            have gf1 := gf 1
            have gf2 := gf 2
            have gf3 := gf 3
            obtain ⟨Xb, hXb⟩ : ∃ X : World, X = (((Xa.setCell ⟨y5, 0, none⟩ (.int .i64 (ownS s1).c)).setCell ⟨y5, 1, none⟩ (.int .i64 (ownS s1).g)).setCell ⟨y5, 2, none⟩ (.slice pb (ownS s1).ls.length cb)).setCell ⟨y5, 3, none⟩ (.slice qb mb db) := ⟨_, rfl⟩
            have hSB : SBlk Xb y5 (ownS s1).c (ownS s1).g pb (ownS s1).ls.length cb qb mb db := by rw [hXb]; exact (((HZ5a.out.set0 _).set1 _).set2 _ _ _).set3 _ _ _
            have hk5 : Keeps (fun q => q = y5) Xa Xb := by rw [hXb]; exact keeps4 Xa y5 _ _ _ _
            have hTb := And.intro (hTa.1.keeps hk5 (fun e => hne5.1 e.symm)) (hTa.2.keeps hk5 (fun e => hne5.2 e.symm))
            have HOAb := Lib.hid (HOAa.out.other HZ5a.out hk5)
            have HOBb := Lib.hid (HOBa.out.other HZ5a.out hk5)
            have HBb := Lib.hid (HBa.out.trans (hk5.below HBa.out.size (fun q hq => by rw [hq]; exact hlt5)))
            have hSAb := hSA.keeps hk5 (fun e => hne45 e)
            go_simp
            rw [← hXb]
            refine hK.out _ _ ⟨hTb, fun _ _ => trivial⟩ ?_
            clear hK K g0 g1 g2 g3 gf gf0 gf1 gf2 gf3 hXb
            (try simp only [Act.put, List.getElem_toArray, List.getElem_cons_succ, List.getElem_cons_zero, List.setIfInBounds_toArray, List.set_cons_succ, List.set_cons_zero])
            refine wpTwo_end (by kernel_rfl) ?_ _
            go_wp2
            go_meet
            exact ⟨y4, y5, rfl, rfl, pa, ca, qa, ma, da, pb, cb, qb, mb, db, Lib.hid ⟨hTb.1, hTb.2, hSAb, hSB, HOAb.out.sat, HOBb.out.sat, HBb.out⟩⟩
      · go_simp
        obtain ⟨y5, hy5⟩ : ∃ q, q = X1.heap.size := ⟨_, rfl⟩
        obtain ⟨X2, hX⟩ : ∃ X : World, X = X1.alloc (.cells #[.int .i64 0, .int .i64 0, .slice none 0 0, .slice none 0 0] 25) := ⟨_, rfl⟩
        rw [← hX, ← hy5]
        have hb : Below X1.heap.size X1 X2 := by rw [hX]; exact (Below.refl _ _).alloc (Nat.le_refl _) _
        have hz5 : SBlk X2 y5 0 0 none 0 0 none 0 0 := by rw [hX, hy5]; exact SBlk.new _ _ _ _ _ _ _ _ _
        have hT2 := And.intro (hT1.1.below hb) (hT1.2.below hb)
        have HB2 := Lib.hid (below_then HB1.out hs1 hb)
        have hs2 := HB2.out.size
        have HZ52 := Lib.hid hz5
        have hlt5 : W.heap.size ≤ y5 := by rw [hy5]; exact hs1
        have hne5 : y5 ≠ y ∧ y5 ≠ y + 1 := by have h1 := hT1.1.lt; have h2 := hT1.2.lt; omega
        have hne45 : y4 ≠ y5 := by have h1 := HZ41.out.lt; omega
        have HZ42 := Lib.hid (HZ41.out.below hb)
        clear hb hX hy5 hz5
        refine hK.out _ _ ⟨hT2, fun _ _ => trivial⟩ ?_
        clear hK K
        (try simp only [Act.put, List.getElem_toArray, List.getElem_cons_succ, List.getElem_cons_zero, List.setIfInBounds_toArray, List.set_cons_succ, List.set_cons_zero])
        refine wpTwo_ready (rs := [1]) (by kernel_rfl) (by simp) ?_
        refine (AllTwo.cons rfl (fun K hK => ?_) AllTwo.nil)
        · go_simp
          refine (OWX.out X2 HB2.out).mono ?_
          rintro e X3 ⟨⟨vA, rfl, hOA⟩, hb⟩
          have hT3 := And.intro (hT2.1.below hb) (hT2.2.below hb)
          have HB3 := Lib.hid (below_then HB2.out hs2 hb)
          have hs3 := HB3.out.size
          have HOA3 := Lib.hid hOA
          have HZ43 := Lib.hid (HZ42.out.below hb)
          have HZ53 := Lib.hid (HZ52.out.below hb)
          clear hb hOA
          go_wp2_with fail
          refine hK.out _ _ ⟨hT3, fun _ _ => trivial⟩ ?_
          clear hK K
          (try simp only [Act.put, List.getElem_toArray, List.getElem_cons_succ, List.getElem_cons_zero, List.setIfInBounds_toArray, List.set_cons_succ, List.set_cons_zero])
          refine wpTwo_ready (rs := [3]) (by kernel_rfl) (by simp) ?_
          refine (AllTwo.cons rfl (fun K hK => ?_) AllTwo.nil)
          · go_simp
            refine (OWY.out X3 HB3.out).mono ?_
            rintro e X4 ⟨⟨vB, rfl, hOB⟩, hb⟩
            have hT4 := And.intro (hT3.1.below hb) (hT3.2.below hb)
            have HB4 := Lib.hid (below_then HB3.out hs3 hb)
            have hs4 := HB4.out.size
            have HOB4 := Lib.hid hOB
            have HOA4 := Lib.hid (HOA3.out.below hb)
            have HZ44 := Lib.hid (HZ43.out.below hb)
            have HZ54 := Lib.hid (HZ53.out.below hb)
            clear hb hOB
            go_wp2_with fail
            refine hK.out _ _ ⟨hT4, fun _ _ => trivial⟩ ?_
            clear hK K
            (try simp only [Act.put, List.getElem_toArray, List.getElem_cons_succ, List.getElem_cons_zero, List.setIfInBounds_toArray, List.set_cons_succ, List.set_cons_zero])
            obtain ⟨pa, ca, qa, ma, da, rfl, hla, hpa⟩ := HOA4.out
            obtain ⟨pb, cb, qb, mb, db, rfl, hlb, hpb⟩ := HOB4.out
            clear hla hpa hlb hpb
            refine wpTwo_ready (rs := [6]) (by kernel_rfl) (by simp) ?_
            refine (AllTwo.cons rfl (fun K hK => ?_) AllTwo.nil)
            obtain ⟨⟨g0, g1, g2, g3⟩, gf⟩ := And.intro HZ44.out.cells HZ44.out.free
            have gf0 := gf 0
            have gf1 := gf 1
            have gf2 := gf 2
            have gf3 := gf 3
            obtain ⟨Xa, hXa⟩ : ∃ X : World, X = (((X4.setCell ⟨y4, 0, none⟩ (.int .i64 (ownS s).c)).setCell ⟨y4, 1, none⟩ (.int .i64 (ownS s).g)).setCell ⟨y4, 2, none⟩ (.slice pa (ownS s).ls.length ca)).setCell ⟨y4, 3, none⟩ (.slice qa ma da) := ⟨_, rfl⟩
            have hSA : SBlk Xa y4 (ownS s).c (ownS s).g pa (ownS s).ls.length ca qa ma da := by rw [hXa]; exact (((HZ44.out.set0 _).set1 _).set2 _ _ _).set3 _ _ _
            have hk4 : Keeps (fun q => q = y4) X4 Xa := by rw [hXa]; exact keeps4 X4 y4 _ _ _ _
            have hTa := And.intro (hT4.1.keeps hk4 (fun e => hne4.1 e.symm)) (hT4.2.keeps hk4 (fun e => hne4.2 e.symm))
            have HOAa := Lib.hid (HOA4.out.other HZ44.out hk4)
            have HOBa := Lib.hid (HOB4.out.other HZ44.out hk4)
            have HZ5a := Lib.hid (HZ54.out.keeps hk4 (fun e => hne45 e.symm))
            have HBa := Lib.hid (HB4.out.trans (hk4.below hs4 (fun q hq => by rw [hq]; exact hlt4)))
            go_simp
            rw [← hXa]
            refine hK.out _ _ ⟨hTa, fun _ _ => trivial⟩ ?_
            clear hK K g0 g1 g2 g3 gf gf0 gf1 gf2 gf3 hXa
            (try simp only [Act.put, List.getElem_toArray, List.getElem_cons_succ, List.getElem_cons_zero, List.setIfInBounds_toArray, List.set_cons_succ, List.set_cons_zero])
            refine wpTwo_ready (rs := [7]) (by kernel_rfl) (by simp) ?_
            refine (AllTwo.cons rfl (fun K hK => ?_) AllTwo.nil)
            obtain ⟨⟨g0, g1, g2, g3⟩, gf⟩ := And.intro HZ5a.out.cells HZ5a.out.free
            have gf0 := gf 0
            have gf1 := gf 1
            have gf2 := gf 2
            have gf3 := gf 3
            obtain ⟨Xb, hXb⟩ : ∃ X : World, X = (((Xa.setCell ⟨y5, 0, none⟩ (.int .i64 (ownS s1).c)).setCell ⟨y5, 1, none⟩ (.int .i64 (ownS s1).g)).setCell ⟨y5, 2, none⟩ (.slice pb (ownS s1).ls.length cb)).setCell ⟨y5, 3, none⟩ (.slice qb mb db) := ⟨_, rfl⟩
            have hSB : SBlk Xb y5 (ownS s1).c (ownS s1).g pb (ownS s1).ls.length cb qb mb db := by rw [hXb]; exact (((HZ5a.out.set0 _).set1 _).set2 _ _ _).set3 _ _ _
            have hk5 : Keeps (fun q => q = y5) Xa Xb := by rw [hXb]; exact keeps4 Xa y5 _ _ _ _
            have hTb := And.intro (hTa.1.keeps hk5 (fun e => hne5.1 e.symm)) (hTa.2.keeps hk5 (fun e => hne5.2 e.symm))
            have HOAb := Lib.hid (HOAa.out.other HZ5a.out hk5)
            have HOBb := Lib.hid (HOBa.out.other HZ5a.out hk5)
            have HBb := Lib.hid (HBa.out.trans (hk5.below HBa.out.size (fun q hq => by rw [hq]; exact hlt5)))
            have hSAb := hSA.keeps hk5 (fun e => hne45 e)
            go_simp
            rw [← hXb]
            refine hK.out _ _ ⟨hTb, fun _ _ => trivial⟩ ?_
            clear hK K g0 g1 g2 g3 gf gf0 gf1 gf2 gf3 hXb
            (try simp only [Act.put, List.getElem_toArray, List.getElem_cons_succ, List.getElem_cons_zero, List.setIfInBounds_toArray, List.set_cons_succ, List.set_cons_zero])
            refine wpTwo_end (by kernel_rfl) ?_ _
            go_wp2
            go_meet
            exact ⟨y4, y5, rfl, rfl, pa, ca, qa, ma, da, pb, cb, qb, mb, db, Lib.hid ⟨hTb.1, hTb.2, hSAb, hSB, HOAb.out.sat, HOBb.out.sat, HBb.out⟩⟩
    · go_simp
      obtain ⟨y5, hy5⟩ : ∃ q, q = X0.heap.size := ⟨_, rfl⟩
      obtain ⟨X1, hX⟩ : ∃ X : World, X = X0.alloc (.cells #[.int .i64 0, .int .i64 0, .slice none 0 0, .slice none 0 0] 25) := ⟨_, rfl⟩
      rw [← hX, ← hy5]
      have hb : Below X0.heap.size X0 X1 := by rw [hX]; exact (Below.refl _ _).alloc (Nat.le_refl _) _
      have hz5 : SBlk X1 y5 0 0 none 0 0 none 0 0 := by rw [hX, hy5]; exact SBlk.new _ _ _ _ _ _ _ _ _
      have hT1 := And.intro (hT0.1.below hb) (hT0.2.below hb)
      have HB1 := Lib.hid (below_then HB0.out hs0 hb)
      have hs1 := HB1.out.size
      have HZ51 := Lib.hid hz5
      have hlt5 : W.heap.size ≤ y5 := by rw [hy5]; exact hs0
      have hne5 : y5 ≠ y ∧ y5 ≠ y + 1 := by have h1 := hT0.1.lt; have h2 := hT0.2.lt; omega
      clear hb hX hy5 hz5
      refine hK.out _ _ ⟨hT1, fun _ _ => trivial⟩ ?_
      clear hK K
      (try simp only [Act.put, List.getElem_toArray, List.getElem_cons_succ, List.getElem_cons_zero, List.setIfInBounds_toArray, List.set_cons_succ, List.set_cons_zero])
      refine wpTwo_ready (rs := [1, 4]) (by kernel_rfl) (by simp) ?_
      refine (AllTwo.cons rfl (fun K hK => ?_) (AllTwo.cons rfl (fun K hK => ?_) AllTwo.nil))
      · go_simp
        refine (OWX.out X1 HB1.out).mono ?_
        rintro e X2 ⟨⟨vA, rfl, hOA⟩, hb⟩
        have hT2 := And.intro (hT1.1.below hb) (hT1.2.below hb)
        have HB2 := Lib.hid (below_then HB1.out hs1 hb)
        have hs2 := HB2.out.size
        have HOA2 := Lib.hid hOA
        have HZ52 := Lib.hid (HZ51.out.below hb)
        clear hb hOA
        go_wp2_with fail
        refine hK.out _ _ ⟨hT2, fun _ _ => trivial⟩ ?_
        clear hK K
        (try simp only [Act.put, List.getElem_toArray, List.getElem_cons_succ, List.getElem_cons_zero, List.setIfInBounds_toArray, List.set_cons_succ, List.set_cons_zero])
        refine wpTwo_ready (rs := [3, 4]) (by kernel_rfl) (by simp) ?_
        refine (AllTwo.cons rfl (fun K hK => ?_) (AllTwo.cons rfl (fun K hK => ?_) AllTwo.nil))
        · go_simp
          refine (OWY.out X2 HB2.out).mono ?_
          rintro e X3 ⟨⟨vB, rfl, hOB⟩, hb⟩
          have hT3 := And.intro (hT2.1.below hb) (hT2.2.below hb)
          have HB3 := Lib.hid (below_then HB2.out hs2 hb)
          have hs3 := HB3.out.size
          have HOB3 := Lib.hid hOB
          have HOA3 := Lib.hid (HOA2.out.below hb)
          have HZ53 := Lib.hid (HZ52.out.below hb)
          clear hb hOB
          go_wp2_with fail
          refine hK.out _ _ ⟨hT3, fun _ _ => trivial⟩ ?_
          clear hK K
          (try simp only [Act.put, List.getElem_toArray, List.getElem_cons_succ, List.getElem_cons_zero, List.setIfInBounds_toArray, List.set_cons_succ, List.set_cons_zero])
          refine wpTwo_ready (rs := [4]) (by kernel_rfl) (by simp) ?_
          refine (AllTwo.cons rfl (fun K hK => ?_) AllTwo.nil)
          · go_simp
            obtain ⟨y4, hy4⟩ : ∃ q, q = X3.heap.size := ⟨_, rfl⟩
            obtain ⟨X4, hX⟩ : ∃ X : World, X = X3.alloc (.cells #[.int .i64 0, .int .i64 0, .slice none 0 0, .slice none 0 0] 25) := ⟨_, rfl⟩
            rw [← hX, ← hy4]
            have hb : Below X3.heap.size X3 X4 := by rw [hX]; exact (Below.refl _ _).alloc (Nat.le_refl _) _
            have hz4 : SBlk X4 y4 0 0 none 0 0 none 0 0 := by rw [hX, hy4]; exact SBlk.new _ _ _ _ _ _ _ _ _
            have hT4 := And.intro (hT3.1.below hb) (hT3.2.below hb)
            have HB4 := Lib.hid (below_then HB3.out hs3 hb)
            have hs4 := HB4.out.size
            have HZ44 := Lib.hid hz4
            have hlt4 : W.heap.size ≤ y4 := by rw [hy4]; exact hs3
            have hne4 : y4 ≠ y ∧ y4 ≠ y + 1 := by have h1 := hT3.1.lt; have h2 := hT3.2.lt; omega
            have hne45 : y4 ≠ y5 := by have h1 := HZ53.out.lt; omega
            have HOA4 := Lib.hid (HOA3.out.below hb)
            have HOB4 := Lib.hid (HOB3.out.below hb)
            have HZ54 := Lib.hid (HZ53.out.below hb)
            clear hb hX hy4 hz4
            refine hK.out _ _ ⟨hT4, fun _ _ => trivial⟩ ?_
            clear hK K
            (try simp only [Act.put, List.getElem_toArray, List.getElem_cons_succ, List.getElem_cons_zero, List.setIfInBounds_toArray, List.set_cons_succ, List.set_cons_zero])
            obtain ⟨pa, ca, qa, ma, da, rfl, hla, hpa⟩ := HOA4.out
            obtain ⟨pb, cb, qb, mb, db, rfl, hlb, hpb⟩ := HOB4.out
            clear hla hpa hlb hpb
            refine wpTwo_ready (rs := [6]) (by kernel_rfl) (by simp) ?_
            refine (AllTwo.cons rfl (fun K hK => ?_) AllTwo.nil)
            obtain ⟨⟨g0, g1, g2, g3⟩, gf⟩ := And.intro HZ44.out.cells HZ44.out.free
            have gf0 := gf 0
            have gf1 := gf 1
            have gf2 := gf 2
            have gf3 := gf 3
            obtain ⟨Xa, hXa⟩ : ∃ X : World, X = (((X4.setCell ⟨y4, 0, none⟩ (.int .i64 (ownS s).c)).setCell ⟨y4, 1, none⟩ (.int .i64 (ownS s).g)).setCell ⟨y4, 2, none⟩ (.slice pa (ownS s).ls.length ca)).setCell ⟨y4, 3, none⟩ (.slice qa ma da) := ⟨_, rfl⟩
            have hSA : SBlk Xa y4 (ownS s).c (ownS s).g pa (ownS s).ls.length ca qa ma da := by rw [hXa]; exact (((HZ44.out.set0 _).set1 _).set2 _ _ _).set3 _ _ _
            have hk4 : Keeps (fun q => q = y4) X4 Xa := by rw [hXa]; exact keeps4 X4 y4 _ _ _ _
            have hTa := And.intro (hT4.1.keeps hk4 (fun e => hne4.1 e.symm)) (hT4.2.keeps hk4 (fun e => hne4.2 e.symm))
            have HOAa := Lib.hid (HOA4.out.other HZ44.out hk4)
            have HOBa := Lib.hid (HOB4.out.other HZ44.out hk4)
            have HZ5a := Lib.hid (HZ54.out.keeps hk4 (fun e => hne45 e.symm))
            have HBa := Lib.hid (HB4.out.trans (hk4.below hs4 (fun q hq => by rw [hq]; exact hlt4)))
            go_simp
            rw [← hXa]
            refine hK.out _ _ ⟨hTa, fun _ _ => trivial⟩ ?_
            clear hK K g0 g1 g2 g3 gf gf0 gf1 gf2 gf3 hXa
            (try simp only [Act.put, List.getElem_toArray, List.getElem_cons_succ, List.getElem_cons_zero, List.setIfInBounds_toArray, List.set_cons_succ, List.set_cons_zero])
            refine wpTwo_ready (rs := [7]) (by kernel_rfl) (by simp) ?_
            refine (AllTwo.cons rfl (fun K hK => ?_) AllTwo.nil)
            obtain ⟨⟨g0, g1, g2, g3⟩, gf⟩ := And.intro HZ5a.out.cells HZ5a.out.free
            have gf0 := gf 0
            have gf1 := gf 1
            have gf2 := gf 2
            have gf3 := gf 3
            obtain ⟨Xb, hXb⟩ : ∃ X : World, X = (((Xa.setCell ⟨y5, 0, none⟩ (.int .i64 (ownS s1).c)).setCell ⟨y5, 1, none⟩ (.int .i64 (ownS s1).g)).setCell ⟨y5, 2, none⟩ (.slice pb (ownS s1).ls.length cb)).setCell ⟨y5, 3, none⟩ (.slice qb mb db) := ⟨_, rfl⟩
            have hSB : SBlk Xb y5 (ownS s1).c (ownS s1).g pb (ownS s1).ls.length cb qb mb db := by rw [hXb]; exact (((HZ5a.out.set0 _).set1 _).set2 _ _ _).set3 _ _ _
            have hk5 : Keeps (fun q => q = y5) Xa Xb := by rw [hXb]; exact keeps4 Xa y5 _ _ _ _
            have hTb := And.intro (hTa.1.keeps hk5 (fun e => hne5.1 e.symm)) (hTa.2.keeps hk5 (fun e => hne5.2 e.symm))
            have HOAb := Lib.hid (HOAa.out.other HZ5a.out hk5)
            have HOBb := Lib.hid (HOBa.out.other HZ5a.out hk5)
            have HBb := Lib.hid (HBa.out.trans (hk5.below HBa.out.size (fun q hq => by rw [hq]; exact hlt5)))
            have hSAb := hSA.keeps hk5 (fun e => hne45 e)
            go_simp
            rw [← hXb]
            refine hK.out _ _ ⟨hTb, fun _ _ => trivial⟩ ?_
            clear hK K g0 g1 g2 g3 gf gf0 gf1 gf2 gf3 hXb
            (try simp only [Act.put, List.getElem_toArray, List.getElem_cons_succ, List.getElem_cons_zero, List.setIfInBounds_toArray, List.set_cons_succ, List.set_cons_zero])
            refine wpTwo_end (by kernel_rfl) ?_ _
            go_wp2
            go_meet
            exact ⟨y4, y5, rfl, rfl, pa, ca, qa, ma, da, pb, cb, qb, mb, db, Lib.hid ⟨hTb.1, hTb.2, hSAb, hSB, HOAb.out.sat, HOBb.out.sat, HBb.out⟩⟩
        · go_simp
          obtain ⟨y4, hy4⟩ : ∃ q, q = X2.heap.size := ⟨_, rfl⟩
          obtain ⟨X3, hX⟩ : ∃ X : World, X = X2.alloc (.cells #[.int .i64 0, .int .i64 0, .slice none 0 0, .slice none 0 0] 25) := ⟨_, rfl⟩
          rw [← hX, ← hy4]
          have hb : Below X2.heap.size X2 X3 := by rw [hX]; exact (Below.refl _ _).alloc (Nat.le_refl _) _
          have hz4 : SBlk X3 y4 0 0 none 0 0 none 0 0 := by rw [hX, hy4]; exact SBlk.new _ _ _ _ _ _ _ _ _
          have hT3 := And.intro (hT2.1.below hb) (hT2.2.below hb)
          have HB3 := Lib.hid (below_then HB2.out hs2 hb)
          have hs3 := HB3.out.size
          have HZ43 := Lib.hid hz4
          have hlt4 : W.heap.size ≤ y4 := by rw [hy4]; exact hs2
          have hne4 : y4 ≠ y ∧ y4 ≠ y + 1 := by have h1 := hT2.1.lt; have h2 := hT2.2.lt; omega
          have hne45 : y4 ≠ y5 := by have h1 := HZ52.out.lt; omega
          have HOA3 := Lib.hid (HOA2.out.below hb)
          have HZ53 := Lib.hid (HZ52.out.below hb)
          clear hb hX hy4 hz4
          refine hK.out _ _ ⟨hT3, fun _ _ => trivial⟩ ?_
          clear hK K
          (try simp only [Act.put, List.getElem_toArray, List.getElem_cons_succ, List.getElem_cons_zero, List.setIfInBounds_toArray, List.set_cons_succ, List.set_cons_zero])
          refine wpTwo_ready (rs := [3]) (by kernel_rfl) (by simp) ?_
          refine (AllTwo.cons rfl (fun K hK => ?_) AllTwo.nil)
          · go_simp
            refine (OWY.out X3 HB3.out).mono ?_
            rintro e X4 ⟨⟨vB, rfl, hOB⟩, hb⟩
            have hT4 := And.intro (hT3.1.below hb) (hT3.2.below hb)
            have HB4 := Lib.hid (below_then HB3.out hs3 hb)
            have hs4 := HB4.out.size
            have HOB4 := Lib.hid hOB
            have HOA4 := Lib.hid (HOA3.out.below hb)
            have HZ44 := Lib.hid (HZ43.out.below hb)
            have HZ54 := Lib.hid (HZ53.out.below hb)
            clear hb hOB
            go_wp2_with fail
            refine hK.out _ _ ⟨hT4, fun _ _ => trivial⟩ ?_
            clear hK K
            (try simp only [Act.put, List.getElem_toArray, List.getElem_cons_succ, List.getElem_cons_zero, List.setIfInBounds_toArray, List.set_cons_succ, List.set_cons_zero])
            obtain ⟨pa, ca, qa, ma, da, rfl, hla, hpa⟩ := HOA4.out
            obtain ⟨pb, cb, qb, mb, db, rfl, hlb, hpb⟩ := HOB4.out
            clear hla hpa hlb hpb
            refine wpTwo_ready (rs := [6]) (by kernel_rfl) (by simp) ?_
            refine (AllTwo.cons rfl (fun K hK => ?_) AllTwo.nil)
            obtain ⟨⟨g0, g1, g2, g3⟩, gf⟩ := And.intro HZ44.out.cells HZ44.out.free
            have gf0 := gf 0
            have gf1 := gf 1
            have gf2 := gf 2
            have gf3 := gf 3
            obtain ⟨Xa, hXa⟩ : ∃ X : World, X = (((X4.setCell ⟨y4, 0, none⟩ (.int .i64 (ownS s).c)).setCell ⟨y4, 1, none⟩ (.int .i64 (ownS s).g)).setCell ⟨y4, 2, none⟩ (.slice pa (ownS s).ls.length ca)).setCell ⟨y4, 3, none⟩ (.slice qa ma da) := ⟨_, rfl⟩
            have hSA : SBlk Xa y4 (ownS s).c (ownS s).g pa (ownS s).ls.length ca qa ma da := by rw [hXa]; exact (((HZ44.out.set0 _).set1 _).set2 _ _ _).set3 _ _ _
            have hk4 : Keeps (fun q => q = y4) X4 Xa := by rw [hXa]; exact keeps4 X4 y4 _ _ _ _
            have hTa := And.intro (hT4.1.keeps hk4 (fun e => hne4.1 e.symm)) (hT4.2.keeps hk4 (fun e => hne4.2 e.symm))
            have HOAa := Lib.hid (HOA4.out.other HZ44.out hk4)
            have HOBa := Lib.hid (HOB4.out.other HZ44.out hk4)
            have HZ5a := Lib.hid (HZ54.out.keeps hk4 (fun e => hne45 e.symm))
            have HBa := Lib.hid (HB4.out.trans (hk4.below hs4 (fun q hq => by rw [hq]; exact hlt4)))
            go_simp
            rw [← hXa]
            refine hK.out _ _ ⟨hTa, fun _ _ => trivial⟩ ?_
            clear hK K g0 g1 g2 g3 gf gf0 gf1 gf2 gf3 hXa
            (try simp only [Act.put, List.getElem_toArray, List.getElem_cons_succ, List.getElem_cons_zero, List.setIfInBounds_toArray, List.set_cons_succ, List.set_cons_zero])
            refine wpTwo_ready (rs := [7]) (by kernel_rfl) (by simp) ?_
            refine (AllTwo.cons rfl (fun K hK => ?_) AllTwo.nil)
            obtain ⟨⟨g0, g1, g2, g3⟩, gf⟩ := And.intro HZ5a.out.cells HZ5a.out.free
            have gf0 := gf 0
            have gf1 := gf 1
            have gf2 := gf 2
            have gf3 := gf 3
            obtain ⟨Xb, hXb⟩ : ∃ X : World, X = (((Xa.setCell ⟨y5, 0, none⟩ (.int .i64 (ownS s1).c)).setCell ⟨y5, 1, none⟩ (.int .i64 (ownS s1).g)).setCell ⟨y5, 2, none⟩ (.slice pb (ownS s1).ls.length cb)).setCell ⟨y5, 3, none⟩ (.slice qb mb db) := ⟨_, rfl⟩
            have hSB : SBlk Xb y5 (ownS s1).c (ownS s1).g pb (ownS s1).ls.length cb qb mb db := by rw [hXb]; exact (((HZ5a.out.set0 _).set1 _).set2 _ _ _).set3 _ _ _
            have hk5 : Keeps (fun q => q = y5) Xa Xb := by rw [hXb]; exact keeps4 Xa y5 _ _ _ _
            have hTb := And.intro (hTa.1.keeps hk5 (fun e => hne5.1 e.symm)) (hTa.2.keeps hk5 (fun e => hne5.2 e.symm))
            have HOAb := Lib.hid (HOAa.out.other HZ5a.out hk5)
            have HOBb := Lib.hid (HOBa.out.other HZ5a.out hk5)
            have HBb := Lib.hid (HBa.out.trans (hk5.below HBa.out.size (fun q hq => by rw [hq]; exact hlt5)))
            have hSAb := hSA.keeps hk5 (fun e => hne45 e)
            go_simp
            rw [← hXb]
            refine hK.out _ _ ⟨hTb, fun _ _ => trivial⟩ ?_
            clear hK K g0 g1 g2 g3 gf gf0 gf1 gf2 gf3 hXb
            (try simp only [Act.put, List.getElem_toArray, List.getElem_cons_succ, List.getElem_cons_zero, List.setIfInBounds_toArray, List.set_cons_succ, List.set_cons_zero])
            refine wpTwo_end (by kernel_rfl) ?_ _
            go_wp2
            go_meet
            exact ⟨y4, y5, rfl, rfl, pa, ca, qa, ma, da, pb, cb, qb, mb, db, Lib.hid ⟨hTb.1, hTb.2, hSAb, hSB, HOAb.out.sat, HOBb.out.sat, HBb.out⟩⟩
      · go_simp
        obtain ⟨y4, hy4⟩ : ∃ q, q = X1.heap.size := ⟨_, rfl⟩
        obtain ⟨X2, hX⟩ : ∃ X : World, X = X1.alloc (.cells #[.int .i64 0, .int .i64 0, .slice none 0 0, .slice none 0 0] 25) := ⟨_, rfl⟩
        rw [← hX, ← hy4]
        have hb : Below X1.heap.size X1 X2 := by rw [hX]; exact (Below.refl _ _).alloc (Nat.le_refl _) _
        have hz4 : SBlk X2 y4 0 0 none 0 0 none 0 0 := by rw [hX, hy4]; exact SBlk.new _ _ _ _ _ _ _ _ _
        have hT2 := And.intro (hT1.1.below hb) (hT1.2.below hb)
        have HB2 := Lib.hid (below_then HB1.out hs1 hb)
        have hs2 := HB2.out.size
        have HZ42 := Lib.hid hz4
        have hlt4 : W.heap.size ≤ y4 := by rw [hy4]; exact hs1
        have hne4 : y4 ≠ y ∧ y4 ≠ y + 1 := by have h1 := hT1.1.lt; have h2 := hT1.2.lt; omega
        have hne45 : y4 ≠ y5 := by have h1 := HZ51.out.lt; omega
        have HZ52 := Lib.hid (HZ51.out.below hb)
        clear hb hX hy4 hz4
        refine hK.out _ _ ⟨hT2, fun _ _ => trivial⟩ ?_
        clear hK K
        (try simp only [Act.put, List.getElem_toArray, List.getElem_cons_succ, List.getElem_cons_zero, List.setIfInBounds_toArray, List.set_cons_succ, List.set_cons_zero])
        refine wpTwo_ready (rs := [1]) (by kernel_rfl) (by simp) ?_
        refine (AllTwo.cons rfl (fun K hK => ?_) AllTwo.nil)
        · go_simp
          refine (OWX.out X2 HB2.out).mono ?_
          rintro e X3 ⟨⟨vA, rfl, hOA⟩, hb⟩
          have hT3 := And.intro (hT2.1.below hb) (hT2.2.below hb)
          have HB3 := Lib.hid (below_then HB2.out hs2 hb)
          have hs3 := HB3.out.size
          have HOA3 := Lib.hid hOA
          have HZ43 := Lib.hid (HZ42.out.below hb)
          have HZ53 := Lib.hid (HZ52.out.below hb)
          clear hb hOA
          go_wp2_with fail
          refine hK.out _ _ ⟨hT3, fun _ _ => trivial⟩ ?_
          clear hK K
          (try simp only [Act.put, List.getElem_toArray, List.getElem_cons_succ, List.getElem_cons_zero, List.setIfInBounds_toArray, List.set_cons_succ, List.set_cons_zero])
          refine wpTwo_ready (rs := [3]) (by kernel_rfl) (by simp) ?_
          refine (AllTwo.cons rfl (fun K hK => ?_) AllTwo.nil)
          · go_simp
            refine (OWY.out X3 HB3.out).mono ?_
            rintro e X4 ⟨⟨vB, rfl, hOB⟩, hb⟩
            have hT4 := And.intro (hT3.1.below hb) (hT3.2.below hb)
            have HB4 := Lib.hid (below_then HB3.out hs3 hb)
            have hs4 := HB4.out.size
            have HOB4 := Lib.hid hOB
            have HOA4 := Lib.hid (HOA3.out.below hb)
            have HZ44 := Lib.hid (HZ43.out.below hb)
            have HZ54 := Lib.hid (HZ53.out.below hb)
            clear hb hOB
            go_wp2_with fail
            refine hK.out _ _ ⟨hT4, fun _ _ => trivial⟩ ?_
            clear hK K
            (try simp only [Act.put, List.getElem_toArray, List.getElem_cons_succ, List.getElem_cons_zero, List.setIfInBounds_toArray, List.set_cons_succ, List.set_cons_zero])
            obtain ⟨pa, ca, qa, ma, da, rfl, hla, hpa⟩ := HOA4.out
            obtain ⟨pb, cb, qb, mb, db, rfl, hlb, hpb⟩ := HOB4.out
            clear hla hpa hlb hpb
            refine wpTwo_ready (rs := [6]) (by kernel_rfl) (by simp) ?_
            refine (AllTwo.cons rfl (fun K hK => ?_) AllTwo.nil)
            obtain ⟨⟨g0, g1, g2, g3⟩, gf⟩ := And.intro HZ44.out.cells HZ44.out.free
            have gf0 := gf 0
            have gf1 := gf 1
            have gf2 := gf 2
            have gf3 := gf 3
            obtain ⟨Xa, hXa⟩ : ∃ X : World, X = (((X4.setCell ⟨y4, 0, none⟩ (.int .i64 (ownS s).c)).setCell ⟨y4, 1, none⟩ (.int .i64 (ownS s).g)).setCell ⟨y4, 2, none⟩ (.slice pa (ownS s).ls.length ca)).setCell ⟨y4, 3, none⟩ (.slice qa ma da) := ⟨_, rfl⟩
            have hSA : SBlk Xa y4 (ownS s).c (ownS s).g pa (ownS s).ls.length ca qa ma da := by rw [hXa]; exact (((HZ44.out.set0 _).set1 _).set2 _ _ _).set3 _ _ _
            have hk4 : Keeps (fun q => q = y4) X4 Xa := by rw [hXa]; exact keeps4 X4 y4 _ _ _ _
            have hTa := And.intro (hT4.1.keeps hk4 (fun e => hne4.1 e.symm)) (hT4.2.keeps hk4 (fun e => hne4.2 e.symm))
            have HOAa := Lib.hid (HOA4.out.other HZ44.out hk4)
            have HOBa := Lib.hid (HOB4.out.other HZ44.out hk4)
            have HZ5a := Lib.hid (HZ54.out.keeps hk4 (fun e => hne45 e.symm))
            have HBa := Lib.hid (HB4.out.trans (hk4.below hs4 (fun q hq => by rw [hq]; exact hlt4)))
            go_simp
            rw [← hXa]
            refine hK.out _ _ ⟨hTa, fun _ _ => trivial⟩ ?_
            clear hK K g0 g1 g2 g3 gf gf0 gf1 gf2 gf3 hXa
            (try simp only [Act.put, List.getElem_toArray, List.getElem_cons_succ, List.getElem_cons_zero, List.setIfInBounds_toArray, List.set_cons_succ, List.set_cons_zero])
            refine wpTwo_ready (rs := [7]) (by kernel_rfl) (by simp) ?_
            refine (AllTwo.cons rfl (fun K hK => ?_) AllTwo.nil)
            obtain ⟨⟨g0, g1, g2, g3⟩, gf⟩ := And.intro HZ5a.out.cells HZ5a.out.free
            have gf0 := gf 0
            have gf1 := gf 1
            have gf2 := gf 2
            have gf3 := gf 3
            obtain ⟨Xb, hXb⟩ : ∃ X : World, X = (((Xa.setCell ⟨y5, 0, none⟩ (.int .i64 (ownS s1).c)).setCell ⟨y5, 1, none⟩ (.int .i64 (ownS s1).g)).setCell ⟨y5, 2, none⟩ (.slice pb (ownS s1).ls.length cb)).setCell ⟨y5, 3, none⟩ (.slice qb mb db) := ⟨_, rfl⟩
            have hSB : SBlk Xb y5 (ownS s1).c (ownS s1).g pb (ownS s1).ls.length cb qb mb db := by rw [hXb]; exact (((HZ5a.out.set0 _).set1 _).set2 _ _ _).set3 _ _ _
            have hk5 : Keeps (fun q => q = y5) Xa Xb := by rw [hXb]; exact keeps4 Xa y5 _ _ _ _
            have hTb := And.intro (hTa.1.keeps hk5 (fun e => hne5.1 e.symm)) (hTa.2.keeps hk5 (fun e => hne5.2 e.symm))
            have HOAb := Lib.hid (HOAa.out.other HZ5a.out hk5)
            have HOBb := Lib.hid (HOBa.out.other HZ5a.out hk5)
            have HBb := Lib.hid (HBa.out.trans (hk5.below HBa.out.size (fun q hq => by rw [hq]; exact hlt5)))
            have hSAb := hSA.keeps hk5 (fun e => hne45 e)
            go_simp
            rw [← hXb]
            refine hK.out _ _ ⟨hTb, fun _ _ => trivial⟩ ?_
            clear hK K g0 g1 g2 g3 gf gf0 gf1 gf2 gf3 hXb
            (try simp only [Act.put, List.getElem_toArray, List.getElem_cons_succ, List.getElem_cons_zero, List.setIfInBounds_toArray, List.set_cons_succ, List.set_cons_zero])
            refine wpTwo_end (by kernel_rfl) ?_ _
            go_wp2
            go_meet
            exact ⟨y4, y5, rfl, rfl, pa, ca, qa, ma, da, pb, cb, qb, mb, db, Lib.hid ⟨hTb.1, hTb.2, hSAb, hSB, HOAb.out.sat, HOBb.out.sat, HBb.out⟩⟩
  case rest =>
  obtain ⟨y4, y5, rfl, rfl, pa, ca, qa, ma, da, pb, cb, qb, mb, db, HH⟩ := hcut
  obtain ⟨hh1, -, hh2, hh3, hh4, hh5, hh6⟩ := HH.out
  obtain ⟨a, ha⟩ : ∃ a, a = ownS s := ⟨_, rfl⟩
  obtain ⟨b, hbb⟩ : ∃ b, b = ownS s1 := ⟨_, rfl⟩
  have HFA := Lib.hid (ownS_few s)
  have HFB := Lib.hid (ownS_few s1)
  rw [← ha] at hh2 hh4 HFA
  rw [← hbb] at hh3 hh5 HFB
  have HAE := Lib.hid ha
  obtain ⟨na, hna⟩ : ∃ x, x = a.ls.length := ⟨_, rfl⟩
  obtain ⟨nb, hnb⟩ : ∃ x, x = b.ls.length := ⟨_, rfl⟩
  rw [← hna] at hh2 hh4
  rw [← hnb] at hh3 hh5
  have HTc := Lib.hid (And.intro hh1 (And.intro hh2 hh3))
  have HSc := Lib.hid (And.intro hh4 hh5)
  have HBc := Lib.hid hh6
  clear hh1 hh2 hh3 hh4 hh5 hh6 HH ha hbb hna hnb HB1 HBX HBY OWY
  have hlc : a.ls.length ≤ 1048576 := HFA.out.ls
  have HRI := Lib.hid (right3_c a.c a.g (.slice pa na ca) (.slice qa ma da) (a.ls.map List.length) a.ps wc HSc.out.1.parts.1.lens HSc.out.1.parts.2.nums (by rw [List.length_map]; exact hlc) (few_lens HFA.out) HFA.out.ps)
  have HCK := Lib.hid (fun (Z : World) (hb : Below wc.heap.size wc Z) => check3_c a.c a.g (.slice pa na ca) (.slice qa ma da) (a.ls.map List.length) a.ps Z (HSc.out.1.below hb).parts.1.lens (HSc.out.1.below hb).parts.2.nums (by rw [List.length_map]; exact hlc) (few_lens HFA.out) HFA.out.ps)
  clear hlc
  cases hsr : scriptB a.c a.g (a.ls.map List.length) a.ps with
  | true =>
    have HOK := Lib.hid ((okS_iff a).1 hsr)
    rw [hsr] at HRI
    simp only [hsr, if_true] at HCK
    have HSR := Lib.hid hsr
    clear hsr
    obtain ⟨e0, e1, e2, e3⟩ := HTc.out.2.1.cells
    go_wp2_with fail
    refine HRI.out.mono ?_
    rintro e w4 ⟨rfl, hb⟩
    have HB4' := Lib.hid hb
    have HT4' := Lib.hid (And.intro (HTc.out.1.below hb) (And.intro (HTc.out.2.1.below hb) (HTc.out.2.2.below hb)))
    clear hb e0 e1 e2 e3 HRI
    obtain ⟨e0, e1, e2, e3⟩ := HT4'.out.2.1.cells
    go_wp2_with fail
    refine (HCK.out _ HB4'.out).mono ?_
    rintro e w5 ⟨rfl, hb⟩
    have HT4 := Lib.hid (And.intro (HT4'.out.1.below hb) (And.intro (HT4'.out.2.1.below hb) (HT4'.out.2.2.below hb)))
    have HS4 := Lib.hid (And.intro ((HSc.out.1.below HB4'.out).below hb) ((HSc.out.2.below HB4'.out).below hb))
    have HB4 := Lib.hid (below_then HBc.out HBc.out.size (below_then HB4'.out HB4'.out.size hb))
    clear hb e0 e1 e2 e3 HCK HB4' HT4' HTc HSc HBc
    go_upto_region 6 with (fail)
    refine wpTwo_begin (T := fun w' => SBlk w' y s.c s.g p n cp q m d ∧ SBlk w' y4 a.c a.g pa na ca qa ma da ∧ SBlk w' y5 b.c b.g pb nb cb qb mb db) (S := fun _ => True) (late := fun _ => false) (by kernel_rfl) ?_
    obtain ⟨X0, hX0⟩ : ∃ X : World, X = w5.drew := ⟨_, rfl⟩
    rw [← hX0]
    have hbX : Below w5.heap.size w5 X0 := by rw [hX0]; exact (Below.refl _ _).drew
    have hT0 := And.intro (HT4.out.1.below hbX) (And.intro (HT4.out.2.1.below hbX) (HT4.out.2.2.below hbX))
    have HS0 := Lib.hid (And.intro (HS4.out.1.below hbX) (HS4.out.2.below hbX))
    have HB0 := Lib.hid (below_then HB4.out HB4.out.size hbX)
    have hs0 := HB0.out.size
    clear hX0 hbX
    refine wpTwo_takeT (i := 0) (v := .int .i64 0) rfl (by kernel_rfl) (by kernel_rfl) (by kernel_rfl) (fun _ _ _ h => h) ⟨by rfl, ?_⟩ hT0 ?_
    · intro w hTw
      go_simp
    (try simp only [Act.put, List.getElem_toArray, List.getElem_cons_zero, List.setIfInBounds_toArray, List.set_cons_succ, List.set_cons_zero])
    refine wpTwo_takeT (i := 1) (v := .bool true) rfl (by kernel_rfl) (by kernel_rfl) (by kernel_rfl) (fun _ _ _ h => h) ⟨by rfl, ?_⟩ hT0 ?_
    · intro w hTw
      go_simp
    (try simp only [Act.put, List.getElem_toArray, List.getElem_cons_succ, List.getElem_cons_zero, List.setIfInBounds_toArray, List.set_cons_succ, List.set_cons_zero])
    refine wpTwo_takeT (i := 2) (v := .bool true) rfl (by kernel_rfl) (by kernel_rfl) (by kernel_rfl) (fun _ _ _ h => h) ⟨by rfl, ?_⟩ hT0 ?_
    · intro w hTw
      go_simp
    (try simp only [Act.put, List.getElem_toArray, List.getElem_cons_succ, List.getElem_cons_zero, List.setIfInBounds_toArray, List.set_cons_succ, List.set_cons_zero])
    refine wpTwo_takeT (i := 3) (v := .bool false) rfl (by kernel_rfl) (by kernel_rfl) (by kernel_rfl) (fun _ _ _ h => h) ⟨by rfl, ?_⟩ hT0 ?_
    · intro w hTw
      go_simp
    (try simp only [Act.put, List.getElem_toArray, List.getElem_cons_succ, List.getElem_cons_zero, List.setIfInBounds_toArray, List.set_cons_succ, List.set_cons_zero])
    refine wpTwo_takeT (i := 4) (v := .bool false) rfl (by kernel_rfl) (by kernel_rfl) (by kernel_rfl) (fun _ _ _ h => h) ⟨by rfl, ?_⟩ hT0 ?_
    · intro w hTw
      go_simp
    (try simp only [Act.put, List.getElem_toArray, List.getElem_cons_succ, List.getElem_cons_zero, List.setIfInBounds_toArray, List.set_cons_succ, List.set_cons_zero])
    refine wpTwo_takeT (i := 5) (v := .int .i64 0) rfl (by kernel_rfl) (by kernel_rfl) (by kernel_rfl) (fun _ _ _ h => h) ⟨by rfl, ?_⟩ hT0 ?_
    · intro w hTw
      go_simp
    (try simp only [Act.put, List.getElem_toArray, List.getElem_cons_succ, List.getElem_cons_zero, List.setIfInBounds_toArray, List.set_cons_succ, List.set_cons_zero])
    refine wpTwo_takeT (i := 6) (v := .bool false) rfl (by kernel_rfl) (by kernel_rfl) (by kernel_rfl) (fun _ _ _ h => h) ⟨by rfl, ?_⟩ hT0 ?_
    · intro w hTw
      go_simp
    (try simp only [Act.put, List.getElem_toArray, List.getElem_cons_succ, List.getElem_cons_zero, List.setIfInBounds_toArray, List.set_cons_succ, List.set_cons_zero])
    refine wpTwo_takeT (i := 7) (v := .bool false) rfl (by kernel_rfl) (by kernel_rfl) (by kernel_rfl) (fun _ _ _ h => h) ⟨by rfl, ?_⟩ hT0 ?_
    · intro w hTw
      go_simp
    (try simp only [Act.put, List.getElem_toArray, List.getElem_cons_succ, List.getElem_cons_zero, List.setIfInBounds_toArray, List.set_cons_succ, List.set_cons_zero])
    refine wpTwo_skip (i := 8) rfl (by kernel_rfl) (by kernel_rfl) (by kernel_rfl) (fun _ _ _ h => h) (by rfl) hT0 ?_
    (try simp only [Act.put, List.getElem_toArray, List.getElem_cons_succ, List.getElem_cons_zero, List.setIfInBounds_toArray, List.set_cons_succ, List.set_cons_zero])
    refine wpTwo_skip (i := 9) rfl (by kernel_rfl) (by kernel_rfl) (by kernel_rfl) (fun _ _ _ h => h) (by rfl) hT0 ?_
    (try simp only [Act.put, List.getElem_toArray, List.getElem_cons_succ, List.getElem_cons_zero, List.setIfInBounds_toArray, List.set_cons_succ, List.set_cons_zero])
    refine wpTwo_takeT (i := 10) (v := .bool false) rfl (by kernel_rfl) (by kernel_rfl) (by kernel_rfl) (fun _ _ _ h => h) ⟨by rfl, ?_⟩ hT0 ?_
    · intro w hTw
      go_simp
    (try simp only [Act.put, List.getElem_toArray, List.getElem_cons_succ, List.getElem_cons_zero, List.setIfInBounds_toArray, List.set_cons_succ, List.set_cons_zero])
    refine wpTwo_takeT (i := 11) (v := .bool false) rfl (by kernel_rfl) (by kernel_rfl) (by kernel_rfl) (fun _ _ _ h => h) ⟨by rfl, ?_⟩ hT0 ?_
    · intro w hTw
      go_simp
    (try simp only [Act.put, List.getElem_toArray, List.getElem_cons_succ, List.getElem_cons_zero, List.setIfInBounds_toArray, List.set_cons_succ, List.set_cons_zero])
    refine wpTwo_takeT (i := 12) (v := .bool false) rfl (by kernel_rfl) (by kernel_rfl) (by kernel_rfl) (fun _ _ _ h => h) ⟨by rfl, ?_⟩ hT0 ?_
    · intro w hTw
      go_simp
    (try simp only [Act.put, List.getElem_toArray, List.getElem_cons_succ, List.getElem_cons_zero, List.setIfInBounds_toArray, List.set_cons_succ, List.set_cons_zero])
    refine wpTwo_takeT (i := 13) (v := .agg #[.int .i64 a.c, .int .i64 a.g, .slice pa na ca, .slice qa ma da]) rfl (by kernel_rfl) (by kernel_rfl) (by kernel_rfl) (fun _ _ _ h => h) ⟨by rfl, ?_⟩ hT0 ?_
    · intro w hTw
      obtain ⟨t0, t1, t2, t3⟩ := SBlk.cells hTw.2.1
      go_simp
    (try simp only [Act.put, List.getElem_toArray, List.getElem_cons_succ, List.getElem_cons_zero, List.setIfInBounds_toArray, List.set_cons_succ, List.set_cons_zero])
    refine wpTwo_takeT (i := 14) (v := .agg #[.int .i64 b.c, .int .i64 b.g, .slice pb nb cb, .slice qb mb db]) rfl (by kernel_rfl) (by kernel_rfl) (by kernel_rfl) (fun _ _ _ h => h) ⟨by rfl, ?_⟩ hT0 ?_
    · intro w hTw
      obtain ⟨t0, t1, t2, t3⟩ := SBlk.cells hTw.2.2
      go_simp
    (try simp only [Act.put, List.getElem_toArray, List.getElem_cons_succ, List.getElem_cons_zero, List.setIfInBounds_toArray, List.set_cons_succ, List.set_cons_zero])
    refine wpTwo_takeT (i := 16) (v := .agg #[.int .i64 a.c, .int .i64 a.g, .slice pa na ca, .slice qa ma da]) rfl (by kernel_rfl) (by kernel_rfl) (by kernel_rfl) (fun _ _ _ h => h) ⟨by rfl, ?_⟩ hT0 ?_
    · intro w hTw
      obtain ⟨t0, t1, t2, t3⟩ := SBlk.cells hTw.2.1
      go_simp
    (try simp only [Act.put, List.getElem_toArray, List.getElem_cons_succ, List.getElem_cons_zero, List.setIfInBounds_toArray, List.set_cons_succ, List.set_cons_zero])
    refine wpTwo_takeT (i := 17) (v := .agg #[.int .i64 b.c, .int .i64 b.g, .slice pb nb cb, .slice qb mb db]) rfl (by kernel_rfl) (by kernel_rfl) (by kernel_rfl) (fun _ _ _ h => h) ⟨by rfl, ?_⟩ hT0 ?_
    · intro w hTw
      obtain ⟨t0, t1, t2, t3⟩ := SBlk.cells hTw.2.2
      go_simp
    (try simp only [Act.put, List.getElem_toArray, List.getElem_cons_succ, List.getElem_cons_zero, List.setIfInBounds_toArray, List.set_cons_succ, List.set_cons_zero])
    refine wpTwo_ready (rs := [15]) (by kernel_rfl) (by simp) ?_
    refine (AllTwo.cons rfl (fun K hK => ?_) AllTwo.nil)
    go_simp
    refine (same_c (.agg #[.int .i64 a.c, .int .i64 a.g, .slice pa na ca, .slice qa ma da]) (.agg #[.int .i64 b.c, .int .i64 b.g, .slice pb nb cb, .slice qb mb db]) a b X0 HS0.out.1 HS0.out.2 HFA.out HFB.out).mono ?_
    rintro e X1 ⟨rfl, hb⟩
    have hT1 := And.intro (hT0.1.below hb) (And.intro (hT0.2.1.below hb) (hT0.2.2.below hb))
    have HS1 := Lib.hid (And.intro (HS0.out.1.below hb) (HS0.out.2.below hb))
    have HB1 := Lib.hid (below_then HB0.out hs0 hb)
    have hs1 := HB1.out.size
    clear hb
    go_wp2_with fail
    refine hK.out _ _ ⟨hT1, fun _ _ => trivial⟩ ?_
    clear hK K
    (try simp only [Act.put, List.getElem_toArray, List.getElem_cons_succ, List.getElem_cons_zero, List.setIfInBounds_toArray, List.set_cons_succ, List.set_cons_zero])
    obtain ⟨sb, hsb⟩ : ∃ x, x = sameB a b := ⟨_, rfl⟩
    rw [← hsb]
    refine wpTwo_ready (rs := [18]) (by kernel_rfl) (by simp) ?_
    refine (AllTwo.cons rfl (fun K hK => ?_) AllTwo.nil)
    have HRS := Lib.hid (refSame_c (.agg #[.int .i64 a.c, .int .i64 a.g, .slice pa na ca, .slice qa ma da]) (.agg #[.int .i64 b.c, .int .i64 b.g, .slice pb nb cb, .slice qb mb db]) a b X1 HS1.out.1 HS1.out.2 HFA.out HFB.out)
    rw [← hsb] at HRS
    have hbb : (sb != sb) = false := by cases sb <;> rfl
    go_simp
    refine (HRS.out).mono ?_
    rintro e X2 ⟨rfl, hb⟩
    have hT2 := And.intro (hT1.1.below hb) (And.intro (hT1.2.1.below hb) (hT1.2.2.below hb))
    have HS2 := Lib.hid (And.intro (HS1.out.1.below hb) (HS1.out.2.below hb))
    have HB2 := Lib.hid (below_then HB1.out hs1 hb)
    have hs2 := HB2.out.size
    clear hb
    go_wp2_with fail
    refine hK.out _ _ ⟨hT2, fun _ _ => trivial⟩ ?_
    clear hK K
    (try simp only [Act.put, List.getElem_toArray, List.getElem_cons_succ, List.getElem_cons_zero, List.setIfInBounds_toArray, List.set_cons_succ, List.set_cons_zero])
    have HSB := Lib.hid hsb
    clear hsb HRS
    refine wpTwo_takeT (i := 19) (v := .bool false) rfl (by kernel_rfl) (by kernel_rfl) (by kernel_rfl) (fun _ _ _ h => h) ⟨by rfl, ?_⟩ hT2 ?_
    · intro w hTw
      go_simp
    (try simp only [Act.put, List.getElem_toArray, List.getElem_cons_succ, List.getElem_cons_zero, List.setIfInBounds_toArray, List.set_cons_succ, List.set_cons_zero])
    clear hbb
    refine wpTwo_takeT (i := 20) (v := .bool false) rfl (by kernel_rfl) (by kernel_rfl) (by kernel_rfl) (fun _ _ _ h => h) ⟨by rfl, ?_⟩ hT2 ?_
    · intro w hTw
      go_simp
    (try simp only [Act.put, List.getElem_toArray, List.getElem_cons_succ, List.getElem_cons_zero, List.setIfInBounds_toArray, List.set_cons_succ, List.set_cons_zero])
    refine wpTwo_takeT (i := 21) (v := .bool false) rfl (by kernel_rfl) (by kernel_rfl) (by kernel_rfl) (fun _ _ _ h => h) ⟨by rfl, ?_⟩ hT2 ?_
    · intro w hTw
      go_simp
    (try simp only [Act.put, List.getElem_toArray, List.getElem_cons_succ, List.getElem_cons_zero, List.setIfInBounds_toArray, List.set_cons_succ, List.set_cons_zero])
    refine wpTwo_takeT (i := 22) (v := .agg #[.int .i64 a.c, .int .i64 a.g, .slice pa na ca, .slice qa ma da]) rfl (by kernel_rfl) (by kernel_rfl) (by kernel_rfl) (fun _ _ _ h => h) ⟨by rfl, ?_⟩ hT2 ?_
    · intro w hTw
      obtain ⟨t0, t1, t2, t3⟩ := SBlk.cells hTw.2.1
      go_simp
    (try simp only [Act.put, List.getElem_toArray, List.getElem_cons_succ, List.getElem_cons_zero, List.setIfInBounds_toArray, List.set_cons_succ, List.set_cons_zero])
    refine wpTwo_takeT (i := 23) (v := .agg #[.int .i64 s.c, .int .i64 s.g, .slice p n cp, .slice q m d]) rfl (by kernel_rfl) (by kernel_rfl) (by kernel_rfl) (fun _ _ _ h => h) ⟨by rfl, ?_⟩ hT2 ?_
    · intro w hTw
      obtain ⟨t0, t1, t2, t3⟩ := SBlk.cells hTw.1
      go_simp
    (try simp only [Act.put, List.getElem_toArray, List.getElem_cons_succ, List.getElem_cons_zero, List.setIfInBounds_toArray, List.set_cons_succ, List.set_cons_zero])
    refine wpTwo_ready (rs := [24]) (by kernel_rfl) (by simp) ?_
    refine (AllTwo.cons rfl (fun K hK => ?_) AllTwo.nil)
    go_simp
    refine (OWX.out X2 HB2.out).mono ?_
    rintro e X3 ⟨⟨vA, rfl, hOA⟩, hb⟩
    have hT3 := And.intro (hT2.1.below hb) (And.intro (hT2.2.1.below hb) (hT2.2.2.below hb))
    have HS3 := Lib.hid (And.intro (HS2.out.1.below hb) (HS2.out.2.below hb))
    have HB3 := Lib.hid (below_then HB2.out hs2 hb)
    have hs3 := HB3.out.size
    have hsa := hOA.sat
    rw [← HAE.out] at hsa
    clear hb
    go_wp2_with fail
    refine hK.out _ _ ⟨hT3, fun _ _ => trivial⟩ ?_
    clear hK K
    (try simp only [Act.put, List.getElem_toArray, List.getElem_cons_succ, List.getElem_cons_zero, List.setIfInBounds_toArray, List.set_cons_succ, List.set_cons_zero])
    clear hOA
    refine wpTwo_ready (rs := [25]) (by kernel_rfl) (by simp) ?_
    refine (AllTwo.cons rfl (fun K hK => ?_) AllTwo.nil)
    have HSS := Lib.hid (same_c (.agg #[.int .i64 a.c, .int .i64 a.g, .slice pa na ca, .slice qa ma da]) vA a a X3 HS3.out.1 hsa HFA.out HFA.out)
    rw [sameB_refl] at HSS
    go_simp
    refine (HSS.out).mono ?_
    rintro e X4 ⟨rfl, hb⟩
    have hT4 := And.intro (hT3.1.below hb) (And.intro (hT3.2.1.below hb) (hT3.2.2.below hb))
    have HS4 := Lib.hid (And.intro (HS3.out.1.below hb) (HS3.out.2.below hb))
    have HB4 := Lib.hid (below_then HB3.out hs3 hb)
    have hs4 := HB4.out.size
    clear hb
    go_wp2_with fail
    refine hK.out _ _ ⟨hT4, fun _ _ => trivial⟩ ?_
    clear hK K
    (try simp only [Act.put, List.getElem_toArray, List.getElem_cons_succ, List.getElem_cons_zero, List.setIfInBounds_toArray, List.set_cons_succ, List.set_cons_zero])
    clear HSS hsa
    refine wpTwo_takeT (i := 26) (v := .bool false) rfl (by kernel_rfl) (by kernel_rfl) (by kernel_rfl) (fun _ _ _ h => h) ⟨by rfl, ?_⟩ hT4 ?_
    · intro w hTw
      go_simp
    (try simp only [Act.put, List.getElem_toArray, List.getElem_cons_succ, List.getElem_cons_zero, List.setIfInBounds_toArray, List.set_cons_succ, List.set_cons_zero])
    refine wpTwo_takeT (i := 27) (v := .bool false) rfl (by kernel_rfl) (by kernel_rfl) (by kernel_rfl) (fun _ _ _ h => h) ⟨by rfl, ?_⟩ hT4 ?_
    · intro w hTw
      go_simp
    (try simp only [Act.put, List.getElem_toArray, List.getElem_cons_succ, List.getElem_cons_zero, List.setIfInBounds_toArray, List.set_cons_succ, List.set_cons_zero])
    refine wpTwo_end (by kernel_rfl) ?_ _
    have HT4b := Lib.hid hT4
    obtain ⟨e0, e1, e2, e3⟩ := hT4.2.1.cells
    have HOF := Lib.hid (fun (Z : World) (hb : Below X4.heap.size X4 Z) => ofAny_c (.agg #[.int .i64 a.c, .int .i64 a.g, .slice pa na ca, .slice qa ma da]) a Z (HS4.out.1.below hb) (HTT.out.below (below_then HB4.out hs4 hb)) HFA.out)
    clear hT0 hT1 hT2 hT3 hT4
    go_wp2_with fail
    refine (HOF.out _ (Below.refl _ _)).mono ?_
    rintro e X5 ⟨hO, hb⟩
    rw [HSR.out] at hO
    unfold OfPost at hO
    have HT5 := Lib.hid (And.intro (HT4b.out.1.below hb) (And.intro (HT4b.out.2.1.below hb) (HT4b.out.2.2.below hb)))
    have HS5 := Lib.hid (And.intro (HS4.out.1.below hb) (HS4.out.2.below hb))
    have HB5 := Lib.hid (below_then HB4.out hs4 hb)
    have hs5 := HB5.out.size
    clear hb e0 e1 e2 e3 HOF HT4b HS4 HB4 hs4
    rw [if_pos rfl] at hO
    obtain ⟨pw, cw, rfl, hOw⟩ := hO
    obtain ⟨wl, hwl⟩ : ∃ l, l = wordsL a := ⟨_, rfl⟩
    rw [← hwl] at hOw ⊢
    obtain ⟨nw, hnw⟩ : ∃ x, x = wl.length := ⟨_, rfl⟩
    rw [← hnw] at hOw ⊢
    have HOW := Lib.hid hOw
    have HWL := Lib.hid (And.intro hwl hnw)
    obtain ⟨e0, e1, e2, e3⟩ := HT5.out.2.1.cells
    have HRW := Lib.hid (refWords_c (.agg #[.int .i64 a.c, .int .i64 a.g, .slice pa na ca, .slice qa ma da]) a X5 HS5.out.1 HOK.out)
    rw [← hwl, ← hnw] at HRW
    clear hOw hwl hnw
    go_wp2_with fail
    refine HRW.out.mono ?_
    rintro e X6 ⟨⟨pv, cv, rfl, hOv⟩, hb⟩
    have HT6 := Lib.hid (And.intro (HT5.out.1.below hb) (And.intro (HT5.out.2.1.below hb) (HT5.out.2.2.below hb)))
    have HS6 := Lib.hid (And.intro (HS5.out.1.below hb) (HS5.out.2.below hb))
    have HOW6 := Lib.hid (And.intro (owns_below HOW.out hb) hOv)
    have HB4 := Lib.hid (below_then HB5.out hs5 hb)
    have HT4 := Lib.hid HT6.out
    have HS4 := Lib.hid HS6.out
    clear hb hOv e0 e1 e2 e3 HRW HT5 HS5 HB5 hs5 HT6 HS6 HOW
    go_upto_region 14 with (fail)
    refine wpTwo_begin (T := fun w' => SBlk w' y s.c s.g p n cp q m d ∧ SBlk w' y4 a.c a.g pa na ca qa ma da ∧ SBlk w' y5 b.c b.g pb nb cb qb mb db) (S := fun _ => True) (late := fun _ => false) (by kernel_rfl) ?_
    obtain ⟨X0, hX0⟩ : ∃ X : World, X = X6.drew := ⟨_, rfl⟩
    rw [← hX0]
    have hbX : Below X6.heap.size X6 X0 := by rw [hX0]; exact (Below.refl _ _).drew
    have hT0 := And.intro (HT4.out.1.below hbX) (And.intro (HT4.out.2.1.below hbX) (HT4.out.2.2.below hbX))
    have HS0 := Lib.hid (And.intro (HS4.out.1.below hbX) (HS4.out.2.below hbX))
    have HB0 := Lib.hid (below_then HB4.out HB4.out.size hbX)
    have hs0 := HB0.out.size
    have HOW7 := Lib.hid (And.intro (owns_below HOW6.out.1 hbX) (owns_below HOW6.out.2 hbX))
    clear hX0 hbX
    refine wpTwo_takeT (i := 0) (v := .int .i64 0) rfl (by kernel_rfl) (by kernel_rfl) (by kernel_rfl) (fun _ _ _ h => h) ⟨by rfl, ?_⟩ hT0 ?_
    · intro w hTw
      go_simp
    (try simp only [Act.put, List.getElem_toArray, List.getElem_cons_zero, List.setIfInBounds_toArray, List.set_cons_succ, List.set_cons_zero])
    refine wpTwo_takeT (i := 1) (v := .int .i64 0) rfl (by kernel_rfl) (by kernel_rfl) (by kernel_rfl) (fun _ _ _ h => h) ⟨by rfl, ?_⟩ hT0 ?_
    · intro w hTw
      go_simp
    (try simp only [Act.put, List.getElem_toArray, List.getElem_cons_succ, List.getElem_cons_zero, List.setIfInBounds_toArray, List.set_cons_succ, List.set_cons_zero])
    refine wpTwo_takeT (i := 2) (v := .bool true) rfl (by kernel_rfl) (by kernel_rfl) (by kernel_rfl) (fun _ _ _ h => h) ⟨by rfl, ?_⟩ hT0 ?_
    · intro w hTw
      go_simp
    (try simp only [Act.put, List.getElem_toArray, List.getElem_cons_succ, List.getElem_cons_zero, List.setIfInBounds_toArray, List.set_cons_succ, List.set_cons_zero])
    refine wpTwo_takeT (i := 3) (v := .bool true) rfl (by kernel_rfl) (by kernel_rfl) (by kernel_rfl) (fun _ _ _ h => h) ⟨by rfl, ?_⟩ hT0 ?_
    · intro w hTw
      go_simp
    (try simp only [Act.put, List.getElem_toArray, List.getElem_cons_succ, List.getElem_cons_zero, List.setIfInBounds_toArray, List.set_cons_succ, List.set_cons_zero])
    refine wpTwo_takeT (i := 4) (v := .slice pw nw cw) rfl (by kernel_rfl) (by kernel_rfl) (by kernel_rfl) (fun _ _ _ h => h) ⟨by rfl, ?_⟩ hT0 ?_
    · intro w hTw
      go_simp
    (try simp only [Act.put, List.getElem_toArray, List.getElem_cons_succ, List.getElem_cons_zero, List.setIfInBounds_toArray, List.set_cons_succ, List.set_cons_zero])
    refine wpTwo_takeT (i := 5) (v := .slice pv nw cv) rfl (by kernel_rfl) (by kernel_rfl) (by kernel_rfl) (fun _ _ _ h => h) ⟨by rfl, ?_⟩ hT0 ?_
    · intro w hTw
      go_simp
    (try simp only [Act.put, List.getElem_toArray, List.getElem_cons_succ, List.getElem_cons_zero, List.setIfInBounds_toArray, List.set_cons_succ, List.set_cons_zero])
    refine wpTwo_ready (rs := [6]) (by kernel_rfl) (by simp) ?_
    refine (AllTwo.cons rfl (fun K hK => ?_) AllTwo.nil)
    have HEQ := Lib.hid (show Calls Tryd.prog 16 #[.slice pw nw cw, .slice pv nw cv] X0 fun e w' => e = .returned (.bool true) ∧ Below X0.heap.size X0 w' from by
      have e : wl.map nv = (wl.map Int.ofNat).map (Value.int .u64) := by rw [List.map_map]; rfl
      have g1 := HOW7.out.1
      have g2 := HOW7.out.2
      rw [e] at g1 g2
      have hl : (wl.map Int.ofNat).length = nw := by rw [List.length_map, HWL.out.2]
      have hwb : nw ≤ 9223372036854775807 := by
        rcases g1.2 with ⟨_, h0⟩ | ⟨g, cap, cur, e, _, _, hle, hmx, _⟩
        · omega
        · unfold maxLen at hmx; omega
      have h1 := equalW_c (.slice pw nw cw) (.slice pv nw cv) (wl.map Int.ofNat) (wl.map Int.ofNat) X0 (nums_of_owns hl g1) (nums_of_owns hl g2) (by rw [hl]; exact hwb) (by rw [hl]; exact hwb)
      rw [decide_eq_true rfl] at h1
      exact h1)
    go_simp
    refine (HEQ.out).mono ?_
    rintro e X1 ⟨rfl, hb⟩
    have hT1 := And.intro (hT0.1.below hb) (And.intro (hT0.2.1.below hb) (hT0.2.2.below hb))
    have HS1 := Lib.hid (And.intro (HS0.out.1.below hb) (HS0.out.2.below hb))
    have HB1 := Lib.hid (below_then HB0.out hs0 hb)
    have hs1 := HB1.out.size
    clear hb
    go_wp2_with fail
    refine hK.out _ _ ⟨hT1, fun _ _ => trivial⟩ ?_
    clear hK K
    (try simp only [Act.put, List.getElem_toArray, List.getElem_cons_succ, List.getElem_cons_zero, List.setIfInBounds_toArray, List.set_cons_succ, List.set_cons_zero])
    clear HEQ
    refine wpTwo_takeT (i := 7) (v := .bool true) rfl (by kernel_rfl) (by kernel_rfl) (by kernel_rfl) (fun _ _ _ h => h) ⟨by rfl, ?_⟩ hT1 ?_
    · intro w hTw
      go_simp
    (try simp only [Act.put, List.getElem_toArray, List.getElem_cons_succ, List.getElem_cons_zero, List.setIfInBounds_toArray, List.set_cons_succ, List.set_cons_zero])
    refine wpTwo_takeT (i := 8) (v := .bool true) rfl (by kernel_rfl) (by kernel_rfl) (by kernel_rfl) (fun _ _ _ h => h) ⟨by rfl, ?_⟩ hT1 ?_
    · intro w hTw
      go_simp
    (try simp only [Act.put, List.getElem_toArray, List.getElem_cons_succ, List.getElem_cons_zero, List.setIfInBounds_toArray, List.set_cons_succ, List.set_cons_zero])
    refine wpTwo_takeT (i := 9) (v := .slice pp k8 dp) rfl (by kernel_rfl) (by kernel_rfl) (by kernel_rfl) (fun _ _ _ h => h) ⟨by rfl, ?_⟩ hT1 ?_
    · intro w hTw
      go_simp
    (try simp only [Act.put, List.getElem_toArray, List.getElem_cons_succ, List.getElem_cons_zero, List.setIfInBounds_toArray, List.set_cons_succ, List.set_cons_zero])
    refine wpTwo_takeT (i := 11) (v := .slice pp k8 dp) rfl (by kernel_rfl) (by kernel_rfl) (by kernel_rfl) (fun _ _ _ h => h) ⟨by rfl, ?_⟩ hT1 ?_
    · intro w hTw
      go_simp
    (try simp only [Act.put, List.getElem_toArray, List.getElem_cons_succ, List.getElem_cons_zero, List.setIfInBounds_toArray, List.set_cons_succ, List.set_cons_zero])
    refine wpTwo_ready (rs := [10]) (by kernel_rfl) (by simp) ?_
    refine (AllTwo.cons rfl (fun K hK => ?_) AllTwo.nil)
    have HR1 := Lib.hid (runsF_c (.slice pp k8 dp) xs X1 (HPP.out.below' HB1.out).nums HXL.out)
    go_simp
    refine (HR1.out).mono ?_
    rintro e X2 ⟨⟨vr, rfl, hvr⟩, hb⟩
    have hT2 := And.intro (hT1.1.below hb) (And.intro (hT1.2.1.below hb) (hT1.2.2.below hb))
    have HS2 := Lib.hid (And.intro (HS1.out.1.below hb) (HS1.out.2.below hb))
    have HB2 := Lib.hid (below_then HB1.out hs1 hb)
    have hs2 := HB2.out.size
    clear hb
    go_wp2_with fail
    refine hK.out _ _ ⟨hT2, fun _ _ => trivial⟩ ?_
    clear hK K
    (try simp only [Act.put, List.getElem_toArray, List.getElem_cons_succ, List.getElem_cons_zero, List.setIfInBounds_toArray, List.set_cons_succ, List.set_cons_zero])
    clear HR1
    refine wpTwo_ready (rs := [12]) (by kernel_rfl) (by simp) ?_
    refine (AllTwo.cons rfl (fun K hK => ?_) AllTwo.nil)
    have HR2 := Lib.hid (rruns_c (.slice pp k8 dp) xs X2 (HPP.out.below' HB2.out).nums HXL.out)
    go_simp
    refine (HR2.out).mono ?_
    rintro e X3 ⟨⟨vq, rfl, hvq⟩, hb⟩
    have hT3 := And.intro (hT2.1.below hb) (And.intro (hT2.2.1.below hb) (hT2.2.2.below hb))
    have HS3 := Lib.hid (And.intro (HS2.out.1.below hb) (HS2.out.2.below hb))
    have HB3 := Lib.hid (below_then HB2.out hs2 hb)
    have hs3 := HB3.out.size
    have hvr2 := owns_below hvr hb
    clear hb
    go_wp2_with fail
    refine hK.out _ _ ⟨hT3, fun _ _ => trivial⟩ ?_
    clear hK K
    (try simp only [Act.put, List.getElem_toArray, List.getElem_cons_succ, List.getElem_cons_zero, List.setIfInBounds_toArray, List.set_cons_succ, List.set_cons_zero])
    clear HR2 hvr
    obtain ⟨rs, hrs⟩ : ∃ r, r = runsR xs := ⟨_, rfl⟩
    rw [← hrs] at hvr2 hvq
    obtain ⟨nr, hnr⟩ : ∃ r, r = rs.length := ⟨_, rfl⟩
    rw [← hnr] at hvr2 hvq
    obtain ⟨pr, cr, rfl⟩ := owns_slice hvr2
    obtain ⟨pq, cq, rfl⟩ := owns_slice hvq
    refine wpTwo_ready (rs := [13]) (by kernel_rfl) (by simp) ?_
    refine (AllTwo.cons rfl (fun K hK => ?_) AllTwo.nil)
    have HEQ := Lib.hid (equalR_same pr pq nr cr cq rs X3 hnr (VRow.of_owns hvr2) (VRow.of_owns hvq) (by have := (runs_few' (runs_ok xs)); rw [runs_flat, ← hrs, ← hnr] at this; have := HXL.out; omega))
    clear hvr2 hvq hrs hnr
    go_simp
    refine (HEQ.out).mono ?_
    rintro e X4 ⟨rfl, hb⟩
    have hT4 := And.intro (hT3.1.below hb) (And.intro (hT3.2.1.below hb) (hT3.2.2.below hb))
    have HS4 := Lib.hid (And.intro (HS3.out.1.below hb) (HS3.out.2.below hb))
    have HB4 := Lib.hid (below_then HB3.out hs3 hb)
    have hs4 := HB4.out.size
    clear hb
    go_wp2_with fail
    refine hK.out _ _ ⟨hT4, fun _ _ => trivial⟩ ?_
    clear hK K
    (try simp only [Act.put, List.getElem_toArray, List.getElem_cons_succ, List.getElem_cons_zero, List.setIfInBounds_toArray, List.set_cons_succ, List.set_cons_zero])
    clear HEQ
    refine wpTwo_takeT (i := 14) (v := .bool true) rfl (by kernel_rfl) (by kernel_rfl) (by kernel_rfl) (fun _ _ _ h => h) ⟨by rfl, ?_⟩ hT4 ?_
    · intro w hTw
      go_simp
    (try simp only [Act.put, List.getElem_toArray, List.getElem_cons_succ, List.getElem_cons_zero, List.setIfInBounds_toArray, List.set_cons_succ, List.set_cons_zero])
    refine wpTwo_takeT (i := 15) (v := .bool true) rfl (by kernel_rfl) (by kernel_rfl) (by kernel_rfl) (fun _ _ _ h => h) ⟨by rfl, ?_⟩ hT4 ?_
    · intro w hTw
      go_simp
    (try simp only [Act.put, List.getElem_toArray, List.getElem_cons_succ, List.getElem_cons_zero, List.setIfInBounds_toArray, List.set_cons_succ, List.set_cons_zero])
    refine wpTwo_takeT (i := 16) (v := .agg #[.int .i64 a.c, .int .i64 a.g, .slice pa na ca, .slice qa ma da]) rfl (by kernel_rfl) (by kernel_rfl) (by kernel_rfl) (fun _ _ _ h => h) ⟨by rfl, ?_⟩ hT4 ?_
    · intro w hTw
      obtain ⟨t0, t1, t2, t3⟩ := SBlk.cells hTw.2.1
      go_simp
    (try simp only [Act.put, List.getElem_toArray, List.getElem_cons_succ, List.getElem_cons_zero, List.setIfInBounds_toArray, List.set_cons_succ, List.set_cons_zero])
    refine wpTwo_takeT (i := 17) (v := .agg #[.int .i64 s.c, .int .i64 s.g, .slice p n cp, .slice q m d]) rfl (by kernel_rfl) (by kernel_rfl) (by kernel_rfl) (fun _ _ _ h => h) ⟨by rfl, ?_⟩ hT4 ?_
    · intro w hTw
      obtain ⟨t0, t1, t2, t3⟩ := SBlk.cells hTw.1
      go_simp
    (try simp only [Act.put, List.getElem_toArray, List.getElem_cons_succ, List.getElem_cons_zero, List.setIfInBounds_toArray, List.set_cons_succ, List.set_cons_zero])
    refine wpTwo_ready (rs := [18]) (by kernel_rfl) (by simp) ?_
    refine (AllTwo.cons rfl (fun K hK => ?_) AllTwo.nil)
    go_simp
    refine (OWX.out X4 HB4.out).mono ?_
    rintro e X5 ⟨⟨vA, rfl, hOA⟩, hb⟩
    have hT5 := And.intro (hT4.1.below hb) (And.intro (hT4.2.1.below hb) (hT4.2.2.below hb))
    have HS5 := Lib.hid (And.intro (HS4.out.1.below hb) (HS4.out.2.below hb))
    have HB5 := Lib.hid (below_then HB4.out hs4 hb)
    have hs5 := HB5.out.size
    have hsa := hOA.sat
    rw [← HAE.out] at hsa
    clear hb
    go_wp2_with fail
    refine hK.out _ _ ⟨hT5, fun _ _ => trivial⟩ ?_
    clear hK K
    (try simp only [Act.put, List.getElem_toArray, List.getElem_cons_succ, List.getElem_cons_zero, List.setIfInBounds_toArray, List.set_cons_succ, List.set_cons_zero])
    clear hOA
    refine wpTwo_ready (rs := [19]) (by kernel_rfl) (by simp) ?_
    refine (AllTwo.cons rfl (fun K hK => ?_) AllTwo.nil)
    have HSS := Lib.hid (refSame_c (.agg #[.int .i64 a.c, .int .i64 a.g, .slice pa na ca, .slice qa ma da]) vA a a X5 HS5.out.1 hsa HFA.out HFA.out)
    rw [sameB_refl] at HSS
    go_simp
    refine (HSS.out).mono ?_
    rintro e X6 ⟨rfl, hb⟩
    have hT6 := And.intro (hT5.1.below hb) (And.intro (hT5.2.1.below hb) (hT5.2.2.below hb))
    have HS6 := Lib.hid (And.intro (HS5.out.1.below hb) (HS5.out.2.below hb))
    have HB6 := Lib.hid (below_then HB5.out hs5 hb)
    have hs6 := HB6.out.size
    clear hb
    go_wp2_with fail
    refine hK.out _ _ ⟨hT6, fun _ _ => trivial⟩ ?_
    clear hK K
    (try simp only [Act.put, List.getElem_toArray, List.getElem_cons_succ, List.getElem_cons_zero, List.setIfInBounds_toArray, List.set_cons_succ, List.set_cons_zero])
    clear HSS hsa
    refine wpTwo_takeT (i := 20) (v := .bool true) rfl (by kernel_rfl) (by kernel_rfl) (by kernel_rfl) (fun _ _ _ h => h) ⟨by rfl, ?_⟩ hT6 ?_
    · intro w hTw
      go_simp
    (try simp only [Act.put, List.getElem_toArray, List.getElem_cons_succ, List.getElem_cons_zero, List.setIfInBounds_toArray, List.set_cons_succ, List.set_cons_zero])
    refine wpTwo_takeT (i := 21) (v := .bool true) rfl (by kernel_rfl) (by kernel_rfl) (by kernel_rfl) (fun _ _ _ h => h) ⟨by rfl, ?_⟩ hT6 ?_
    · intro w hTw
      go_simp
    (try simp only [Act.put, List.getElem_toArray, List.getElem_cons_succ, List.getElem_cons_zero, List.setIfInBounds_toArray, List.set_cons_succ, List.set_cons_zero])
    refine wpTwo_end (by kernel_rfl) ?_ _
    go_wp2
    go_ret
    exact ⟨rfl, HB6.out⟩
  | false =>
    rw [hsr] at HRI
    simp only [hsr, Bool.false_eq_true, if_false] at HCK
    have HSR := Lib.hid hsr
    clear hsr
    obtain ⟨e0, e1, e2, e3⟩ := HTc.out.2.1.cells
    go_wp2_with fail
    refine HRI.out.mono ?_
    rintro e w4 ⟨rfl, hb⟩
    have HB4' := Lib.hid hb
    have HT4' := Lib.hid (And.intro (HTc.out.1.below hb) (And.intro (HTc.out.2.1.below hb) (HTc.out.2.2.below hb)))
    clear hb e0 e1 e2 e3 HRI
    obtain ⟨e0, e1, e2, e3⟩ := HT4'.out.2.1.cells
    go_wp2_with fail
    refine (HCK.out _ HB4'.out).mono ?_
    rintro e w5 ⟨rfl, hb⟩
    have HT4 := Lib.hid (And.intro (HT4'.out.1.below hb) (And.intro (HT4'.out.2.1.below hb) (HT4'.out.2.2.below hb)))
    have HS4 := Lib.hid (And.intro ((HSc.out.1.below HB4'.out).below hb) ((HSc.out.2.below HB4'.out).below hb))
    have HB4 := Lib.hid (below_then HBc.out HBc.out.size (below_then HB4'.out HB4'.out.size hb))
    clear hb e0 e1 e2 e3 HCK HB4' HT4' HTc HSc HBc
    go_upto_region 6 with (fail)
    refine wpTwo_begin (T := fun w' => SBlk w' y s.c s.g p n cp q m d ∧ SBlk w' y4 a.c a.g pa na ca qa ma da ∧ SBlk w' y5 b.c b.g pb nb cb qb mb db) (S := fun _ => True) (late := fun _ => false) (by kernel_rfl) ?_
    obtain ⟨X0, hX0⟩ : ∃ X : World, X = w5.drew := ⟨_, rfl⟩
    rw [← hX0]
    have hbX : Below w5.heap.size w5 X0 := by rw [hX0]; exact (Below.refl _ _).drew
    have hT0 := And.intro (HT4.out.1.below hbX) (And.intro (HT4.out.2.1.below hbX) (HT4.out.2.2.below hbX))
    have HS0 := Lib.hid (And.intro (HS4.out.1.below hbX) (HS4.out.2.below hbX))
    have HB0 := Lib.hid (below_then HB4.out HB4.out.size hbX)
    have hs0 := HB0.out.size
    clear hX0 hbX
    refine wpTwo_takeT (i := 0) (v := .int .i64 130) rfl (by kernel_rfl) (by kernel_rfl) (by kernel_rfl) (fun _ _ _ h => h) ⟨by rfl, ?_⟩ hT0 ?_
    · intro w hTw
      go_simp
    (try simp only [Act.put, List.getElem_toArray, List.getElem_cons_zero, List.setIfInBounds_toArray, List.set_cons_succ, List.set_cons_zero])
    refine wpTwo_takeT (i := 1) (v := .bool false) rfl (by kernel_rfl) (by kernel_rfl) (by kernel_rfl) (fun _ _ _ h => h) ⟨by rfl, ?_⟩ hT0 ?_
    · intro w hTw
      go_simp
    (try simp only [Act.put, List.getElem_toArray, List.getElem_cons_succ, List.getElem_cons_zero, List.setIfInBounds_toArray, List.set_cons_succ, List.set_cons_zero])
    refine wpTwo_takeT (i := 2) (v := .bool false) rfl (by kernel_rfl) (by kernel_rfl) (by kernel_rfl) (fun _ _ _ h => h) ⟨by rfl, ?_⟩ hT0 ?_
    · intro w hTw
      go_simp
    (try simp only [Act.put, List.getElem_toArray, List.getElem_cons_succ, List.getElem_cons_zero, List.setIfInBounds_toArray, List.set_cons_succ, List.set_cons_zero])
    refine wpTwo_takeT (i := 3) (v := .bool false) rfl (by kernel_rfl) (by kernel_rfl) (by kernel_rfl) (fun _ _ _ h => h) ⟨by rfl, ?_⟩ hT0 ?_
    · intro w hTw
      go_simp
    (try simp only [Act.put, List.getElem_toArray, List.getElem_cons_succ, List.getElem_cons_zero, List.setIfInBounds_toArray, List.set_cons_succ, List.set_cons_zero])
    refine wpTwo_takeT (i := 4) (v := .bool false) rfl (by kernel_rfl) (by kernel_rfl) (by kernel_rfl) (fun _ _ _ h => h) ⟨by rfl, ?_⟩ hT0 ?_
    · intro w hTw
      go_simp
    (try simp only [Act.put, List.getElem_toArray, List.getElem_cons_succ, List.getElem_cons_zero, List.setIfInBounds_toArray, List.set_cons_succ, List.set_cons_zero])
    refine wpTwo_takeT (i := 5) (v := .int .i64 130) rfl (by kernel_rfl) (by kernel_rfl) (by kernel_rfl) (fun _ _ _ h => h) ⟨by rfl, ?_⟩ hT0 ?_
    · intro w hTw
      go_simp
    (try simp only [Act.put, List.getElem_toArray, List.getElem_cons_succ, List.getElem_cons_zero, List.setIfInBounds_toArray, List.set_cons_succ, List.set_cons_zero])
    refine wpTwo_takeT (i := 6) (v := .bool true) rfl (by kernel_rfl) (by kernel_rfl) (by kernel_rfl) (fun _ _ _ h => h) ⟨by rfl, ?_⟩ hT0 ?_
    · intro w hTw
      go_simp
    (try simp only [Act.put, List.getElem_toArray, List.getElem_cons_succ, List.getElem_cons_zero, List.setIfInBounds_toArray, List.set_cons_succ, List.set_cons_zero])
    refine wpTwo_takeT (i := 7) (v := .bool true) rfl (by kernel_rfl) (by kernel_rfl) (by kernel_rfl) (fun _ _ _ h => h) ⟨by rfl, ?_⟩ hT0 ?_
    · intro w hTw
      go_simp
    (try simp only [Act.put, List.getElem_toArray, List.getElem_cons_succ, List.getElem_cons_zero, List.setIfInBounds_toArray, List.set_cons_succ, List.set_cons_zero])
    refine wpTwo_takeT (i := 8) (v := .int .i64 130) rfl (by kernel_rfl) (by kernel_rfl) (by kernel_rfl) (fun _ _ _ h => h) ⟨by rfl, ?_⟩ hT0 ?_
    · intro w hTw
      go_simp
    (try simp only [Act.put, List.getElem_toArray, List.getElem_cons_succ, List.getElem_cons_zero, List.setIfInBounds_toArray, List.set_cons_succ, List.set_cons_zero])
    refine wpTwo_takeT (i := 9) (v := .bool false) rfl (by kernel_rfl) (by kernel_rfl) (by kernel_rfl) (fun _ _ _ h => h) ⟨by rfl, ?_⟩ hT0 ?_
    · intro w hTw
      go_simp
    (try simp only [Act.put, List.getElem_toArray, List.getElem_cons_succ, List.getElem_cons_zero, List.setIfInBounds_toArray, List.set_cons_succ, List.set_cons_zero])
    refine wpTwo_takeT (i := 10) (v := .bool false) rfl (by kernel_rfl) (by kernel_rfl) (by kernel_rfl) (fun _ _ _ h => h) ⟨by rfl, ?_⟩ hT0 ?_
    · intro w hTw
      go_simp
    (try simp only [Act.put, List.getElem_toArray, List.getElem_cons_succ, List.getElem_cons_zero, List.setIfInBounds_toArray, List.set_cons_succ, List.set_cons_zero])
    refine wpTwo_takeT (i := 11) (v := .bool false) rfl (by kernel_rfl) (by kernel_rfl) (by kernel_rfl) (fun _ _ _ h => h) ⟨by rfl, ?_⟩ hT0 ?_
    · intro w hTw
      go_simp
    (try simp only [Act.put, List.getElem_toArray, List.getElem_cons_succ, List.getElem_cons_zero, List.setIfInBounds_toArray, List.set_cons_succ, List.set_cons_zero])
    refine wpTwo_takeT (i := 12) (v := .bool false) rfl (by kernel_rfl) (by kernel_rfl) (by kernel_rfl) (fun _ _ _ h => h) ⟨by rfl, ?_⟩ hT0 ?_
    · intro w hTw
      go_simp
    (try simp only [Act.put, List.getElem_toArray, List.getElem_cons_succ, List.getElem_cons_zero, List.setIfInBounds_toArray, List.set_cons_succ, List.set_cons_zero])
    refine wpTwo_takeT (i := 13) (v := .agg #[.int .i64 a.c, .int .i64 a.g, .slice pa na ca, .slice qa ma da]) rfl (by kernel_rfl) (by kernel_rfl) (by kernel_rfl) (fun _ _ _ h => h) ⟨by rfl, ?_⟩ hT0 ?_
    · intro w hTw
      obtain ⟨t0, t1, t2, t3⟩ := SBlk.cells hTw.2.1
      go_simp
    (try simp only [Act.put, List.getElem_toArray, List.getElem_cons_succ, List.getElem_cons_zero, List.setIfInBounds_toArray, List.set_cons_succ, List.set_cons_zero])
    refine wpTwo_takeT (i := 14) (v := .agg #[.int .i64 b.c, .int .i64 b.g, .slice pb nb cb, .slice qb mb db]) rfl (by kernel_rfl) (by kernel_rfl) (by kernel_rfl) (fun _ _ _ h => h) ⟨by rfl, ?_⟩ hT0 ?_
    · intro w hTw
      obtain ⟨t0, t1, t2, t3⟩ := SBlk.cells hTw.2.2
      go_simp
    (try simp only [Act.put, List.getElem_toArray, List.getElem_cons_succ, List.getElem_cons_zero, List.setIfInBounds_toArray, List.set_cons_succ, List.set_cons_zero])
    refine wpTwo_takeT (i := 16) (v := .agg #[.int .i64 a.c, .int .i64 a.g, .slice pa na ca, .slice qa ma da]) rfl (by kernel_rfl) (by kernel_rfl) (by kernel_rfl) (fun _ _ _ h => h) ⟨by rfl, ?_⟩ hT0 ?_
    · intro w hTw
      obtain ⟨t0, t1, t2, t3⟩ := SBlk.cells hTw.2.1
      go_simp
    (try simp only [Act.put, List.getElem_toArray, List.getElem_cons_succ, List.getElem_cons_zero, List.setIfInBounds_toArray, List.set_cons_succ, List.set_cons_zero])
    refine wpTwo_takeT (i := 17) (v := .agg #[.int .i64 b.c, .int .i64 b.g, .slice pb nb cb, .slice qb mb db]) rfl (by kernel_rfl) (by kernel_rfl) (by kernel_rfl) (fun _ _ _ h => h) ⟨by rfl, ?_⟩ hT0 ?_
    · intro w hTw
      obtain ⟨t0, t1, t2, t3⟩ := SBlk.cells hTw.2.2
      go_simp
    (try simp only [Act.put, List.getElem_toArray, List.getElem_cons_succ, List.getElem_cons_zero, List.setIfInBounds_toArray, List.set_cons_succ, List.set_cons_zero])
    refine wpTwo_ready (rs := [15]) (by kernel_rfl) (by simp) ?_
    refine (AllTwo.cons rfl (fun K hK => ?_) AllTwo.nil)
    go_simp
    refine (same_c (.agg #[.int .i64 a.c, .int .i64 a.g, .slice pa na ca, .slice qa ma da]) (.agg #[.int .i64 b.c, .int .i64 b.g, .slice pb nb cb, .slice qb mb db]) a b X0 HS0.out.1 HS0.out.2 HFA.out HFB.out).mono ?_
    rintro e X1 ⟨rfl, hb⟩
    have hT1 := And.intro (hT0.1.below hb) (And.intro (hT0.2.1.below hb) (hT0.2.2.below hb))
    have HS1 := Lib.hid (And.intro (HS0.out.1.below hb) (HS0.out.2.below hb))
    have HB1 := Lib.hid (below_then HB0.out hs0 hb)
    have hs1 := HB1.out.size
    clear hb
    go_wp2_with fail
    refine hK.out _ _ ⟨hT1, fun _ _ => trivial⟩ ?_
    clear hK K
    (try simp only [Act.put, List.getElem_toArray, List.getElem_cons_succ, List.getElem_cons_zero, List.setIfInBounds_toArray, List.set_cons_succ, List.set_cons_zero])
    obtain ⟨sb, hsb⟩ : ∃ x, x = sameB a b := ⟨_, rfl⟩
    rw [← hsb]
    refine wpTwo_ready (rs := [18]) (by kernel_rfl) (by simp) ?_
    refine (AllTwo.cons rfl (fun K hK => ?_) AllTwo.nil)
    have HRS := Lib.hid (refSame_c (.agg #[.int .i64 a.c, .int .i64 a.g, .slice pa na ca, .slice qa ma da]) (.agg #[.int .i64 b.c, .int .i64 b.g, .slice pb nb cb, .slice qb mb db]) a b X1 HS1.out.1 HS1.out.2 HFA.out HFB.out)
    rw [← hsb] at HRS
    have hbb : (sb != sb) = false := by cases sb <;> rfl
    go_simp
    refine (HRS.out).mono ?_
    rintro e X2 ⟨rfl, hb⟩
    have hT2 := And.intro (hT1.1.below hb) (And.intro (hT1.2.1.below hb) (hT1.2.2.below hb))
    have HS2 := Lib.hid (And.intro (HS1.out.1.below hb) (HS1.out.2.below hb))
    have HB2 := Lib.hid (below_then HB1.out hs1 hb)
    have hs2 := HB2.out.size
    clear hb
    go_wp2_with fail
    refine hK.out _ _ ⟨hT2, fun _ _ => trivial⟩ ?_
    clear hK K
    (try simp only [Act.put, List.getElem_toArray, List.getElem_cons_succ, List.getElem_cons_zero, List.setIfInBounds_toArray, List.set_cons_succ, List.set_cons_zero])
    have HSB := Lib.hid hsb
    clear hsb HRS
    refine wpTwo_takeT (i := 19) (v := .bool false) rfl (by kernel_rfl) (by kernel_rfl) (by kernel_rfl) (fun _ _ _ h => h) ⟨by rfl, ?_⟩ hT2 ?_
    · intro w hTw
      go_simp
    (try simp only [Act.put, List.getElem_toArray, List.getElem_cons_succ, List.getElem_cons_zero, List.setIfInBounds_toArray, List.set_cons_succ, List.set_cons_zero])
    clear hbb
    refine wpTwo_takeT (i := 20) (v := .bool false) rfl (by kernel_rfl) (by kernel_rfl) (by kernel_rfl) (fun _ _ _ h => h) ⟨by rfl, ?_⟩ hT2 ?_
    · intro w hTw
      go_simp
    (try simp only [Act.put, List.getElem_toArray, List.getElem_cons_succ, List.getElem_cons_zero, List.setIfInBounds_toArray, List.set_cons_succ, List.set_cons_zero])
    refine wpTwo_takeT (i := 21) (v := .bool false) rfl (by kernel_rfl) (by kernel_rfl) (by kernel_rfl) (fun _ _ _ h => h) ⟨by rfl, ?_⟩ hT2 ?_
    · intro w hTw
      go_simp
    (try simp only [Act.put, List.getElem_toArray, List.getElem_cons_succ, List.getElem_cons_zero, List.setIfInBounds_toArray, List.set_cons_succ, List.set_cons_zero])
    refine wpTwo_takeT (i := 22) (v := .agg #[.int .i64 a.c, .int .i64 a.g, .slice pa na ca, .slice qa ma da]) rfl (by kernel_rfl) (by kernel_rfl) (by kernel_rfl) (fun _ _ _ h => h) ⟨by rfl, ?_⟩ hT2 ?_
    · intro w hTw
      obtain ⟨t0, t1, t2, t3⟩ := SBlk.cells hTw.2.1
      go_simp
    (try simp only [Act.put, List.getElem_toArray, List.getElem_cons_succ, List.getElem_cons_zero, List.setIfInBounds_toArray, List.set_cons_succ, List.set_cons_zero])
    refine wpTwo_takeT (i := 23) (v := .agg #[.int .i64 s.c, .int .i64 s.g, .slice p n cp, .slice q m d]) rfl (by kernel_rfl) (by kernel_rfl) (by kernel_rfl) (fun _ _ _ h => h) ⟨by rfl, ?_⟩ hT2 ?_
    · intro w hTw
      obtain ⟨t0, t1, t2, t3⟩ := SBlk.cells hTw.1
      go_simp
    (try simp only [Act.put, List.getElem_toArray, List.getElem_cons_succ, List.getElem_cons_zero, List.setIfInBounds_toArray, List.set_cons_succ, List.set_cons_zero])
    refine wpTwo_ready (rs := [24]) (by kernel_rfl) (by simp) ?_
    refine (AllTwo.cons rfl (fun K hK => ?_) AllTwo.nil)
    go_simp
    refine (OWX.out X2 HB2.out).mono ?_
    rintro e X3 ⟨⟨vA, rfl, hOA⟩, hb⟩
    have hT3 := And.intro (hT2.1.below hb) (And.intro (hT2.2.1.below hb) (hT2.2.2.below hb))
    have HS3 := Lib.hid (And.intro (HS2.out.1.below hb) (HS2.out.2.below hb))
    have HB3 := Lib.hid (below_then HB2.out hs2 hb)
    have hs3 := HB3.out.size
    have hsa := hOA.sat
    rw [← HAE.out] at hsa
    clear hb
    go_wp2_with fail
    refine hK.out _ _ ⟨hT3, fun _ _ => trivial⟩ ?_
    clear hK K
    (try simp only [Act.put, List.getElem_toArray, List.getElem_cons_succ, List.getElem_cons_zero, List.setIfInBounds_toArray, List.set_cons_succ, List.set_cons_zero])
    clear hOA
    refine wpTwo_ready (rs := [25]) (by kernel_rfl) (by simp) ?_
    refine (AllTwo.cons rfl (fun K hK => ?_) AllTwo.nil)
    have HSS := Lib.hid (same_c (.agg #[.int .i64 a.c, .int .i64 a.g, .slice pa na ca, .slice qa ma da]) vA a a X3 HS3.out.1 hsa HFA.out HFA.out)
    rw [sameB_refl] at HSS
    go_simp
    refine (HSS.out).mono ?_
    rintro e X4 ⟨rfl, hb⟩
    have hT4 := And.intro (hT3.1.below hb) (And.intro (hT3.2.1.below hb) (hT3.2.2.below hb))
    have HS4 := Lib.hid (And.intro (HS3.out.1.below hb) (HS3.out.2.below hb))
    have HB4 := Lib.hid (below_then HB3.out hs3 hb)
    have hs4 := HB4.out.size
    clear hb
    go_wp2_with fail
    refine hK.out _ _ ⟨hT4, fun _ _ => trivial⟩ ?_
    clear hK K
    (try simp only [Act.put, List.getElem_toArray, List.getElem_cons_succ, List.getElem_cons_zero, List.setIfInBounds_toArray, List.set_cons_succ, List.set_cons_zero])
    clear HSS hsa
    refine wpTwo_takeT (i := 26) (v := .bool false) rfl (by kernel_rfl) (by kernel_rfl) (by kernel_rfl) (fun _ _ _ h => h) ⟨by rfl, ?_⟩ hT4 ?_
    · intro w hTw
      go_simp
    (try simp only [Act.put, List.getElem_toArray, List.getElem_cons_succ, List.getElem_cons_zero, List.setIfInBounds_toArray, List.set_cons_succ, List.set_cons_zero])
    refine wpTwo_takeT (i := 27) (v := .bool false) rfl (by kernel_rfl) (by kernel_rfl) (by kernel_rfl) (fun _ _ _ h => h) ⟨by rfl, ?_⟩ hT4 ?_
    · intro w hTw
      go_simp
    (try simp only [Act.put, List.getElem_toArray, List.getElem_cons_succ, List.getElem_cons_zero, List.setIfInBounds_toArray, List.set_cons_succ, List.set_cons_zero])
    refine wpTwo_end (by kernel_rfl) ?_ _
    have HT4b := Lib.hid hT4
    obtain ⟨e0, e1, e2, e3⟩ := hT4.2.1.cells
    have HOF := Lib.hid (fun (Z : World) (hb : Below X4.heap.size X4 Z) => ofAny_c (.agg #[.int .i64 a.c, .int .i64 a.g, .slice pa na ca, .slice qa ma da]) a Z (HS4.out.1.below hb) (HTT.out.below (below_then HB4.out hs4 hb)) HFA.out)
    clear hT0 hT1 hT2 hT3 hT4
    go_wp2_with fail
    refine (HOF.out _ (Below.refl _ _)).mono ?_
    rintro e X5 ⟨hO, hb⟩
    rw [HSR.out] at hO
    unfold OfPost at hO
    have HT5 := Lib.hid (And.intro (HT4b.out.1.below hb) (And.intro (HT4b.out.2.1.below hb) (HT4b.out.2.2.below hb)))
    have HS5 := Lib.hid (And.intro (HS4.out.1.below hb) (HS4.out.2.below hb))
    have HB5 := Lib.hid (below_then HB4.out hs4 hb)
    have hs5 := HB5.out.size
    clear hb e0 e1 e2 e3 HOF HT4b HS4 HB4 hs4
    rw [if_neg (by decide)] at hO
    subst hO
    have HB4 := Lib.hid HB5.out
    have HT4 := Lib.hid HT5.out
    have HS4 := Lib.hid HS5.out
    clear HB5 hs5 HT5 HS5
    go_upto_region 14 with (fail)
    refine wpTwo_begin (T := fun w' => SBlk w' y s.c s.g p n cp q m d ∧ SBlk w' y4 a.c a.g pa na ca qa ma da ∧ SBlk w' y5 b.c b.g pb nb cb qb mb db) (S := fun _ => True) (late := fun _ => false) (by kernel_rfl) ?_
    obtain ⟨X0, hX0⟩ : ∃ X : World, X = X5.drew := ⟨_, rfl⟩
    rw [← hX0]
    have hbX : Below X5.heap.size X5 X0 := by rw [hX0]; exact (Below.refl _ _).drew
    have hT0 := And.intro (HT4.out.1.below hbX) (And.intro (HT4.out.2.1.below hbX) (HT4.out.2.2.below hbX))
    have HS0 := Lib.hid (And.intro (HS4.out.1.below hbX) (HS4.out.2.below hbX))
    have HB0 := Lib.hid (below_then HB4.out HB4.out.size hbX)
    have hs0 := HB0.out.size
    clear hX0 hbX
    refine wpTwo_takeT (i := 0) (v := .int .i64 130) rfl (by kernel_rfl) (by kernel_rfl) (by kernel_rfl) (fun _ _ _ h => h) ⟨by rfl, ?_⟩ hT0 ?_
    · intro w hTw
      go_simp
    (try simp only [Act.put, List.getElem_toArray, List.getElem_cons_zero, List.setIfInBounds_toArray, List.set_cons_succ, List.set_cons_zero])
    refine wpTwo_takeT (i := 1) (v := .int .i64 130) rfl (by kernel_rfl) (by kernel_rfl) (by kernel_rfl) (fun _ _ _ h => h) ⟨by rfl, ?_⟩ hT0 ?_
    · intro w hTw
      go_simp
    (try simp only [Act.put, List.getElem_toArray, List.getElem_cons_succ, List.getElem_cons_zero, List.setIfInBounds_toArray, List.set_cons_succ, List.set_cons_zero])
    refine wpTwo_takeT (i := 2) (v := .bool true) rfl (by kernel_rfl) (by kernel_rfl) (by kernel_rfl) (fun _ _ _ h => h) ⟨by rfl, ?_⟩ hT0 ?_
    · intro w hTw
      go_simp
    (try simp only [Act.put, List.getElem_toArray, List.getElem_cons_succ, List.getElem_cons_zero, List.setIfInBounds_toArray, List.set_cons_succ, List.set_cons_zero])
    refine wpTwo_takeT (i := 3) (v := .bool true) rfl (by kernel_rfl) (by kernel_rfl) (by kernel_rfl) (fun _ _ _ h => h) ⟨by rfl, ?_⟩ hT0 ?_
    · intro w hTw
      go_simp
    (try simp only [Act.put, List.getElem_toArray, List.getElem_cons_succ, List.getElem_cons_zero, List.setIfInBounds_toArray, List.set_cons_succ, List.set_cons_zero])
    refine wpTwo_takeT (i := 4) (v := .slice none 0 0) rfl (by kernel_rfl) (by kernel_rfl) (by kernel_rfl) (fun _ _ _ h => h) ⟨by rfl, ?_⟩ hT0 ?_
    · intro w hTw
      go_simp
    (try simp only [Act.put, List.getElem_toArray, List.getElem_cons_succ, List.getElem_cons_zero, List.setIfInBounds_toArray, List.set_cons_succ, List.set_cons_zero])
    refine wpTwo_takeT (i := 5) (v := .slice none 0 0) rfl (by kernel_rfl) (by kernel_rfl) (by kernel_rfl) (fun _ _ _ h => h) ⟨by rfl, ?_⟩ hT0 ?_
    · intro w hTw
      go_simp
    (try simp only [Act.put, List.getElem_toArray, List.getElem_cons_succ, List.getElem_cons_zero, List.setIfInBounds_toArray, List.set_cons_succ, List.set_cons_zero])
    refine wpTwo_ready (rs := [6]) (by kernel_rfl) (by simp) ?_
    refine (AllTwo.cons rfl (fun K hK => ?_) AllTwo.nil)
    have HEQ := Lib.hid (show Calls Tryd.prog 16 #[.slice none 0 0, .slice none 0 0] X0 fun e w' => e = .returned (.bool true) ∧ Below X0.heap.size X0 w' from equalW_c (.slice none 0 0) (.slice none 0 0) [] [] X0 ⟨none, 0, rfl, fun h => absurd rfl h⟩ ⟨none, 0, rfl, fun h => absurd rfl h⟩ (by simp) (by simp))
    go_simp
    refine (HEQ.out).mono ?_
    rintro e X1 ⟨rfl, hb⟩
    have hT1 := And.intro (hT0.1.below hb) (And.intro (hT0.2.1.below hb) (hT0.2.2.below hb))
    have HS1 := Lib.hid (And.intro (HS0.out.1.below hb) (HS0.out.2.below hb))
    have HB1 := Lib.hid (below_then HB0.out hs0 hb)
    have hs1 := HB1.out.size
    clear hb
    go_wp2_with fail
    refine hK.out _ _ ⟨hT1, fun _ _ => trivial⟩ ?_
    clear hK K
    (try simp only [Act.put, List.getElem_toArray, List.getElem_cons_succ, List.getElem_cons_zero, List.setIfInBounds_toArray, List.set_cons_succ, List.set_cons_zero])
    clear HEQ
    refine wpTwo_takeT (i := 7) (v := .bool true) rfl (by kernel_rfl) (by kernel_rfl) (by kernel_rfl) (fun _ _ _ h => h) ⟨by rfl, ?_⟩ hT1 ?_
    · intro w hTw
      go_simp
    (try simp only [Act.put, List.getElem_toArray, List.getElem_cons_succ, List.getElem_cons_zero, List.setIfInBounds_toArray, List.set_cons_succ, List.set_cons_zero])
    refine wpTwo_takeT (i := 8) (v := .bool true) rfl (by kernel_rfl) (by kernel_rfl) (by kernel_rfl) (fun _ _ _ h => h) ⟨by rfl, ?_⟩ hT1 ?_
    · intro w hTw
      go_simp
    (try simp only [Act.put, List.getElem_toArray, List.getElem_cons_succ, List.getElem_cons_zero, List.setIfInBounds_toArray, List.set_cons_succ, List.set_cons_zero])
    refine wpTwo_takeT (i := 9) (v := .slice pp k8 dp) rfl (by kernel_rfl) (by kernel_rfl) (by kernel_rfl) (fun _ _ _ h => h) ⟨by rfl, ?_⟩ hT1 ?_
    · intro w hTw
      go_simp
    (try simp only [Act.put, List.getElem_toArray, List.getElem_cons_succ, List.getElem_cons_zero, List.setIfInBounds_toArray, List.set_cons_succ, List.set_cons_zero])
    refine wpTwo_takeT (i := 11) (v := .slice pp k8 dp) rfl (by kernel_rfl) (by kernel_rfl) (by kernel_rfl) (fun _ _ _ h => h) ⟨by rfl, ?_⟩ hT1 ?_
    · intro w hTw
      go_simp
    (try simp only [Act.put, List.getElem_toArray, List.getElem_cons_succ, List.getElem_cons_zero, List.setIfInBounds_toArray, List.set_cons_succ, List.set_cons_zero])
    refine wpTwo_ready (rs := [10]) (by kernel_rfl) (by simp) ?_
    refine (AllTwo.cons rfl (fun K hK => ?_) AllTwo.nil)
    have HR1 := Lib.hid (runsF_c (.slice pp k8 dp) xs X1 (HPP.out.below' HB1.out).nums HXL.out)
    go_simp
    refine (HR1.out).mono ?_
    rintro e X2 ⟨⟨vr, rfl, hvr⟩, hb⟩
    have hT2 := And.intro (hT1.1.below hb) (And.intro (hT1.2.1.below hb) (hT1.2.2.below hb))
    have HS2 := Lib.hid (And.intro (HS1.out.1.below hb) (HS1.out.2.below hb))
    have HB2 := Lib.hid (below_then HB1.out hs1 hb)
    have hs2 := HB2.out.size
    clear hb
    go_wp2_with fail
    refine hK.out _ _ ⟨hT2, fun _ _ => trivial⟩ ?_
    clear hK K
    (try simp only [Act.put, List.getElem_toArray, List.getElem_cons_succ, List.getElem_cons_zero, List.setIfInBounds_toArray, List.set_cons_succ, List.set_cons_zero])
    clear HR1
    refine wpTwo_ready (rs := [12]) (by kernel_rfl) (by simp) ?_
    refine (AllTwo.cons rfl (fun K hK => ?_) AllTwo.nil)
    have HR2 := Lib.hid (rruns_c (.slice pp k8 dp) xs X2 (HPP.out.below' HB2.out).nums HXL.out)
    go_simp
    refine (HR2.out).mono ?_
    rintro e X3 ⟨⟨vq, rfl, hvq⟩, hb⟩
    have hT3 := And.intro (hT2.1.below hb) (And.intro (hT2.2.1.below hb) (hT2.2.2.below hb))
    have HS3 := Lib.hid (And.intro (HS2.out.1.below hb) (HS2.out.2.below hb))
    have HB3 := Lib.hid (below_then HB2.out hs2 hb)
    have hs3 := HB3.out.size
    have hvr2 := owns_below hvr hb
    clear hb
    go_wp2_with fail
    refine hK.out _ _ ⟨hT3, fun _ _ => trivial⟩ ?_
    clear hK K
    (try simp only [Act.put, List.getElem_toArray, List.getElem_cons_succ, List.getElem_cons_zero, List.setIfInBounds_toArray, List.set_cons_succ, List.set_cons_zero])
    clear HR2 hvr
    obtain ⟨rs, hrs⟩ : ∃ r, r = runsR xs := ⟨_, rfl⟩
    rw [← hrs] at hvr2 hvq
    obtain ⟨nr, hnr⟩ : ∃ r, r = rs.length := ⟨_, rfl⟩
    rw [← hnr] at hvr2 hvq
    obtain ⟨pr, cr, rfl⟩ := owns_slice hvr2
    obtain ⟨pq, cq, rfl⟩ := owns_slice hvq
    refine wpTwo_ready (rs := [13]) (by kernel_rfl) (by simp) ?_
    refine (AllTwo.cons rfl (fun K hK => ?_) AllTwo.nil)
    have HEQ := Lib.hid (equalR_same pr pq nr cr cq rs X3 hnr (VRow.of_owns hvr2) (VRow.of_owns hvq) (by have := (runs_few' (runs_ok xs)); rw [runs_flat, ← hrs, ← hnr] at this; have := HXL.out; omega))
    clear hvr2 hvq hrs hnr
    go_simp
    refine (HEQ.out).mono ?_
    rintro e X4 ⟨rfl, hb⟩
    have hT4 := And.intro (hT3.1.below hb) (And.intro (hT3.2.1.below hb) (hT3.2.2.below hb))
    have HS4 := Lib.hid (And.intro (HS3.out.1.below hb) (HS3.out.2.below hb))
    have HB4 := Lib.hid (below_then HB3.out hs3 hb)
    have hs4 := HB4.out.size
    clear hb
    go_wp2_with fail
    refine hK.out _ _ ⟨hT4, fun _ _ => trivial⟩ ?_
    clear hK K
    (try simp only [Act.put, List.getElem_toArray, List.getElem_cons_succ, List.getElem_cons_zero, List.setIfInBounds_toArray, List.set_cons_succ, List.set_cons_zero])
    clear HEQ
    refine wpTwo_takeT (i := 14) (v := .bool true) rfl (by kernel_rfl) (by kernel_rfl) (by kernel_rfl) (fun _ _ _ h => h) ⟨by rfl, ?_⟩ hT4 ?_
    · intro w hTw
      go_simp
    (try simp only [Act.put, List.getElem_toArray, List.getElem_cons_succ, List.getElem_cons_zero, List.setIfInBounds_toArray, List.set_cons_succ, List.set_cons_zero])
    refine wpTwo_takeT (i := 15) (v := .bool true) rfl (by kernel_rfl) (by kernel_rfl) (by kernel_rfl) (fun _ _ _ h => h) ⟨by rfl, ?_⟩ hT4 ?_
    · intro w hTw
      go_simp
    (try simp only [Act.put, List.getElem_toArray, List.getElem_cons_succ, List.getElem_cons_zero, List.setIfInBounds_toArray, List.set_cons_succ, List.set_cons_zero])
    refine wpTwo_takeT (i := 16) (v := .agg #[.int .i64 a.c, .int .i64 a.g, .slice pa na ca, .slice qa ma da]) rfl (by kernel_rfl) (by kernel_rfl) (by kernel_rfl) (fun _ _ _ h => h) ⟨by rfl, ?_⟩ hT4 ?_
    · intro w hTw
      obtain ⟨t0, t1, t2, t3⟩ := SBlk.cells hTw.2.1
      go_simp
    (try simp only [Act.put, List.getElem_toArray, List.getElem_cons_succ, List.getElem_cons_zero, List.setIfInBounds_toArray, List.set_cons_succ, List.set_cons_zero])
    refine wpTwo_takeT (i := 17) (v := .agg #[.int .i64 s.c, .int .i64 s.g, .slice p n cp, .slice q m d]) rfl (by kernel_rfl) (by kernel_rfl) (by kernel_rfl) (fun _ _ _ h => h) ⟨by rfl, ?_⟩ hT4 ?_
    · intro w hTw
      obtain ⟨t0, t1, t2, t3⟩ := SBlk.cells hTw.1
      go_simp
    (try simp only [Act.put, List.getElem_toArray, List.getElem_cons_succ, List.getElem_cons_zero, List.setIfInBounds_toArray, List.set_cons_succ, List.set_cons_zero])
    refine wpTwo_ready (rs := [18]) (by kernel_rfl) (by simp) ?_
    refine (AllTwo.cons rfl (fun K hK => ?_) AllTwo.nil)
    go_simp
    refine (OWX.out X4 HB4.out).mono ?_
    rintro e X5 ⟨⟨vA, rfl, hOA⟩, hb⟩
    have hT5 := And.intro (hT4.1.below hb) (And.intro (hT4.2.1.below hb) (hT4.2.2.below hb))
    have HS5 := Lib.hid (And.intro (HS4.out.1.below hb) (HS4.out.2.below hb))
    have HB5 := Lib.hid (below_then HB4.out hs4 hb)
    have hs5 := HB5.out.size
    have hsa := hOA.sat
    rw [← HAE.out] at hsa
    clear hb
    go_wp2_with fail
    refine hK.out _ _ ⟨hT5, fun _ _ => trivial⟩ ?_
    clear hK K
    (try simp only [Act.put, List.getElem_toArray, List.getElem_cons_succ, List.getElem_cons_zero, List.setIfInBounds_toArray, List.set_cons_succ, List.set_cons_zero])
    clear hOA
    refine wpTwo_ready (rs := [19]) (by kernel_rfl) (by simp) ?_
    refine (AllTwo.cons rfl (fun K hK => ?_) AllTwo.nil)
    have HSS := Lib.hid (refSame_c (.agg #[.int .i64 a.c, .int .i64 a.g, .slice pa na ca, .slice qa ma da]) vA a a X5 HS5.out.1 hsa HFA.out HFA.out)
    rw [sameB_refl] at HSS
    go_simp
    refine (HSS.out).mono ?_
    rintro e X6 ⟨rfl, hb⟩
    have hT6 := And.intro (hT5.1.below hb) (And.intro (hT5.2.1.below hb) (hT5.2.2.below hb))
    have HS6 := Lib.hid (And.intro (HS5.out.1.below hb) (HS5.out.2.below hb))
    have HB6 := Lib.hid (below_then HB5.out hs5 hb)
    have hs6 := HB6.out.size
    clear hb
    go_wp2_with fail
    refine hK.out _ _ ⟨hT6, fun _ _ => trivial⟩ ?_
    clear hK K
    (try simp only [Act.put, List.getElem_toArray, List.getElem_cons_succ, List.getElem_cons_zero, List.setIfInBounds_toArray, List.set_cons_succ, List.set_cons_zero])
    clear HSS hsa
    refine wpTwo_takeT (i := 20) (v := .bool true) rfl (by kernel_rfl) (by kernel_rfl) (by kernel_rfl) (fun _ _ _ h => h) ⟨by rfl, ?_⟩ hT6 ?_
    · intro w hTw
      go_simp
    (try simp only [Act.put, List.getElem_toArray, List.getElem_cons_succ, List.getElem_cons_zero, List.setIfInBounds_toArray, List.set_cons_succ, List.set_cons_zero])
    refine wpTwo_takeT (i := 21) (v := .bool true) rfl (by kernel_rfl) (by kernel_rfl) (by kernel_rfl) (fun _ _ _ h => h) ⟨by rfl, ?_⟩ hT6 ?_
    · intro w hTw
      go_simp
    (try simp only [Act.put, List.getElem_toArray, List.getElem_cons_succ, List.getElem_cons_zero, List.setIfInBounds_toArray, List.set_cons_succ, List.set_cons_zero])
    refine wpTwo_end (by kernel_rfl) ?_ _
    go_wp2
    go_ret
    exact ⟨rfl, HB6.out⟩

end Go.Proofs.YtjgdkfgcfningaaDoor
