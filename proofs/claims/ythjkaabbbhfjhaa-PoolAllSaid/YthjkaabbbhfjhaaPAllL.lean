/-
  PoolAll: free and taken pages together are all, each once, whatever is taken and given.
  Conditions: the ranges of Go's types.
-/
import Derived.Test.YthjkaabbbhfjhaaPMovesL
import Derived.Test.YthjkaabbbhfjhaaPSortO
import Derived.Deep.RegionWith
import Derived.Deep.CutRange
namespace Go.Proofs.Ythjkaabbbhfjhaa
open Go.RowKit Go.Shelf
attribute [local go_sem] Oper.semAt_some

/-- The pool that is gone on with. -/
def PI (W : World) (zp : Nat) (b pg : Int) (q : Option Addr) (n c : Nat) (fs : List Int) (w : World) : Prop :=
  PBox w zp b pg (.slice q n c) ∧ RowS w (W.heap.size + 1) q n c fs ∧ Below W.heap.size W w ∧ okP pg fs
theorem PI.below {W : World} {zp : Nat} {b pg : Int} {q : Option Addr} {n c : Nat} {fs : List Int} {w w' : World} (h : PI W zp b pg q n c fs w) (hb : Below w.heap.size w w') : PI W zp b pg q n c fs w' :=
  ⟨h.1.below hb, h.2.1.below hb, below_then h.2.2.1 h.2.2.1.size hb, h.2.2.2⟩
theorem PI.put {W : World} {zp : Nat} {b pg : Int} {q : Option Addr} {n c : Nat} {fs : List Int} {w : World} (h : PI W zp b pg q n c fs w) (hz : W.heap.size ≤ zp) {q' : Option Addr} {n' c' : Nat} {fs' : List Int} (hr : RowS w (W.heap.size + 1) q' n' c' fs') (hok : okP pg fs') :
    PI W zp b pg q' n' c' fs' (((w.setCell ⟨zp, 0, none⟩ (.int .i64 b)).setCell ⟨zp, 1, none⟩ (.int .i64 pg)).setCell ⟨zp, 2, none⟩ (.slice q' n' c')) :=
  ⟨h.1.put b pg _, hr.keeps (PBox.putK w zp b pg _) (hr.box_ne h.1), h.2.2.1.trans ((PBox.putK w zp b pg _).below h.2.2.1.size (fun k e => by omega)), hok⟩
theorem okP_pre {pg x : Int} {gs : List Int} (h : okP pg (gs ++ [x])) : okP pg gs ∧ hasB pg x = true ∧ x ∉ gs :=
  ⟨⟨(List.nodup_append.1 h.1).1, fun y hy => h.2 y (by simp [hy])⟩, h.2 x (by simp), fun hx => (List.nodup_append.1 h.1).2.2 x hx x (by simp) rfl⟩
theorem taken_known (b pg : Int) (p : Option Addr) (n c : Nat) (fs : List Int) (W : World) (hn : fs.length = n) (hmax : n ≤ 4611686018427387904) (hl : NumsAt W .i64 (.slice p n c) fs) (hr : rightP b pg fs = true) :
    Calls Try.prog 18 #[.agg #[.int .i64 b, .int .i64 pg, .slice p n c]] W fun e w' => OwnsNew W.heap.size 3 1 (takenT pg.toNat fs).length ((takenT pg.toNat fs).map (Value.int .i64)) e w' ∧ Below W.heap.size W w' := by
  subst hn
  exact taken_yes b pg p c fs W hmax hl hr
theorem take_full (b pg : Int) (p : Option Addr) (n c : Nat) (W : World) (hn : ([] : List Int).length = n) (hl : NumsAt W .i64 (.slice p n c) []) (hv : p = none → c = 0) (hr : rightP b pg [] = true) :
    Calls Try.prog 10 #[.agg #[.int .i64 b, .int .i64 pg, .slice p n c]] W fun e w' => e = .returned (.tuple #[zeroP, .int .i64 0, .int .i64 6]) ∧ Below W.heap.size W w' := by
  subst hn
  refine (take_yes b pg p c [] W (by simp) hl hv hr).mono ?_
  rintro e w' ⟨⟨-, rfl⟩ | ⟨gs, x, p', h, _⟩, hb⟩
  · exact ⟨rfl, hb⟩
  · simp at h
theorem RowS.lt_heap {w : World} {B : Nat} {q : Option Addr} {n c : Nat} {xs : List Int} (h : RowS w B q n c xs) (g : Nat) (hg : q = some ⟨g, 0, none⟩) : g < w.heap.size := by
  rcases h.2 with ⟨e, _⟩ | ⟨g', cur, e, _, hc, _⟩
  · rw [hg] at e; cases e
  · rw [hg] at e
    injection e with e
    injection e with e1
    subst e1
    exact (Array.getElem?_eq_some_iff.1 hc).1
theorem check_known (b pg : Int) (p : Option Addr) (n c : Nat) (fs : List Int) (W : World) (hn : fs.length = n) (hmax : n ≤ 4611686018427387904) (hl : NumsAt W .i64 (.slice p n c) fs) (hr : rightP b pg fs = true) :
    Calls Try.prog 17 #[.agg #[.int .i64 b, .int .i64 pg, .slice p n c]] W fun e w' => e = .returned (.int .i64 0) ∧ Below W.heap.size W w' := by
  subst hn
  refine (check_c b pg p c fs W hmax hl).mono ?_
  rw [hr]
  exact fun e w' h => h
theorem concat_two (q2 q9 : Option Addr) (n2 m c2 c9 B0 B : Nat) (fs tk : List Int) (w9 : World) (hR : RowS w9 B0 q2 n2 c2 fs) (hl : tk.length = m) (hO : w9.ownsRow B 3 1 (.slice q9 m c9) m (tk.map (Value.int .i64))) (hn2 : n2 ≤ 1000) (hm : m ≤ 1000) :
    Calls Try.prog 21 #[.slice (some ⟨w9.heap.size, 0, none⟩) 2 2] (w9.alloc (.cells #[.slice q2 n2 c2, .slice q9 m c9] 22)) fun e w' => OwnsNew w9.heap.size 3 1 (n2 + m) ((fs ++ tk).map (Value.int .i64)) e w' ∧ Below w9.heap.size w9 w' := by
  have hb := below1 w9 (.cells #[.slice q2 n2 c2, .slice q9 m c9] 22)
  have hh := World.alloc_heap_new w9 (.cells #[.slice q2 n2 c2, .slice q9 m c9] 22)
  have hv2 := vals_below (vals_nums hR.nums (fun _ e => hR.nil_cap e)) hb
  have hv9 := vals_below (vals_nums (nums_of_owns hl hO) (fun _ e => owns_nilcap hO e)) hb
  have h1 : ∀ (l : List Int), ∀ u ∈ l.map (Value.int .i64), u.oneCell' = true := fun l u hu => by
    obtain ⟨y, _, rfl⟩ := List.mem_map.1 hu; rfl
  refine (concat_c w9.heap.size q2 q9 n2 m c2 c9 _ _ _ hv2 hv9 (h1 fs) (h1 tk) hn2 hm (by unfold World.cell?; simp only [hh]; rfl) (by unfold World.cell?; simp only [hh]; rfl)).mono ?_
  rintro e w' ⟨⟨v', he, ho⟩, hb'⟩
  refine ⟨⟨v', he, ?_⟩, below_then hb hb.size hb'⟩
  rw [List.map_append]
  exact ho.mono (by rw [World.size_alloc]; omega)
theorem giveR_one {pg y : Int} {fs : List Int} (h1 : hasB pg y = true) (h2 : y ∉ fs) : giveR pg fs [y] = (0, fs ++ [y]) := by
  unfold giveR
  rw [if_neg (by rw [h1]; simp), if_neg h2]
  rfl

set_option maxRecDepth 100000 in
set_option maxHeartbeats 8000000 in
theorem all_law (b pg : Int) (v : Value) (xs : List Int) (nv : Value) (ns : List Int) (W : World) (h0 : ArgR W v (xs.map (Value.int .i64))) (hw : xs.length ≤ 9223372036854775807) (hn : ArgR W nv (ns.map (Value.int .i64))) (hnl : ns.length ≤ 9223372036854775807) :
    Calls Try.prog 5 #[.agg #[.int .i64 b, .int .i64 pg, v], nv] W fun e w' => e = .returned (.bool true) ∧ Below W.heap.size W w' := by
  obtain ⟨np, nc, rfl, hnums, hncap, hnnil⟩ := nums_of_argr hn
  have HNS := Lib.hid hnums
  clear hn hnums hncap hnnil
  obtain ⟨us, hus⟩ : ∃ us, us = xs.take 70 := ⟨_, rfl⟩
  have HLU := Lib.hid (show us.length ≤ 70 by rw [hus, List.length_take]; omega)
  have HOW := Lib.hid (fun (Z : World) (hb : Below W.heap.size W Z) => hus ▸ own7_c b pg v xs Z (h0.below hb) hw)
  obtain ⟨p0, n0, c0, rfl, -, -⟩ := h0
  obtain ⟨w0, hw0⟩ : ∃ X : World, X = W.alloc (.cells #[.int .i64 b, .int .i64 pg, .slice p0 n0 c0] 24) := ⟨_, rfl⟩
  have HP0 := Lib.hid (show PBox w0 W.heap.size b pg (.slice p0 n0 c0) by rw [hw0]; exact PBox.new _ _ _ _)
  have HB0 := Lib.hid (show Below W.heap.size W w0 by rw [hw0]; exact below1 _ _)
  have HW0 := Lib.hid hw0
  clear hw0 hus hw
  go_enter Try.func5, Try.ntmps5
  go_wp2_with fail
  rw [← HW0.out]
  clear HW0
  refine (wakes7 w0).mono ?_
  rintro e w1 ⟨rfl, hb1⟩
  have HB1 := Lib.hid (below_then HB0.out HB0.out.size hb1)
  have HP1 := Lib.hid (HP0.out.below hb1)
  obtain ⟨d0, d1, d2⟩ := HP1.out.cells
  clear hb1 HP0 HB0
  go_wp2_with fail
  refine (HOW.out w1 HB1.out).mono ?_
  rintro e w2 ⟨⟨p, c, rfl, ho⟩, hb2⟩
  have hv2 := PV.of_owns (b := b) (pg := pg) ho rfl
  have hb2' : Below w2.heap.size w2 w2 := Below.refl _ _
  obtain ⟨w3, hw3⟩ : ∃ X : World, X = w2.alloc (.cells #[.int .i64 b, .int .i64 pg, .slice p us.length c] 24) := ⟨_, rfl⟩
  have hb3 : Below w2.heap.size w2 w3 := by rw [hw3]; exact below1 _ _
  have HV3 := Lib.hid (show PV w3 w2.heap.size b pg p us.length c us by rw [hw3]; exact hv2)
  have HB3 := Lib.hid (below_then (below_then HB1.out HB1.out.size hb2) (below_then HB1.out HB1.out.size hb2).size hb3)
  have HW3 := Lib.hid hw3
  have hm64 : us.length ≤ 4611686018427387904 := by have := HLU.out; omega
  have HCK := Lib.hid (check_c b pg p c us w3 hm64 HV3.out.2.1)
  have d3 := HV3.out.1.cells
  rw [hw3] at d3
  obtain ⟨d30, d31, d32⟩ := d3
  have hRW : RowS w3 (W.heap.size + 1) p us.length c us := (((RowS.of_owns rfl ho).mono (by have := HP1.out.lt; omega)).below hb2').below hb3
  have HRW := Lib.hid hRW
  have HZP := Lib.hid (show W.heap.size ≤ w2.heap.size from Nat.le_trans (Nat.le_of_lt HP1.out.lt) hb2.size)
  clear hw3 hb2 hb3 ho hv2 d0 d1 d2 HB1 hRW hb2'
  go_wp2_with fail
  rw [← HW3.out]
  clear HW3 d30 d31 d32
  refine HCK.out.mono ?_
  rintro e w4 ⟨rfl, hb4⟩
  cases hr : rightP b pg us with
  | false =>
    have HT := Lib.hid (taken_no b pg p c us w4 hm64 (HV3.out.below hb4).2.1 hr)
    obtain ⟨d0, d1, d2⟩ := (HV3.out.below hb4).1.cells
    have HB4 := Lib.hid (below_then HB3.out HB3.out.size hb4)
    clear hr hb4 HCK
    go_wp2_with fail
    refine HT.out.mono ?_
    rintro e w5 ⟨rfl, hb5⟩
    have HB5 := Lib.hid (below_then HB4.out HB4.out.size hb5)
    clear hb5 HT d0 d1 d2
    go_wp2_with fail
    go_ret
    exact ⟨rfl, HB5.out⟩
  | true =>
    have hfit := (rightP_iff.1 hr)
    obtain ⟨k, rfl⟩ : ∃ k : Nat, pg = (k : Int) := Int.eq_ofNat_of_zero_le (fits_parts hfit.1).2.2.2.1
    have hk64 : k ≤ 64 := by have := fits_parts hfit.1; omega
    obtain ⟨zp, hzp⟩ : ∃ z, z = w2.heap.size := ⟨_, rfl⟩
    rw [← hzp] at HV3 HZP ⊢
    have HPI := Lib.hid (show PI W zp b k p us.length c us w4 from ⟨(HV3.out.below hb4).1, HRW.out.below hb4, below_then HB3.out HB3.out.size hb4, hfit.2⟩)
    have HFIT := Lib.hid hfit.1
    clear hr hb4 HCK hfit HRW HV3 HB3 hzp HP1
    go_wp2_with fail
    go_loopw [34] (fun iv wr => ∃ (i : Nat) (q : Option Addr) (n c : Nat) (fs : List Int), i ≤ ns.length ∧ i ≤ 30 ∧ iv = .int .i64 (i : Int) ∧ Hid (PI W zp b k q n c fs wr)) (fun iv _ => ns.length - (pIntOf iv).toNat)
    case atStart => exact ⟨0, p, us.length, c, us, Nat.zero_le _, Nat.zero_le _, rfl, HPI⟩
    case round =>
      clear HPI
      obtain ⟨i, q, n, c', fs, hi, hi30, rfl, HP⟩ := hrel
      by_cases hlt : i < ns.length
      · obtain ⟨qq, cc, e, hcs⟩ := HNS.out
        injection e with e1 _ e3
        subst e1
        obtain ⟨bb, off, rfl, hc3⟩ := hcs (by intro e; rw [e] at hlt; exact absurd hlt (Nat.not_lt_zero _))
        have hx := (HP.out.2.2.1.cell (World.block_lt_of_cell? W _ (hc3 i hlt))).trans (hc3 i hlt)
        obtain ⟨x, hxe⟩ : ∃ x, x = ns[i] := ⟨_, rfl⟩
        rw [← hxe] at hx
        clear hcs hc3 hxe e3
        by_cases h30 : i = 30
        · subst h30
          go_wp2
          go_ret
          exact ⟨rfl, HP.out.2.2.1⟩
        · have h30b : ((i : Int) == 30) = false := by simp; omega
          have hn := HP.out.2.1.1
          have hok := HP.out.2.2.2
          have hr : rightP b (k : Int) fs = true := rightP_iff.2 ⟨HFIT.out, hok⟩
          have hlen : fs.length ≤ 64 := okP_iff_len HFIT.out hok
          have HTK := Lib.hid (taken_known b k q n c' fs wr hn (by omega) HP.out.2.1.nums hr)
          rw [Int.toNat_natCast] at HTK
          have hsum := all_len hok
          obtain ⟨tk, htk⟩ : ∃ t, t = takenT k fs := ⟨_, rfl⟩
          rw [← htk] at HTK hsum
          have HT := Lib.hid (And.intro htk hsum)
          have HR := Lib.hid (And.intro hr hok)
          obtain ⟨d0, d1, d2⟩ := HP.out.1.cells
          by_cases hC : x < 0 ∧ fs = []
          · obtain ⟨hx0, rfl⟩ := hC
            have hk : tk.length = k := by simpa using hsum
            rw [hk] at HTK
            clear htk hsum hr hok
            go_wp2_with fail
            refine HTK.out.mono ?_
            rintro e w5 ⟨⟨v5, rfl, ho5⟩, hb5⟩
            obtain ⟨qt, ct, rfl⟩ := owns_slice ho5
            have HP5 := Lib.hid (HP.out.below hb5)
            have HTA := Lib.hid (take_full b k q n c' w5 hn HP5.out.2.1.nums HP5.out.2.1.nil_cap HR.out.1)
            unfold zeroP at HTA
            clear d0 d1 d2 ho5 hb5 HTK hx
            obtain ⟨d0, d1, d2⟩ := HP5.out.1.cells
            go_wp2_with fail
            refine HTA.out.mono ?_
            rintro e w6 ⟨rfl, hb6⟩
            · have HP6 := Lib.hid ((HP5.out.below hb6).below (below1 w6 (.cells #[.int .i64 0, .int .i64 0, .slice none 0 0] 24)))
              clear hb6 HTA d0 d1 d2
              obtain ⟨d0, d1, d2⟩ := HP6.out.1.cells
              go_wp2_with fail
              go_roundw
              case rel => exact ⟨i + 1, q, n, c', [], by omega, by omega, by go_num, HP6⟩
              case measure => simp [pIntOf]; omega
          · go_wp2_with fail
            refine HTK.out.mono ?_
            rintro e w5 ⟨⟨v5, rfl, ho5⟩, hb5⟩
            obtain ⟨qt, ct, rfl⟩ := owns_slice ho5
            obtain ⟨m, hm⟩ : ∃ m, m = tk.length := ⟨_, rfl⟩
            rw [← hm] at ho5 ⊢
            have HM := Lib.hid hm
            have HP5 := Lib.hid (HP.out.below hb5)
            have HO5 := Lib.hid ho5
            clear hm
            have hne : x < 0 → fs ≠ [] := fun h1 h2 => hC ⟨h1, h2⟩
            clear d0 d1 d2 ho5 hb5 HTK hx htk hsum hr hok HP hC
            go_upto_if 44 with fail
            go_cut [9, 10, 11, 12, 13, 14, 15, 16, 17] from 35 to 143 (fun s9 s10 s11 s12 s13 s14 s15 s16 s17 wc => Hid (∃ q n c fs, PI W zp b k q n c fs wc))
            case first =>
              obtain ⟨d0, d1, d2⟩ := HP5.out.1.cells
              by_cases hx0 : x < 0
              · obtain ⟨gs, y, rfl⟩ : ∃ gs y, fs = gs ++ [y] := ⟨_, _, (List.dropLast_concat_getLast (hne hx0)).symm⟩
                clear hne
                have HTA := Lib.hid (take_known b k y q n c' gs w5 (by simpa using hn.symm) (by omega) HP5.out.2.1.nums HP5.out.2.1.nil_cap HR.out.1)
                go_wp2_with fail
                refine HTA.out.mono ?_
                rintro e w6 ⟨⟨p6, rfl, hR6⟩, hb6⟩
                obtain ⟨h1, h2, h3⟩ := okP_pre HR.out.2
                obtain ⟨w7, hw7⟩ : ∃ X : World, X = w6.alloc (.cells #[.int .i64 b, .int .i64 (k : Int), .slice p6 gs.length gs.length] 24) := ⟨_, rfl⟩
                have hb7 : Below w6.heap.size w6 w7 := by rw [hw7]; exact below1 _ _
                have hb57 := below_then hb6 hb6.size hb7
                have HP7 := Lib.hid (HP5.out.below hb57)
                have HB7 := Lib.hid (show PBox w7 w6.heap.size b k (.slice p6 gs.length gs.length) by rw [hw7]; exact PBox.new _ _ _ _)
                have HR7 := Lib.hid (hR6.below hb7)
                have HN7 := Lib.hid (contains_c (.slice qt m ct) tk y w7 (nums_below (nums_of_owns HM.out.symm HO5.out) hb57) (by have := HT.out.2; omega))
                rw [show decide (y ∈ tk) = false from decide_eq_false (by rw [HT.out.1, mem_takenT]; exact fun h => h.2 (by simp))] at HN7
                have HTK := Lib.hid (taken_yes b k p6 gs.length gs w7 (by simp at hlen; omega) HR7.out.nums (rightP_iff.2 ⟨HFIT.out, h1⟩))
                rw [Int.toNat_natCast] at HTK
                have HY := Lib.hid (show y ∈ takenT k gs from mem_takenT.2 ⟨has_parts h2, h3⟩)
                have HOK := Lib.hid h1
                have HW7 := Lib.hid hw7
                have HS7 := Lib.hid hb57.size
                clear hw7 hb7 hb57 hR6 hb6 h1 h2 h3 d0 d1 d2 HTA
                obtain ⟨e0, e1, e2⟩ := HB7.out.cells
                obtain ⟨tk2, htk2⟩ : ∃ t, t = takenT k gs := ⟨_, rfl⟩
                rw [← htk2] at HTK HY
                have hl2 : tk2.length ≤ 64 := by rw [htk2]; exact Nat.le_trans (takenT_len k gs) hk64
                clear htk2
                go_wp2_with fail
                rw [← HW7.out]
                clear HW7
                refine HN7.out.mono ?_
                rintro e w8 ⟨rfl, rfl⟩
                go_wp2_with fail
                refine HTK.out.mono ?_
                rintro e w9 ⟨⟨v9, rfl, ho9⟩, hb9⟩
                obtain ⟨q9, c9, rfl⟩ := owns_slice ho9
                have HN9 := Lib.hid (contains_c (.slice q9 tk2.length c9) tk2 y w9 (nums_of_owns rfl ho9) (by omega))
                rw [show decide (y ∈ tk2) = true from decide_eq_true HY.out] at HN9
                have HP9 := Lib.hid (HP7.out.below hb9)
                have HB9 := Lib.hid (HB7.out.below hb9)
                have HR9 := Lib.hid (HR7.out.below hb9)
                clear ho9 hb9 HTK e0 e1 e2 HN7
                go_wp2_with fail
                refine HN9.out.mono ?_
                rintro e w10 ⟨rfl, rfl⟩
                clear HN9
                obtain ⟨e0, e1, e2⟩ := HB9.out.cells
                obtain ⟨d0, d1, d2⟩ := HP9.out.1.cells
                have l0 := HP9.out.1.marks 0
                have l1 := HP9.out.1.marks 1
                have l2 := HP9.out.1.marks 2
                have HPF := Lib.hid (HP9.out.put HZP.out (HR9.out.mono (by have := HP5.out.2.2.1.size; have := HP5.out.1.lt; have := HZP.out; omega)) HOK.out)
                obtain ⟨w11, hw11⟩ : ∃ X : World, X = (((w10.setCell ⟨zp, 0, none⟩ (.int .i64 b)).setCell ⟨zp, 1, none⟩ (.int .i64 (k : Int))).setCell ⟨zp, 2, none⟩ (.slice p6 gs.length gs.length)) := ⟨_, rfl⟩
                rw [← hw11] at HPF
                have HW11 := Lib.hid hw11
                clear hw11
                go_wp2_with fail
                rw [← HW11.out]
                go_meet
                exact Lib.hid ⟨p6, gs.length, gs.length, gs, HPF.out⟩
              · clear hne
                by_cases hm0 : m = 0
                · have hmi : ¬ (0 < (m : Int)) := by omega
                  clear hm0
                  go_wp2_with fail
                  go_meet
                  exact Lib.hid ⟨_, _, _, _, HP5.out⟩
                · have hmi : 0 < (m : Int) := by omega
                  have hmk : tk.length ≤ 64 := by have := HT.out.2; omega
                  have hm64' : m ≤ 64 := by have := HM.out; omega
                  obtain ⟨j, hj⟩ : ∃ j : Nat, x.tmod (m : Int) = (j : Int) := Int.eq_ofNat_of_zero_le (Int.tmod_nonneg _ (by omega))
                  have hjl : j < m := by have := Int.tmod_lt_of_pos x hmi; omega
                  have hqt : ∃ g, qt = some ⟨g, 0, none⟩ := by
                    obtain ⟨m', hm'⟩ : ∃ m', m = m' + 1 := ⟨m - 1, by omega⟩
                    have h := HO5.out
                    rw [hm'] at h
                    exact owns_head h
                  obtain ⟨g, rfl⟩ := hqt
                  have hjt : j < tk.length := by have := HM.out; omega
                  obtain ⟨y, hy⟩ : ∃ y, tk[j]? = some y := ⟨tk[j], List.getElem?_eq_getElem hjt⟩
                  have hyc : w5.cell? ⟨g, j, none⟩ = some (.int .i64 y) := by
                    rw [HO5.out.cellAt j (by omega), List.getElem?_map, hy]; rfl
                  have hmem : y ∈ takenT k fs := by rw [← HT.out.1]; exact List.mem_of_getElem? hy
                  obtain ⟨⟨hy0, hyk⟩, hyf⟩ := mem_takenT.1 hmem
                  have hgive := giveR_one (pg := (k : Int)) (fs := fs) (show hasB k y = true by unfold hasB; simp; omega) hyf
                  have hmz : ((m : Int) == 0) = false := by simp; omega
                  have hmz' : ¬ ((m : Int) = 0) := by omega
                  have hm1 : ¬ ((m : Int) = -1) := by omega
                  have HGV := Lib.hid (And.intro hgive (And.intro hy0 (And.intro hyk hyf)))
                  clear hgive hy0 hyk hyf hmem hy hjt
                  obtain ⟨gs, hgs⟩ : ∃ gs, gs = fs ++ [y] := ⟨_, rfl⟩
                  have hnl2 : gs.length = fs.length + 1 := by rw [hgs]; simp
                  obtain ⟨w6, hw6⟩ : ∃ X : World, X = w5.alloc (.cells #[.int .i64 y] 3) := ⟨_, rfl⟩
                  have hb6 : Below w5.heap.size w5 w6 := by rw [hw6]; exact below1 _ _
                  have HP6 := Lib.hid (HP5.out.below hb6)
                  have HG := Lib.hid (give_known b k q n c' fs [y] (some ⟨w5.heap.size, 0, none⟩) 1 1 w6 hn.symm rfl (by omega) (by omega) HP6.out.2.1.nums HP6.out.2.1.nil_cap HR.out.1 (by rw [hw6]; exact lit1 w5 y) gs (by rw [hgs]; exact HGV.out.1))
                  have HW6 := Lib.hid hw6
                  have HGS := Lib.hid (And.intro hgs hnl2)
                  clear hw6 hgs hnl2
                  go_wp2_with fail
                  rw [← HW6.out]
                  refine HG.out.mono ?_
                  rintro e w7 ⟨⟨p7, c7, rfl, ho7, hok7⟩, hb7⟩
                  have hr7 : rightP b (k : Int) gs = true := rightP_iff.2 ⟨HFIT.out, hok7⟩
                  obtain ⟨n2, hn2⟩ : ∃ n2, n2 = gs.length := ⟨_, rfl⟩
                  rw [← hn2] at ho7 ⊢
                  obtain ⟨w8, hw8⟩ : ∃ X : World, X = w7.alloc (.cells #[.int .i64 b, .int .i64 (k : Int), .slice p7 n2 c7] 24) := ⟨_, rfl⟩
                  have hb8 : Below w7.heap.size w7 w8 := by rw [hw8]; exact below1 _ _
                  have HP8 := Lib.hid ((HP6.out.below hb7).below hb8)
                  have HB8 := Lib.hid (show PBox w8 w7.heap.size b k (.slice p7 n2 c7) by rw [hw8]; exact PBox.new _ _ _ _)
                  have HR8 := Lib.hid (((RowS.of_owns hn2.symm ho7).mono (show W.heap.size + 1 ≤ w6.heap.size by have := HP6.out.1.lt; have := HZP.out; omega)).below hb8)
                  have HTA := Lib.hid (take_known b k y p7 n2 c7 fs w8 (by rw [hn2]; exact HGS.out.2) (by have := HT.out.2; have := HM.out; have := HGS.out.2; omega) (by have h := HR8.out.nums; rw [HGS.out.1] at h; exact h) HR8.out.nil_cap (by rw [← HGS.out.1]; exact hr7))
                  have HOK := Lib.hid hok7
                  have HW8 := Lib.hid hw8
                  have HN2 := Lib.hid hn2
                  clear hw8 hb8 ho7 hok7 hb7 hr7 hn2 HG HW6 hb6
                  obtain ⟨e0, e1, e2⟩ := HB8.out.cells
                  clear d0 d1 d2 hyc hj hjl
                  obtain ⟨zg, hzg⟩ : ∃ z, z = w7.heap.size := ⟨_, rfl⟩
                  rw [← hzg] at HB8 e0 e1 e2
                  have HZG := Lib.hid hzg
                  clear hzg
                  go_upto_region 22 with fail
                  rw [← HW8.out, ← HZG.out]
                  clear HW8 HZG
                  go_wp2_with fail
                  refine HTA.out.mono ?_
                  rintro e w9 ⟨⟨p9, rfl, hR9⟩, hb9⟩
                  rw [hn] at hR9 ⊢
                  obtain ⟨w10, hw10⟩ : ∃ X : World, X = w9.alloc (.cells #[.int .i64 b, .int .i64 (k : Int), .slice p9 n n] 24) := ⟨_, rfl⟩
                  have hb10 : Below w9.heap.size w9 w10 := by rw [hw10]; exact below1 _ _
                  have HP10 := Lib.hid ((HP8.out.below hb9).below hb10)
                  have HB10 := Lib.hid ((HB8.out.below hb9).below hb10)
                  have HR10 := Lib.hid ((HR8.out.below hb9).below hb10)
                  have HBK := Lib.hid (show PBox w10 w9.heap.size b k (.slice p9 n n) by rw [hw10]; exact PBox.new _ _ _ _)
                  have HSM := Lib.hid (psame_c b b k k (.slice p9 n n) (.slice q n c') fs fs w10 (hR9.below hb10).nums HP10.out.2.1.nums (by omega) (by omega))
                  rw [sameB_self] at HSM
                  have HW10 := Lib.hid hw10
                  clear hw10 hb10 hb9 hR9 HTA e0 e1 e2 HP8 HB8 HR8
                  obtain ⟨zb, hzb⟩ : ∃ z, z = w9.heap.size := ⟨_, rfl⟩
                  rw [← hzb] at HBK
                  have HZB := Lib.hid hzb
                  clear hzb
                  go_upto_region 23 with fail
                  rw [← HW10.out, ← HZB.out]
                  clear HW10 HZB
                  obtain ⟨e0, e1, e2⟩ := HBK.out.cells
                  obtain ⟨d0, d1, d2⟩ := HP10.out.1.cells
                  go_wp2_with fail
                  refine HSM.out.mono ?_
                  rintro e w11 ⟨rfl, hb11⟩
                  have HP11 := Lib.hid (HP10.out.below hb11)
                  have HB11 := Lib.hid (HB10.out.below hb11)
                  have HR11 := Lib.hid (HR10.out.below hb11)
                  clear hb11 d0 d1 d2 e0 e1 e2 HSM
                  obtain ⟨e0, e1, e2⟩ := HB11.out.cells
                  obtain ⟨d0, d1, d2⟩ := HP11.out.1.cells
                  have l0 := HP11.out.1.marks 0
                  have l1 := HP11.out.1.marks 1
                  have l2 := HP11.out.1.marks 2
                  have HPF := Lib.hid (HP11.out.put HZP.out HR11.out HOK.out)
                  obtain ⟨w12, hw12⟩ : ∃ X : World, X = (((w11.setCell ⟨zp, 0, none⟩ (.int .i64 b)).setCell ⟨zp, 1, none⟩ (.int .i64 (k : Int))).setCell ⟨zp, 2, none⟩ (.slice p7 n2 c7)) := ⟨_, rfl⟩
                  rw [← hw12] at HPF
                  have HW12 := Lib.hid hw12
                  clear hw12
                  go_wp2_with fail
                  rw [← HW12.out]
                  go_meet
                  exact Lib.hid ⟨p7, n2, c7, gs, HPF.out⟩
            case rest =>
              obtain ⟨q2, n2, c2, fs2, hPI⟩ := hcut.out
              have HPI := Lib.hid hPI
              clear hcut hPI HP5 HO5 HM HT HR
              obtain ⟨wd, hwd⟩ : ∃ X : World, X = wc := ⟨_, rfl⟩
              rw [← hwd] at HPI
              rw [← hwd]
              clear hwd hne
              have hn2 := HPI.out.2.1.1
              have hr2 : rightP b (k : Int) fs2 = true := rightP_iff.2 ⟨HFIT.out, HPI.out.2.2.2⟩
              have hsum2 := all_len HPI.out.2.2.2
              obtain ⟨tk2, htk2⟩ : ∃ t, t = takenT k fs2 := ⟨_, rfl⟩
              rw [← htk2] at hsum2
              have HTK := Lib.hid (fun (Z : World) (hb : Below wd.heap.size wd Z) => taken_known b k q2 n2 c2 fs2 Z hn2 (by omega) (HPI.out.below hb).2.1.nums hr2)
              simp only [Int.toNat_natCast, ← htk2] at HTK
              obtain ⟨m2, hm2⟩ : ∃ m, m = tk2.length := ⟨_, rfl⟩
              rw [← hm2] at hsum2
              simp only [← hm2] at HTK
              have HM2 := Lib.hid (And.intro htk2 hm2)
              have HR2 := Lib.hid (And.intro hn2 hr2)
              have hs2 : n2 + m2 = k := by omega
              clear htk2 hm2 hr2 hsum2 hn2
              go_upto_region 26 with fail
              go_cut [18] from 35 to 143 (fun s18 wc => ∃ v B, s18 = v ∧ Hid (PI W zp b k q2 n2 c2 fs2 wc ∧ wc.ownsRow B 3 1 v k ((fs2 ++ tk2).map (Value.int .i64)) ∧ zp < B ∧ (∀ g, q2 = some ⟨g, 0, none⟩ → g < B)))
              case first =>
                obtain ⟨d0, d1, d2⟩ := HPI.out.1.cells
                go_region_with (first
                  | (go_at_call 18; refine (HTK.out wd.drew (Below.refl _ _).drew).mono ?_; rintro e w9 ⟨⟨v9, rfl, ho9⟩, hb9⟩; obtain ⟨q9, c9, rfl⟩ := owns_slice ho9; have hb8 : Below wd.heap.size wd w9 := ((Below.refl wd.heap.size wd).drew).trans hb9; have e0 := below_cell hb8 d0; have e1 := below_cell hb8 d1; have e2 := below_cell hb8 d2; have HX := Lib.hid (And.intro ho9 hb8); clear ho9 hb9)
                  | (go_at_call 21; refine (concat_two q2 q9 n2 m2 c2 c9 _ _ fs2 tk2 w9 (HPI.out.below HX.out.2).2.1 HM2.out.2.symm HX.out.1 (by omega) (by omega)).mono ?_; rintro e w10 ⟨⟨v10, rfl, ho10⟩, hb10⟩; have HY := Lib.hid (And.intro ho10 hb10); clear ho10 hb10))
                all_goals
                  have HFA := Lib.hid (show PI W zp b k q2 n2 c2 fs2 w10 ∧ w10.ownsRow w9.heap.size 3 1 v10 k ((fs2 ++ tk2).map (Value.int .i64)) ∧ zp < w9.heap.size ∧ (∀ g, q2 = some ⟨g, 0, none⟩ → g < w9.heap.size) from by
                    have hp9 := HPI.out.below HX.out.2
                    refine ⟨hp9.below HY.out.2, ?_, hp9.1.lt, fun g hg => ?_⟩
                    · have h := HY.out.1
                      rw [hs2] at h
                      exact h
                    · exact hp9.2.1.lt_heap g hg)
                  clear HX HY e0 e1 e2 d0 d1 d2
                  go_wp2_with fail
                  go_meet
                  exact ⟨v10, _, rfl, HFA⟩
              case rest =>
                obtain ⟨v20, B, hv20, hR⟩ := hcut
                rw [hv20]
                clear hv20
                clear HPI HTK
                obtain ⟨we, hwe⟩ : ∃ X : World, X = wc := ⟨_, rfl⟩
                rw [← hwe] at hR
                rw [← hwe]
                clear hwe
                have HR := Lib.hid hR
                have hok2 := hR.1.2.2.2
                have HS := Lib.hid (sortO_c B k v20 (fs2 ++ tk2) we (by rw [List.length_append, HR2.out.1, ← HM2.out.2]; exact hs2) hR.2.1 (by omega))
                rw [HM2.out.1, rise_all hok2] at HS
                clear hR hok2
                go_wp2_with fail
                refine HS.out.mono ?_
                rintro e w21 ⟨rfl, ho21, hk21⟩
                have HP21 := Lib.hid (show PI W zp b k q2 n2 c2 fs2 w21 from by
                  have h := HR.out
                  have hne : ∀ x, x < B → ¬ (some x = v20.ownBlock) := fun x hx e => by have := (h.2.1.lt _ e.symm).1; omega
                  exact ⟨h.1.1.keeps hk21 (hne _ h.2.2.1), h.1.2.1.keeps hk21 (fun g hg => hne _ (h.2.2.2 g hg)), h.1.2.2.1.trans (hk21.below h.1.2.2.1.size (fun x e => by have := (h.2.1.lt _ e.symm).1; have := h.2.2.1; have := HZP.out; omega)), h.1.2.2.2⟩)
                obtain ⟨q21, c21, rfl⟩ := owns_slice ho21
                have HO21 := Lib.hid ho21
                clear ho21 hk21 HS HR
                go_wp2_with fail
                go_loopw [124] (fun jv wr => ∃ j : Nat, j ≤ k ∧ jv = .int .i64 (j : Int) ∧ wr = w21) (fun jv _ => k - (pIntOf jv).toNat)
                case atStart => exact ⟨0, Nat.zero_le _, rfl, rfl⟩
                case round =>
                  obtain ⟨j, hj, rfl, hwr⟩ := hrel
                  subst hwr
                  by_cases hjk : j < k
                  · obtain ⟨k', hk'⟩ : ∃ k', k = k' + 1 := ⟨k - 1, by omega⟩
                    obtain ⟨g21, rfl⟩ : ∃ g, q21 = some ⟨g, 0, none⟩ := by
                      have h := HO21.out
                      generalize upto k = l at h
                      rw [hk'] at h
                      exact owns_head h
                    have hcj := HO21.out.cellAt j (by omega)
                    rw [List.getElem?_map, upto_get hjk] at hcj
                    simp only [Option.map_some] at hcj
                    clear hk'
                    go_wp2
                    go_roundw
                    case rel => exact ⟨j + 1, by omega, by go_num, trivial⟩
                    case measure => simp [pIntOf]; omega
                  · obtain rfl : j = k := by omega
                    obtain ⟨d0, d1, d2⟩ := HP21.out.1.cells
                    have HCK := Lib.hid (check_known b j q2 n2 c2 fs2 wr HR2.out.1 (by omega) HP21.out.2.1.nums HR2.out.2)
                    go_wp2_with fail
                    refine HCK.out.mono ?_
                    rintro e w22 ⟨rfl, hb22⟩
                    have HP22 := Lib.hid (HP21.out.below hb22)
                    clear hb22 d0 d1 d2 HCK
                    go_wp2_with fail
                    go_roundw
                    case rel => exact ⟨i + 1, q2, n2, c2, fs2, by omega, by omega, by go_num, HP22⟩
                    case measure => simp [pIntOf]; omega
      · go_wp2
        go_ret
        exact ⟨rfl, HP.out.2.2.1⟩
end Go.Proofs.Ythjkaabbbhfjhaa
