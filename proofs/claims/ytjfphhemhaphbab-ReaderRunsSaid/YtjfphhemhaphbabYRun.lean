/-
  Package reader: Run.
  Conditions: the ranges of Go's types.
-/
import Derived.Test.YtjfphhemhaphbabYGood
namespace Go.Proofs.Ytjfphhemhaphbab
set_option maxRecDepth 100000
open Go.RowKit Go.Shelf
attribute [local go_sem] Oper.semAt_some

set_option maxHeartbeats 4000000 in
theorem run_no (now : Int) (u v lv : Value) (ns os : List Int) (W : World) (hn : NumsAt W .i64 u ns) (ho : NumsAt W .i64 v os) (h1 : ns.length ≤ 9223372036854775807) (h2 : os.length ≤ 9223372036854775807) (hr : ∀ x ∈ os, I64 x) (hm : mayB now ns os = false) :
    Calls Try.prog 9 #[.agg #[.int .i64 now, u, v], lv] W fun e w' => e = .returned (.tuple #[zeroR, .int .i64 0, .int .i64 210]) ∧ Below W.heap.size W w' := by
  have HF := Lib.hid (wR_facts W now u v)
  obtain ⟨w0, hw0⟩ : ∃ X, X = wR W now u v := ⟨_, rfl⟩
  rw [← hw0] at HF
  unfold wR at hw0
  have HC := Lib.hid (may_c now u v ns os w0 (nums_below hn HF.out.2.2.1) (nums_below ho HF.out.2.2.1) h1 h2 hr)
  rw [hm] at HC
  obtain ⟨d0, d1, d2⟩ := HF.out.1.cells
  obtain ⟨p, c, rfl, -⟩ := hn
  obtain ⟨q, d, rfl, -⟩ := ho
  clear hm h1 h2 hr
  go_enter Try.func9, Try.ntmps9
  go_wp2_with fail
  rw [← hw0]
  clear hw0
  (with_reducible refine HC.out.mono ?_)
  rintro e w1 ⟨rfl, hb1⟩
  have HZ1 := Lib.hid (HF.out.2.1.below hb1)
  have HB1 := Lib.hid (below_then HF.out.2.2.1 HF.out.2.2.1.size hb1)
  obtain ⟨g0, g1, g2⟩ := HZ1.out.cells
  have m0 := HZ1.out.marks 0
  have m1 := HZ1.out.marks 1
  have m2 := HZ1.out.marks 2
  have HP := Lib.hid (HZ1.out.put 0 (.slice none 0 0) (.slice none 0 0))
  have HK := Lib.hid (RBox.putK w1 (W.heap.size + 1) 0 (.slice none 0 0) (.slice none 0 0))
  obtain ⟨w3, hw3⟩ : ∃ X : World, X = (((w1.setCell ⟨W.heap.size + 1, 0, none⟩ (.int .i64 0)).setCell ⟨W.heap.size + 1, 1, none⟩ (.slice none 0 0)).setCell ⟨W.heap.size + 1, 2, none⟩ (.slice none 0 0)) := ⟨_, rfl⟩
  rw [← hw3] at HP HK
  have HW3 := Lib.hid hw3
  clear hw3 hb1 HC d0 d1 d2
  go_wp2
  rw [← HW3.out]
  exact bodyPost_ret (v := .tuple #[zeroR, .int .i64 0, .int .i64 210]) (HP.out.result3 rfl _ rfl rfl rfl) rfl ⟨rfl, HB1.out.trans (HK.out.below HB1.out.size (fun k e => by omega))⟩

/-- What Run answers, of readers that may be. -/
def RunRes (B : Nat) (s : RdS) (l : List (Int × Bool)) (e : Ending) (w' : World) : Prop :=
  (∃ i, ∃ h : i < l.length, okTo s (l.take i) ∧ stepE (runS s (l.take i)) l[i].1 l[i].2 ≠ 0 ∧ e = .returned (.tuple #[zeroR, .int .i64 ((i : Int) + 1), .int .i64 (stepE (runS s (l.take i)) l[i].1 l[i].2)])) ∨
  (okTo s l ∧ ∃ g h : Nat, B ≤ g ∧ B ≤ h ∧ g ≠ h ∧ e = .returned (.tuple #[.agg #[.int .i64 (runS s l).now, .slice (some ⟨g, 0, none⟩) (runS s l).ns.length (runS s l).ns.length, .slice (some ⟨h, 0, none⟩) (runS s l).os.length (runS s l).os.length], .int .i64 (l.length : Int), .int .i64 0]) ∧ IBlock w' g (runS s l).ns ∧ IBlock w' h (runS s l).os)

set_option maxHeartbeats 8000000 in
theorem run_yes (s : RdS) (u v lv : Value) (l : List (Int × Bool)) (W : World) (hn : NumsAt W .i64 u s.ns) (ho : NumsAt W .i64 v s.os) (hlv : RgsAt W lv l) (hll : l.length ≤ 1000000000) (g : Good s) :
    Calls Try.prog 9 #[.agg #[.int .i64 s.now, u, v], lv] W fun e w' => RunRes W.heap.size s l e w' ∧ Below W.heap.size W w' := by
  have hr := g.rangeO
  have hm := (good_iff s).2 g
  have h8 := g.l8
  have hoo := g.lo
  have HG := Lib.hid g
  clear g
  have HF := Lib.hid (wR_facts W s.now u v)
  obtain ⟨w0, hw0⟩ : ∃ X, X = wR W s.now u v := ⟨_, rfl⟩
  rw [← hw0] at HF
  unfold wR at hw0
  have HN0 := Lib.hid (And.intro (nums_below hn HF.out.2.2.1) (nums_below ho HF.out.2.2.1))
  have HC := Lib.hid (may_c s.now u v s.ns s.os w0 HN0.out.1 HN0.out.2 (by omega) (by omega) hr)
  rw [hm] at HC
  have HLV := Lib.hid (And.intro hlv hoo)
  obtain ⟨d0, d1, d2⟩ := HF.out.1.cells
  obtain ⟨p, c, rfl, -⟩ := hn
  obtain ⟨q, d, rfl, -⟩ := ho
  obtain ⟨pl, cl, rfl, -⟩ := hlv
  clear hm hr hoo
  go_enter Try.func9, Try.ntmps9
  go_wp2_with fail
  rw [← hw0]
  clear hw0
  (with_reducible refine HC.out.mono ?_)
  rintro e w1 ⟨rfl, hb1⟩
  have HF1 := Lib.hid (show RBox w1 W.heap.size s.now (.slice p s.ns.length c) (.slice q s.os.length d) ∧ RBox w1 (W.heap.size + 1) 0 (.slice none 0 0) (.slice none 0 0) ∧ Below W.heap.size W w1 ∧ W.heap.size + 2 ≤ w1.heap.size from ⟨HF.out.1.below hb1, HF.out.2.1.below hb1, below_then HF.out.2.2.1 HF.out.2.2.1.size hb1, by have := hb1.size; have := HF.out.2.2.2; omega⟩)
  have hN : ∀ Z, Below w1.heap.size w1 Z → Calls Try.prog 23 #[.slice p s.ns.length c] Z fun e w' => (e = .returned (.slice (some ⟨Z.heap.size, 0, none⟩) s.ns.length s.ns.length) ∧ IBlock w' Z.heap.size s.ns) ∧ Below Z.heap.size Z w' := fun Z hZ => own_c _ s.ns Z (nums_below (nums_below HN0.out.1 hb1) hZ) (by omega)
  have hO : ∀ Z, Below w1.heap.size w1 Z → Calls Try.prog 23 #[.slice q s.os.length d] Z fun e w' => (e = .returned (.slice (some ⟨Z.heap.size, 0, none⟩) s.os.length s.os.length) ∧ IBlock w' Z.heap.size s.os) ∧ Below Z.heap.size Z w' := fun Z hZ => own_c _ s.os Z (nums_below (nums_below HN0.out.2 hb1) hZ) (by have := HLV.out.2; omega)
  have HNC := Lib.hid hN
  have HOC := Lib.hid hO
  have HLV1 := Lib.hid (And.intro (HLV.out.1.below HF1.out.2.2.1) HLV.out.2)
  obtain ⟨g0, g1, g2⟩ := HF1.out.1.cells
  clear hb1 HC d0 d1 d2 hN hO HN0 HF
  go_upto_region 3 with fail
  go_cut [7] (fun s7 wc => ∃ z g h : Nat, s7 = .pointer (some ⟨z, 0, none⟩) ∧ Hid (TurnAt wc z g h s ∧ Below w1.heap.size w1 wc ∧ w1.heap.size ≤ g ∧ w1.heap.size ≤ h ∧ w1.heap.size ≤ z))
  case first =>
    have hW2 : Below w1.heap.size w1 w1.drew := (Below.refl _ _).drew
    go_region_held3 (fun w' => w'.cell? ⟨W.heap.size, 0, none⟩ = some (.int .i64 s.now) ∧ w'.cell? ⟨W.heap.size, 1, none⟩ = some (.slice p s.ns.length c) ∧ w'.cell? ⟨W.heap.size, 2, none⟩ = some (.slice q s.os.length d))
      (first
        | exact ⟨g0, g1, g2⟩
        | go_keep
        | (go_split_ands; exact ⟨below_cell hb3 (by assumption), below_cell hb3 (by assumption), below_cell hb3 (by assumption)⟩))
      (first
        | (go_at_call 23; (with_reducible refine (HNC.out _ ?_).mono ?_); exact hW2; rintro e w3 ⟨⟨rfl, hX3⟩, hb3⟩; have HX3 := Lib.hid hX3; have HB3 := Lib.hid hb3; replace hW2 := below_then hW2 hW2.size hb3)
        | (go_at_call 23; (with_reducible refine (HOC.out _ ?_).mono ?_); exact hW2; rintro e w3 ⟨⟨rfl, hX3⟩, hb3⟩; have HX4 := Lib.hid hX3; have HB4 := Lib.hid hb3; replace hW2 := below_then hW2 hW2.size hb3))
    rename_i wa hba hXa _
    clear hX3 hXa hba hb3
    have hlt := HX3.out.lt
    have hlt2 := HX4.out.lt
    have hFIN := Lib.hid (show TurnAt (w3.alloc (.cells #[.int .i64 s.now, .slice (some ⟨w1.heap.size, 0, none⟩) s.ns.length s.ns.length, .slice (some ⟨wa.heap.size, 0, none⟩) s.os.length s.os.length] 49)) w3.heap.size w1.heap.size wa.heap.size s ∧ Below w1.heap.size w1 (w3.alloc (.cells #[.int .i64 s.now, .slice (some ⟨w1.heap.size, 0, none⟩) s.ns.length s.ns.length, .slice (some ⟨wa.heap.size, 0, none⟩) s.os.length s.os.length] 49)) ∧ w1.heap.size ≤ w1.heap.size ∧ w1.heap.size ≤ wa.heap.size ∧ w1.heap.size ≤ w3.heap.size from
      ⟨⟨World.alloc_heap_new _ _, (HX3.out.below HB4.out).below (below1 _ _), HX4.out.below (below1 _ _), fun e => by have h : w1.heap.size < wa.heap.size := hlt; omega⟩, below_then hW2 hW2.size (below1 _ _), Nat.le_refl _, Nat.le_of_lt hlt, hW2.size⟩)
    clear hlt hlt2 hW2
    go_wp2_with fail
    go_meet
    exact ⟨_, _, _, rfl, hFIN⟩
  case rest =>
    obtain ⟨z, g, h, rfl, hT⟩ := hcut
    obtain ⟨hT1, hT2, hT3, hT4, hT5⟩ := hT.out
    have HB5 := Lib.hid (And.intro hT3 (And.intro hT4 hT5))
    have HI0 := Lib.hid (show okTo s (l.take 0) ∧ TurnAt wc z g h (runS s (l.take 0)) ∧ RBox wc (W.heap.size + 1) 0 (.slice none 0 0) (.slice none 0 0) ∧ Below w1.heap.size w1 wc from ⟨trivial, hT1, HF1.out.2.1.below hT2, hT2⟩)
    clear g0 g1 g2 HNC HOC HLV hT1 hT2 hT3 hT4 hT5 hT
    obtain ⟨w2, hw2⟩ : ∃ X : World, X = wc := ⟨_, rfl⟩
    rw [← hw2] at HI0
    rw [← hw2]
    clear hw2
    go_wp2
    go_loopw [29] (fun iv wr => ∃ k : Nat, k ≤ l.length ∧ iv = .int .i64 (k : Int) ∧ Hid (okTo s (l.take k) ∧ TurnAt wr z g h (runS s (l.take k)) ∧ RBox wr (W.heap.size + 1) 0 (.slice none 0 0) (.slice none 0 0) ∧ Below w1.heap.size w1 wr)) (fun iv _ => l.length - (intOf iv).toNat)
    case atStart => exact ⟨0, Nat.zero_le _, rfl, HI0⟩
    case round =>
      clear HI0
      obtain ⟨k, hk, rfl, HI⟩ := hrel
      by_cases hlt : k < l.length
      · obtain ⟨hok, hT, hZ, hB⟩ := HI.out
        have hgood := HG.out.run _ hok
        have hsn1 := okTo_snoc (l.take k) s l[k]
        have hsn2 := runS_snoc s (l.take k) l[k]
        rw [← List.take_succ_eq_append_getElem hlt] at hsn1 hsn2
        obtain ⟨pb, hpb⟩ : ∃ x : RdS, x = runS s (l.take k) := ⟨_, rfl⟩
        rw [← hpb] at hT hgood hsn1 hsn2
        obtain ⟨cpu, hcpu⟩ : ∃ x, x = l[k].1 := ⟨_, rfl⟩
        obtain ⟨en, hen⟩ : ∃ x, x = l[k].2 := ⟨_, rfl⟩
        obtain ⟨pp, cc, hpe, hcells⟩ := HLV1.out.1.below hB
        injection hpe with hpe1 hpe2 hpe3
        subst hpe1
        clear hpe2 hpe3
        obtain ⟨b, off, hp, hcs⟩ := hcells (by intro e; rw [e] at hlt; simp at hlt)
        obtain ⟨hx, hy⟩ := hcs k hlt
        rw [← hcpu] at hx hsn1 hsn2
        rw [← hen] at hy hsn1 hsn2
        subst hp
        have HSN := Lib.hid (And.intro hsn1 hsn2)
        have HTK := Lib.hid (And.intro hok (And.intro hpb (And.intro hcpu hen)))
        obtain ⟨w3, hw3⟩ : ∃ X : World, X = wr.alloc (.cells #[.int .i64 cpu, .bool en] 33) := ⟨_, rfl⟩
        have hb3 : Below wr.heap.size wr w3 := by rw [hw3]; exact below1 _ _
        have hq0 : w3.cell? ⟨wr.heap.size, 0, none⟩ = some (.int .i64 cpu) := by rw [hw3]; simp
        have hq1 : w3.cell? ⟨wr.heap.size, 1, none⟩ = some (.bool en) := by rw [hw3]; simp
        have HZ3 := Lib.hid (show RBox w3 (W.heap.size + 1) 0 (.slice none 0 0) (.slice none 0 0) ∧ Below w1.heap.size w1 w3 ∧ TurnAt w3 z g h pb from ⟨hZ.below hb3, below_then hB hB.size hb3, hT.below hb3⟩)
        have HS2 := Lib.hid (show W.heap.size + 2 ≤ w1.heap.size ∧ Below W.heap.size W w1 from ⟨HF1.out.2.2.2, HF1.out.2.2.1⟩)
        have HTS := Lib.hid (And.intro hT.zg hT.zh)
        have hk0 : (0 : Int) ≤ (k : Int) := by omega
        have hkl : (k : Int) < (l.length : Int) := by omega
        have HW3 := Lib.hid hw3
        have HBL := Lib.hid (World.block_lt_of_cell? wr _ hx)
        have HCE := Lib.hid (enter_c z g h pb cpu w3 HZ3.out.2.2 hgood.lo hgood.l8 ⟨hgood.n0, hgood.n1⟩ hgood.range)
        have HCL := Lib.hid (leave_c z g h pb cpu w3 HZ3.out.2.2 hgood.lo hgood.l8 ⟨hgood.n0, hgood.n1⟩ hgood.range)
        clear hok hT hZ hB hsn1 hsn2 hpb hcpu hen hcells hcs hw3 hb3 hgood HI
        cases en with
        | true =>
          go_upto_region 8 with fail
          rw [← HW3.out]
          clear hx hy
          obtain ⟨e1, he1⟩ : ∃ x, x = stepE pb cpu true := ⟨_, rfl⟩
          rw [← he1] at HCE
          have HE1 := Lib.hid he1
          clear he1
          go_wp2_with fail
          (with_reducible refine HCE.out.mono ?_)
          rintro e w4 ⟨rfl, hk4, ht4⟩
          have hz4 : RBox w4 (W.heap.size + 1) 0 (.slice none 0 0) (.slice none 0 0) := HZ3.out.1.keeps hk4 (fun e => by have := HB5.out; have := HS2.out.1; omega)
          have hB4 : Below w1.heap.size w1 w4 := HZ3.out.2.1.trans (hk4.below HZ3.out.2.1.size (fun j e => by have := HB5.out; omega))
          have HZ4 := Lib.hid (And.intro hz4 hB4)
          by_cases hc : e1 = 0
          · have hq : (e1 != 0) = false := by rw [hc]; rfl
            have HI4 := Lib.hid (show okTo s (l.take (k + 1)) ∧ TurnAt w4 z g h (runS s (l.take (k + 1))) ∧ RBox w4 (W.heap.size + 1) 0 (.slice none 0 0) (.slice none 0 0) ∧ Below w1.heap.size w1 w4 from ⟨HSN.out.1.2 ⟨HTK.out.1, by rw [← HE1.out]; exact hc⟩, by rw [HSN.out.2]; exact ht4 hc, hz4, hB4⟩)
            clear hc hk4 ht4 hz4 hB4 hq0 hq1
            go_wp2
            go_roundw
            case rel => exact ⟨k + 1, by omega, rfl, HI4⟩
            case measure => first | omega | (simp [intOf]; omega)
          · have hq : (e1 != 0) = true := by rw [bne_iff_ne]; exact hc
            obtain ⟨g0, g1, g2⟩ := hz4.cells
            have m0 := hz4.marks 0
            have m1 := hz4.marks 1
            have m2 := hz4.marks 2
            have HP := Lib.hid (hz4.put 0 (.slice none 0 0) (.slice none 0 0))
            have HK := Lib.hid (RBox.putK w4 (W.heap.size + 1) 0 (.slice none 0 0) (.slice none 0 0))
            obtain ⟨w5, hw5⟩ : ∃ X : World, X = (((w4.setCell ⟨W.heap.size + 1, 0, none⟩ (.int .i64 0)).setCell ⟨W.heap.size + 1, 1, none⟩ (.slice none 0 0)).setCell ⟨W.heap.size + 1, 2, none⟩ (.slice none 0 0)) := ⟨_, rfl⟩
            rw [← hw5] at HP HK
            have HW5 := Lib.hid hw5
            have HC := Lib.hid hc
            clear hw5 hc hk4 ht4 hz4 hB4 hq0 hq1
            go_wp2
            rw [← HW5.out]
            refine bodyPost_ret (v := .tuple #[zeroR, .int .i64 ((k : Int) + 1), .int .i64 e1]) (HP.out.result3 rfl _ rfl rfl rfl) rfl ⟨.inl ⟨k, hlt, HTK.out.1, ?_, ?_⟩, ?_⟩
            · rw [← HTK.out.2.1, ← HTK.out.2.2.1, ← HTK.out.2.2.2, ← HE1.out]; exact HC.out
            · rw [← HTK.out.2.1, ← HTK.out.2.2.1, ← HTK.out.2.2.2, ← HE1.out]
            · have hB : Below W.heap.size W w4 := below_then HS2.out.2 HS2.out.2.size HZ4.out.2
              exact hB.trans (HK.out.below hB.size (fun j e => by omega))
        | false =>
          go_upto_region 8 with fail
          rw [← HW3.out]
          clear hx hy
          obtain ⟨e1, he1⟩ : ∃ x, x = stepE pb cpu false := ⟨_, rfl⟩
          rw [← he1] at HCL
          have HE1 := Lib.hid he1
          clear he1
          go_wp2_with fail
          (with_reducible refine HCL.out.mono ?_)
          rintro e w4 ⟨rfl, hk4, ht4⟩
          have hz4 : RBox w4 (W.heap.size + 1) 0 (.slice none 0 0) (.slice none 0 0) := HZ3.out.1.keeps hk4 (fun e => by have := HB5.out; have := HS2.out.1; omega)
          have hB4 : Below w1.heap.size w1 w4 := HZ3.out.2.1.trans (hk4.below HZ3.out.2.1.size (fun j e => by have := HB5.out; omega))
          have HZ4 := Lib.hid (And.intro hz4 hB4)
          by_cases hc : e1 = 0
          · have hq : (e1 != 0) = false := by rw [hc]; rfl
            have HI4 := Lib.hid (show okTo s (l.take (k + 1)) ∧ TurnAt w4 z g h (runS s (l.take (k + 1))) ∧ RBox w4 (W.heap.size + 1) 0 (.slice none 0 0) (.slice none 0 0) ∧ Below w1.heap.size w1 w4 from ⟨HSN.out.1.2 ⟨HTK.out.1, by rw [← HE1.out]; exact hc⟩, by rw [HSN.out.2]; exact ht4 hc, hz4, hB4⟩)
            clear hc hk4 ht4 hz4 hB4 hq0 hq1
            go_wp2
            go_roundw
            case rel => exact ⟨k + 1, by omega, rfl, HI4⟩
            case measure => first | omega | (simp [intOf]; omega)
          · have hq : (e1 != 0) = true := by rw [bne_iff_ne]; exact hc
            obtain ⟨g0, g1, g2⟩ := hz4.cells
            have m0 := hz4.marks 0
            have m1 := hz4.marks 1
            have m2 := hz4.marks 2
            have HP := Lib.hid (hz4.put 0 (.slice none 0 0) (.slice none 0 0))
            have HK := Lib.hid (RBox.putK w4 (W.heap.size + 1) 0 (.slice none 0 0) (.slice none 0 0))
            obtain ⟨w5, hw5⟩ : ∃ X : World, X = (((w4.setCell ⟨W.heap.size + 1, 0, none⟩ (.int .i64 0)).setCell ⟨W.heap.size + 1, 1, none⟩ (.slice none 0 0)).setCell ⟨W.heap.size + 1, 2, none⟩ (.slice none 0 0)) := ⟨_, rfl⟩
            rw [← hw5] at HP HK
            have HW5 := Lib.hid hw5
            have HC := Lib.hid hc
            clear hw5 hc hk4 ht4 hz4 hB4 hq0 hq1
            go_wp2
            rw [← HW5.out]
            refine bodyPost_ret (v := .tuple #[zeroR, .int .i64 ((k : Int) + 1), .int .i64 e1]) (HP.out.result3 rfl _ rfl rfl rfl) rfl ⟨.inl ⟨k, hlt, HTK.out.1, ?_, ?_⟩, ?_⟩
            · rw [← HTK.out.2.1, ← HTK.out.2.2.1, ← HTK.out.2.2.2, ← HE1.out]; exact HC.out
            · rw [← HTK.out.2.1, ← HTK.out.2.2.1, ← HTK.out.2.2.2, ← HE1.out]
            · have hB : Below W.heap.size W w4 := below_then HS2.out.2 HS2.out.2.size HZ4.out.2
              exact hB.trans (HK.out.below hB.size (fun j e => by omega))
      · obtain rfl : k = l.length := by omega
        have hti := HI.out
        rw [List.take_length] at hti
        obtain ⟨hok, hT, hZ, hB⟩ := hti
        obtain ⟨t0, t1, t2⟩ := hT.cells
        obtain ⟨g0, g1, g2⟩ := hZ.cells
        have m0 := hZ.marks 0
        have m1 := hZ.marks 1
        have m2 := hZ.marks 2
        obtain ⟨pb, hpb⟩ : ∃ x : RdS, x = runS s l := ⟨_, rfl⟩
        rw [← hpb] at hT t0 t1 t2
        obtain ⟨nl, hnl⟩ : ∃ x, x = pb.ns.length := ⟨_, rfl⟩
        obtain ⟨ol, hol⟩ : ∃ x, x = pb.os.length := ⟨_, rfl⟩
        obtain ⟨nw, hnw⟩ : ∃ x, x = pb.now := ⟨_, rfl⟩
        rw [← hnl] at t1
        rw [← hol] at t2
        rw [← hnw] at t0
        have HP := Lib.hid (hZ.put nw (.slice (some ⟨g, 0, none⟩) nl nl) (.slice (some ⟨h, 0, none⟩) ol ol))
        have HK := Lib.hid (RBox.putK wr (W.heap.size + 1) nw (.slice (some ⟨g, 0, none⟩) nl nl) (.slice (some ⟨h, 0, none⟩) ol ol))
        obtain ⟨w5, hw5⟩ : ∃ X : World, X = (((wr.setCell ⟨W.heap.size + 1, 0, none⟩ (.int .i64 nw)).setCell ⟨W.heap.size + 1, 1, none⟩ (.slice (some ⟨g, 0, none⟩) nl nl)).setCell ⟨W.heap.size + 1, 2, none⟩ (.slice (some ⟨h, 0, none⟩) ol ol)) := ⟨_, rfl⟩
        rw [← hw5] at HP HK
        have HW5 := Lib.hid hw5
        have HS2 := Lib.hid (show W.heap.size + 2 ≤ w1.heap.size ∧ Below W.heap.size W w1 from ⟨HF1.out.2.2.2, HF1.out.2.2.1⟩)
        have HFIN := Lib.hid (And.intro hok (And.intro hpb (And.intro hB (And.intro hT (And.intro hnl (And.intro hol hnw))))))
        clear hw5 hok hT hZ hB hpb hnl hol hnw HI hlt hk
        go_wp2
        rw [← HW5.out]
        obtain ⟨hok, hpb, hB, hT, hnl, hol, hnw⟩ := HFIN.out
        refine bodyPost_ret (v := .tuple #[.agg #[.int .i64 nw, .slice (some ⟨g, 0, none⟩) nl nl, .slice (some ⟨h, 0, none⟩) ol ol], .int .i64 (l.length : Int), .int .i64 0]) (HP.out.result3 rfl _ rfl rfl rfl) rfl ⟨.inr ⟨hok, g, h, ?_, ?_, hT.apart, ?_, ?_, ?_⟩, ?_⟩
        · have := HS2.out.1; have := HB5.out; omega
        · have := HS2.out.1; have := HB5.out; omega
        · rw [← hpb, ← hnl, ← hol, ← hnw]
        · rw [← hpb]; exact hT.nest.keeps HK.out (fun e => by have := HS2.out.1; have := HB5.out; omega)
        · rw [← hpb]; exact hT.opened.keeps HK.out (fun e => by have := HS2.out.1; have := HB5.out; omega)
        · have hB2 : Below W.heap.size W wr := below_then HS2.out.2 HS2.out.2.size hB
          exact hB2.trans (HK.out.below hB2.size (fun j e => by omega))

end Go.Proofs.Ytjfphhemhaphbab
