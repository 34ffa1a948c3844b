/-
  The reference's Give.
  Conditions: the pool may be, and its row lies in a block of its own.
-/
import Derived.Test.YthjkaabbbhfjhaaPRefA
import Derived.Laws.AppendOwnNone
namespace Go.Proofs.Ythjkaabbbhfjhaa
open Go.RowKit Go.Shelf
attribute [local go_sem] Oper.semAt_some

/-- append of a row of one's own to one of one's own. -/
theorem wpList_append_any {P : Program} {w : World} {ops : Array Oper} {rest : List Oper} {o : Oper} {a : Act} {Q : Exit → Act → World → Prop} (hgd : o.guard = none) (s x : Operand) (t : TypeId)
    (ho : o.op = .call { callee := .builtin .append, args := #[s, x], argTypes := #[t, t] })
    (base : Nat) (e : TypeId) (i : TypeInfo) (z : Value) (bytes : Nat) (ht : P.underlying t = some (.slice e)) (hi : P.info? e = some i) (hz : i.zero = some z)
    (hsize : i.size = 1) (hby : i.bytes = bytes) (hzs : z.cells.size = 1)
    (v : Value) (n : Nat) (xs : List Value) (hs : a.eval s = v) (hown : w.ownsRow base e 1 v n xs)
    (vx : Value) (B m : Nat) (news : List Value) (hx : a.eval x = vx) (hxo : w.ownsRow B e 1 vx m news) (h1 : ∀ u ∈ news, u.oneCell' = true)
    (h63 : n + m ≤ maxLen) (hbytes : (n + m) * bytes ≤ 140737488355328) (hbase : base ≤ w.heap.size)
    (h : ∀ v' w', w'.ownsRow base e 1 v' (n + m) (xs ++ news) → Keeps (fun q => some q = v.ownBlock) w w' → wpList P ops Q rest (a.put o.dst v') w') : wpList P ops Q (o :: rest) a w := by
  have hlen := hxo.1
  rcases id hxo.2 with ⟨rfl, rfl⟩ | ⟨g, cap, cur, rfl, _⟩
  · obtain rfl : news = [] := List.eq_nil_of_length_eq_zero (by omega)
    refine wpList_append_own_none hgd s x t ho base e i 1 ht hi v n xs hs hown hx (h _ _ ?_ (Keeps.refl _ _))
    rw [List.append_nil]
    exact hown
  · refine wpList_append_own w hgd s x t ho base e i z 1 bytes ht hi hz hsize hby hzs (by decide) v n xs hs hown ⟨g, 0, none⟩ m cap news hx (by omega) (fun j u hj => ?_) h1 h63 hbytes hbase fun v' w' h2 h3 _ => h v' w' h2 (Keeps.of_grown h3)
    obtain ⟨hj1, rfl⟩ := List.getElem?_eq_some_iff.1 hj
    rw [addr_add_off, Nat.zero_add]
    rw [hxo.cellAt j (by omega), List.getElem?_eq_getElem hj1]
/-- Between two rounds. -/
def RG (W : World) (z : Nat) (b pg : Int) (v : Value) (fs ps : List Int) (i : Nat) (p' : Option Addr) (n c' : Nat) (wr : World) : Prop :=
  ∃ gs, n = gs.length ∧ wr.ownsRow (z + 2) 3 1 (.slice p' n c') n (gs.map (Value.int .i64)) ∧ PBox wr z b pg v ∧ PBox wr (z + 1) 0 0 (.slice none 0 0) ∧ Below z W wr ∧ okP pg gs ∧ giveR pg fs ps = giveR pg gs (ps.drop i)

set_option maxRecDepth 100000 in
set_option maxHeartbeats 4000000 in
theorem rgive_c (B0 : Nat) (b pg : Int) (p : Option Addr) (c : Nat) (fs ps : List Int) (q : Option Addr) (c2 : Nat) (W : World) (hO : W.ownsRow B0 3 1 (.slice p fs.length c) fs.length (fs.map (Value.int .i64))) (hpm : ps.length ≤ 4611686018427387904) (hr : rightP b pg fs = true) (hps : NumsAt W .i64 (.slice q ps.length c2) ps) :
    Calls Try.prog 13 #[.agg #[.int .i64 b, .int .i64 pg, .slice p fs.length c], .slice q ps.length c2] W fun e w' => (((giveR pg fs ps).1 ≠ 0 ∧ e = .returned (.tuple #[zeroP, .int .i64 (giveR pg fs ps).1])) ∨ ((giveR pg fs ps).1 = 0 ∧ ∃ p' c', e = .returned (.tuple #[.agg #[.int .i64 b, .int .i64 pg, .slice p' (giveR pg fs ps).2.length c'], .int .i64 0]) ∧ w'.ownsRow W.heap.size 3 1 (.slice p' (giveR pg fs ps).2.length c') (giveR pg fs ps).2.length ((giveR pg fs ps).2.map (Value.int .i64)))) ∧ Below W.heap.size W w' := by
  have HT := Lib.hid (wG_facts W b pg (.slice p fs.length c))
  obtain ⟨w0, hw0⟩ : ∃ X, X = wG W b pg (.slice p fs.length c) := ⟨_, rfl⟩
  rw [← hw0] at HT
  unfold wG at hw0
  have HFIT := Lib.hid (rightP_iff.1 hr)
  have HL64 := Lib.hid (rightP_len hr)
  have HPS := Lib.hid hps
  have HO0 := Lib.hid (owns_below hO HT.out.2.2.1)
  obtain ⟨res, hres⟩ : ∃ r, r = giveR pg fs ps := ⟨_, rfl⟩
  rw [← hres]
  have HRES := Lib.hid hres
  obtain ⟨i0, hi1, hz0, hz1, hz2⟩ := info_parts int_info
  have HI0 := Lib.hid (And.intro hi1 (And.intro hz0 (And.intro hz1 hz2)))
  obtain ⟨wl, hwl⟩ : ∃ X : World, X = w0.alloc (.cells #[] 3) := ⟨_, rfl⟩
  have hbl : Below w0.heap.size w0 wl := by rw [hwl]; exact below1 _ _
  have HOL := Lib.hid (owns_below HO0.out hbl)
  have HNW := Lib.hid (show wl.ownsRow (W.heap.size + 2) 3 1 (.slice (some ⟨w0.heap.size, 0, none⟩) 0 0) 0 [] by rw [hwl]; exact World.ownsRow_lit (base := W.heap.size + 2) (e := 3) (size := 1) w0 #[] 0 (Nat.le_of_eq HT.out.2.2.2.symm) (by decide) rfl)
  have HTL := Lib.hid (show PBox wl W.heap.size b pg (.slice p fs.length c) ∧ PBox wl (W.heap.size + 1) 0 0 (.slice none 0 0) ∧ Below W.heap.size W wl ∧ wl.heap.size = W.heap.size + 3 from ⟨HT.out.1.below hbl, HT.out.2.1.below hbl, below_then HT.out.2.2.1 HT.out.2.2.1.size hbl, by rw [hwl, World.size_alloc, HT.out.2.2.2]⟩)
  obtain ⟨c0, c1, c2'⟩ := HTL.out.1.cells
  have HWL := Lib.hid hwl
  have HW0 := Lib.hid hw0
  have hsz : w0.heap.size = W.heap.size + 2 := HT.out.2.2.2
  have HSZ := Lib.hid hsz
  rw [hsz] at HNW
  rw [hwl, hw0] at c0 c1 c2'
  clear hO hr hps hres hi1 hz0 hz1 hz2 hw0 hwl hbl hsz
  go_enter Try.func13, Try.ntmps13
  go_upto_region 1 with fail
  go_cut [6] (fun s6 wd => ∃ p1 c1', s6 = .slice p1 fs.length c1' ∧ Hid (RG W W.heap.size b pg (.slice p fs.length c) fs ps 0 p1 fs.length c1' wd))
  case first =>
    go_wp2_with (at_builtin; rw [← HW0.out, ← HWL.out]; go_loud (refine wpList_append_any rfl _ _ 22 rfl (W.heap.size + 2) 3 i0 (.int .i64 0) 8 Try.underlying22 HI0.out.1 HI0.out.2.1 HI0.out.2.2.1 HI0.out.2.2.2 rfl (.slice (some ⟨W.heap.size + 2, 0, none⟩) 0 0) 0 [] rfl HNW.out (.slice p fs.length c) B0 fs.length (fs.map (Value.int .i64)) rfl HOL.out (by simp [Value.oneCell']) (by have := HL64.out; unfold maxLen; omega) (by have := HL64.out; omega) (by have := HTL.out.2.2.2; omega) ?_; intro v' w5 hown' hk5; obtain ⟨pv, cv, rfl⟩ := owns_slice hown'; have X := Lib.hid (And.intro hown' hk5); clear hown' hk5))
    go_meet
    have h1 := X.out.1
    rw [Nat.zero_add, List.nil_append] at h1
    have hk := X.out.2
    have hne : ∀ k, k < W.heap.size + 2 → ¬ (some k = (Value.slice (some ⟨W.heap.size + 2, 0, none⟩) 0 0).ownBlock) := fun k hk e => by
      have e : some k = some (W.heap.size + 2) := e
      injection e with e
      omega
    exact ⟨pv, cv, rfl, Lib.hid ⟨fs, rfl, h1, HTL.out.1.keeps hk (hne _ (by omega)), HTL.out.2.1.keeps hk (hne _ (by omega)), HTL.out.2.2.1.trans (hk.below HTL.out.2.2.1.size (fun k e => by
      have e : some k = some (W.heap.size + 2) := e
      injection e with e
      omega)), HFIT.out.2, rfl⟩⟩
  case rest =>
    obtain ⟨p1, c1', rfl, HG0⟩ := hcut
    clear c0 c1 c2' HWL HW0 HNW HTL HOL HT HO0
    obtain ⟨wd, hwd⟩ : ∃ X : World, X = wc := ⟨_, rfl⟩
    rw [← hwd] at HG0
    rw [← hwd]
    clear hwd
    go_wp2
    go_loopw [6, 15] (fun sv iv wr => ∃ (i : Nat) (p' : Option Addr) (n c' : Nat), i ≤ ps.length ∧ sv = .slice p' n c' ∧ iv = .int .i64 (i : Int) ∧ Hid (RG W W.heap.size b pg (.slice p fs.length c) fs ps i p' n c' wr)) (fun _ iv _ => ps.length - (pIntOf iv).toNat)
    case atStart => exact ⟨0, p1, fs.length, c1', Nat.zero_le _, rfl, rfl, HG0⟩
    case round =>
      clear HG0
      obtain ⟨i, p', n, c', hi, rfl, rfl, HG⟩ := hrel
      by_cases hlt : i < ps.length
      · obtain ⟨gs, rfl, hO, hP, hR, hB, hok, hg⟩ := HG.out
        obtain ⟨qq, cc, e, hcs⟩ := HPS.out
        injection e with e1 _ e3
        subst e1
        obtain ⟨bb, off, rfl, hc3⟩ := hcs (by intro e; rw [e] at hlt; exact absurd hlt (Nat.not_lt_zero _))
        have hx := (hB.cell (World.block_lt_of_cell? W _ (hc3 i hlt))).trans (hc3 i hlt)
        rw [List.drop_eq_getElem_cons hlt] at hg
        obtain ⟨x, hxe⟩ : ∃ x, x = ps[i] := ⟨_, rfl⟩
        rw [← hxe] at hx hg
        obtain ⟨d0, d1, d2⟩ := hP.cells
        have HLG := Lib.hid (okP_iff_len HFIT.out.1 hok)
        have HALL := Lib.hid (And.intro hO (And.intro hP (And.intro hR (And.intro hB (And.intro hok hg)))))
        have HH := Lib.hid (rhas_c (.slice p' gs.length c') gs x wr (nums_of_owns rfl hO) (by have := HLG.out; omega))
        clear hcs hc3 hxe e3 hO hP hR hB hok hg HG
        by_cases h1 : x < 0
        · have HRS := Lib.hid (show res = (2, []) by rw [HRES.out, HALL.out.2.2.2.2.2]; unfold giveR; rw [if_pos (by unfold hasB; simp; omega)])
          have HR5 := Lib.hid (HALL.out.2.2.1)
          have HB5 := Lib.hid (HALL.out.2.2.2.1)
          obtain ⟨f0, f1, f2⟩ := HR5.out.cells
          have m0 := HR5.out.marks 0
          have m1 := HR5.out.marks 1
          have m2 := HR5.out.marks 2
          have HP := Lib.hid (HR5.out.put 0 0 (.slice none 0 0))
          have HK := Lib.hid (PBox.putK wr (W.heap.size + 1) 0 0 (.slice none 0 0))
          obtain ⟨w3, hw3⟩ : ∃ X : World, X = (((wr.setCell ⟨W.heap.size + 1, 0, none⟩ (.int .i64 0)).setCell ⟨W.heap.size + 1, 1, none⟩ (.int .i64 0)).setCell ⟨W.heap.size + 1, 2, none⟩ (.slice none 0 0)) := ⟨_, rfl⟩
          rw [← hw3] at HP HK
          have HW3 := Lib.hid hw3
          clear hw3
          go_wp2
          rw [← HW3.out]
          exact bodyPost_ret (v := .tuple #[zeroP, .int .i64 2]) (HP.out.result rfl _ rfl rfl) rfl ⟨.inl (by rw [HRS.out]; exact ⟨by decide, rfl⟩), HB5.out.trans (HK.out.below HB5.out.size (fun k e => by omega))⟩
        · by_cases h2 : pg ≤ x
          · have HRS := Lib.hid (show res = (2, []) by rw [HRES.out, HALL.out.2.2.2.2.2]; unfold giveR; rw [if_pos (by unfold hasB; simp; omega)])
            have HR5 := Lib.hid (HALL.out.2.2.1)
            have HB5 := Lib.hid (HALL.out.2.2.2.1)
            obtain ⟨f0, f1, f2⟩ := HR5.out.cells
            have m0 := HR5.out.marks 0
            have m1 := HR5.out.marks 1
            have m2 := HR5.out.marks 2
            have HP := Lib.hid (HR5.out.put 0 0 (.slice none 0 0))
            have HK := Lib.hid (PBox.putK wr (W.heap.size + 1) 0 0 (.slice none 0 0))
            obtain ⟨w3, hw3⟩ : ∃ X : World, X = (((wr.setCell ⟨W.heap.size + 1, 0, none⟩ (.int .i64 0)).setCell ⟨W.heap.size + 1, 1, none⟩ (.int .i64 0)).setCell ⟨W.heap.size + 1, 2, none⟩ (.slice none 0 0)) := ⟨_, rfl⟩
            rw [← hw3] at HP HK
            have HW3 := Lib.hid hw3
            clear hw3
            go_wp2
            rw [← HW3.out]
            exact bodyPost_ret (v := .tuple #[zeroP, .int .i64 2]) (HP.out.result rfl _ rfl rfl) rfl ⟨.inl (by rw [HRS.out]; exact ⟨by decide, rfl⟩), HB5.out.trans (HK.out.below HB5.out.size (fun k e => by omega))⟩
          · have HHB := Lib.hid (show hasB pg x = true by unfold hasB; simp; omega)
            go_wp2_with fail
            refine HH.out.mono ?_
            rintro e wq ⟨rfl, rfl⟩
            clear HH
            by_cases hm : x ∈ gs
            · have HRS := Lib.hid (show res = (5, []) by rw [HRES.out, HALL.out.2.2.2.2.2]; unfold giveR; rw [if_neg (by rw [HHB.out]; simp), if_pos hm])
              rw [decide_eq_true hm]
              clear hm
              have HR5 := Lib.hid (HALL.out.2.2.1)
              have HB5 := Lib.hid (HALL.out.2.2.2.1)
              clear d0 d1 d2
              obtain ⟨f0, f1, f2⟩ := HR5.out.cells
              have m0 := HR5.out.marks 0
              have m1 := HR5.out.marks 1
              have m2 := HR5.out.marks 2
              have HP := Lib.hid (HR5.out.put 0 0 (.slice none 0 0))
              have HK := Lib.hid (PBox.putK wq (W.heap.size + 1) 0 0 (.slice none 0 0))
              obtain ⟨w3, hw3⟩ : ∃ X : World, X = (((wq.setCell ⟨W.heap.size + 1, 0, none⟩ (.int .i64 0)).setCell ⟨W.heap.size + 1, 1, none⟩ (.int .i64 0)).setCell ⟨W.heap.size + 1, 2, none⟩ (.slice none 0 0)) := ⟨_, rfl⟩
              rw [← hw3] at HP HK
              have HW3 := Lib.hid hw3
              clear hw3
              go_wp2
              rw [← HW3.out]
              exact bodyPost_ret (v := .tuple #[zeroP, .int .i64 5]) (HP.out.result rfl _ rfl rfl) rfl ⟨.inl (by rw [HRS.out]; exact ⟨by decide, rfl⟩), HB5.out.trans (HK.out.below HB5.out.size (fun k e => by omega))⟩
            · have HM := Lib.hid hm
              rw [decide_eq_false hm]
              have hzl : W.heap.size + 2 ≤ wq.heap.size := by have := HALL.out.2.2.1.lt; omega
              have hlg : gs.length ≤ 64 := HLG.out
              clear hm d0 d1 d2 hx
              go_wp2_with (at_builtin; go_loud (refine wpList_append_own_at _ rfl _ _ 22 rfl (W.heap.size + 2) 3 i0 (.int .i64 0) 1 8 Try.underlying22 HI0.out.1 HI0.out.2.1 HI0.out.2.2.1 HI0.out.2.2.2 rfl (by decide) (.slice p' gs.length c') gs.length _ rfl (HALL.out.1.alloc _) ⟨wq.heap.size, 0, none⟩ 1 1 [.int .i64 x] rfl rfl (cell_one_new _ _ _) (fun y hy => by rw [List.mem_singleton.1 hy]; rfl) (by unfold maxLen; omega) (by omega) (by simp; omega) ?_; intro v' w5 hown' hgrow _ hat; obtain ⟨pv, cv, rfl⟩ := owns_slice hown'; have X := Lib.hid (And.intro hown' hgrow); clear hown' hgrow hat))
              have hk5 : Keeps (fun k => some k = (Value.slice p' gs.length c').ownBlock) wq w5 := ((Keeps.alloc _ wq _).trans (Keeps.of_grown X.out.2))
              have hne : ∀ k, k < W.heap.size + 2 → ¬ (some k = (Value.slice p' gs.length c').ownBlock) := fun k hk e => by have := (HALL.out.1.lt _ e.symm).1; omega
              have HG6 := Lib.hid (show RG W W.heap.size b pg (.slice p fs.length c) fs ps (i + 1) pv (gs.length + 1) cv w5 from ⟨gs ++ [x], by simp, by rw [List.map_append]; exact X.out.1, HALL.out.2.1.keeps hk5 (hne _ (by omega)), HALL.out.2.2.1.keeps hk5 (hne _ (by omega)), HALL.out.2.2.2.1.trans (hk5.below HALL.out.2.2.2.1.size (fun k e => by have := (HALL.out.1.lt _ e.symm).1; omega)), okP_snoc HALL.out.2.2.2.2.1 HHB.out HM.out, by rw [HALL.out.2.2.2.2.2]; show (if hasB pg x = false then _ else _) = _; rw [if_neg (by rw [HHB.out]; simp), if_neg HM.out]⟩)
              clear hk5 hne
              go_roundw
              case rel => exact ⟨i + 1, pv, gs.length + 1, cv, by omega, rfl, by go_num, HG6⟩
              case measure => simp [pIntOf]; omega
      · obtain ⟨gs, rfl, hO, hP, hR, hB, hok, hg⟩ := HG.out
        rw [List.drop_eq_nil_of_le (by omega)] at hg
        obtain ⟨d0, d1, d2⟩ := hP.cells
        have l2 := hP.marks 2
        obtain ⟨w2, hw2⟩ : ∃ X : World, X = wr.setCell ⟨W.heap.size, 2, none⟩ (.slice p' gs.length c') := ⟨_, rfl⟩
        have hk2 : Keeps (fun k => k = W.heap.size) wr w2 := by rw [hw2]; exact Keeps.setCell wr (S := (· = W.heap.size)) (p := ⟨W.heap.size, 2, none⟩) rfl _
        have HP2 := Lib.hid (show PBox w2 W.heap.size b pg (.slice p' gs.length c') by rw [hw2]; unfold PBox; rw [heap_setCell_same wr W.heap.size 2 _ _ _ hP]; rfl)
        have HR2 := Lib.hid (hR.keeps hk2 (by omega))
        have HB2 := Lib.hid (hB.trans (hk2.below hB.size (fun k e => by omega)))
        have HO2 := Lib.hid (hk2.row hO (fun g hg e => by have := (hO.lt g hg).1; omega))
        have HRS := Lib.hid (show res = (0, gs) by rw [HRES.out, hg]; rfl)
        have HW2 := Lib.hid hw2
        clear hw2 hk2 hO hP hR hB hok hg HG
        go_upto_region 12 with fail
        rw [← HW2.out]
        clear d0 d1 d2 l2 HW2
        obtain ⟨d0, d1, d2⟩ := HP2.out.cells
        obtain ⟨f0, f1, f2⟩ := HR2.out.cells
        have m0 := HR2.out.marks 0
        have m1 := HR2.out.marks 1
        have m2 := HR2.out.marks 2
        have HP := Lib.hid (HR2.out.put b pg (.slice p' gs.length c'))
        have hK := PBox.putK w2 (W.heap.size + 1) b pg (.slice p' gs.length c')
        obtain ⟨w3, hw3⟩ : ∃ X : World, X = (((w2.setCell ⟨W.heap.size + 1, 0, none⟩ (.int .i64 b)).setCell ⟨W.heap.size + 1, 1, none⟩ (.int .i64 pg)).setCell ⟨W.heap.size + 1, 2, none⟩ (.slice p' gs.length c')) := ⟨_, rfl⟩
        rw [← hw3] at HP hK
        have HFIN := Lib.hid (show w3.ownsRow W.heap.size 3 1 (.slice p' gs.length c') gs.length (gs.map (Value.int .i64)) ∧ Below W.heap.size W w3 from ⟨(hK.row HO2.out (fun g hg e => by have := (HO2.out.lt g hg).1; omega)).mono (by omega), HB2.out.trans (hK.below HB2.out.size (fun k e => by omega))⟩)
        have HW3 := Lib.hid hw3
        clear hw3 hK
        go_wp2
        rw [← HW3.out]
        refine bodyPost_ret (v := .tuple #[.agg #[.int .i64 b, .int .i64 pg, .slice p' gs.length c'], .int .i64 0]) (HP.out.result rfl _ rfl rfl) rfl ⟨.inr ?_, HFIN.out.2⟩
        rw [HRS.out]
        exact ⟨rfl, p', c', rfl, HFIN.out.1⟩

end Go.Proofs.Ythjkaabbbhfjhaa
