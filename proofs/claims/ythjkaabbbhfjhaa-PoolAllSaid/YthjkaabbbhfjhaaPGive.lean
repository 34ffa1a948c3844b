/-
  Package pool: Give.
  Conditions: a row has at most 2 to the power 62 numbers.
-/
import Derived.Test.YthjkaabbbhfjhaaPTake
import Derived.Scope
namespace Go.Proofs.Ythjkaabbbhfjhaa
open Go.RowKit Go.Shelf
attribute [local go_sem] Oper.semAt_some

/-- What comes of pages given back: an error, and what is free. -/
def giveR (pg : Int) : List Int → List Int → Int × List Int
  | fs, [] => (0, fs)
  | fs, x :: t => if hasB pg x = false then (2, []) else if x ∈ fs then (5, []) else giveR pg (fs ++ [x]) t
def wG (W : World) (b pg : Int) (v : Value) : World := (W.alloc (.cells #[.int .i64 b, .int .i64 pg, v] 24)).alloc (.cells #[.int .i64 0, .int .i64 0, .slice none 0 0] 24)
theorem wG_facts (W : World) (b pg : Int) (v : Value) : PBox (wG W b pg v) W.heap.size b pg v ∧ PBox (wG W b pg v) (W.heap.size + 1) 0 0 (.slice none 0 0) ∧ Below W.heap.size W (wG W b pg v) ∧ (wG W b pg v).heap.size = W.heap.size + 2 := by
  have e1 := World.alloc_heap_new (W.alloc (.cells #[.int .i64 b, .int .i64 pg, v] 24)) (.cells #[.int .i64 0, .int .i64 0, .slice none 0 0] 24)
  simp only [World.size_alloc] at e1
  exact ⟨(PBox.new W b pg v).below (below1 _ _), e1, below2 _ _ _, by unfold wG; simp⟩
theorem results_ct {fn : Func} {a b : Tmp} {t : TypeId} (h : fn.results = #[.cell a t, .tmp b]) (tmps : Array Value) (P : Program) (w : World) {p : Addr} {x y : Value} (ha : tmps.getD a undef = .pointer (some p)) (hb : tmps.getD b undef = y)
    (hx : (loadVar t p).run P w = .ok x w) : (results fn tmps).run P w = .ok (.tuple #[x, y]) w := by
  unfold results
  rw [h]
  simp only [Array.mapM_eq_foldlM, List.foldlM_toArray, List.foldlM_cons, List.foldlM_nil, ha, hb, asAddr, run_fmap, Sem.run_bind, Sem.run_pure, Result.andThen_ok, hx]
  rfl
theorem PBox.result {fn : Func} {W : World} {z : Nat} {b p : Int} {v y : Value} (h : PBox W z b p v) (hf : fn.results = #[.cell 4 24, .tmp 5]) (tmps : Array Value) (h2 : tmps.getD 4 undef = .pointer (some ⟨z, 0, none⟩)) (h3 : tmps.getD 5 undef = y) :
    (results fn tmps).run Try.prog W = .ok (.tuple #[.agg #[.int .i64 b, .int .i64 p, v], y]) W :=
  results_ct hf tmps _ _ h2 h3 (pool_load h)

set_option maxRecDepth 100000 in
set_option maxHeartbeats 4000000 in
theorem give_no (b pg : Int) (p : Option Addr) (c : Nat) (fs : List Int) (q : Option Addr) (m c2 : Nat) (W : World) (hmax : fs.length ≤ 4611686018427387904) (hl : NumsAt W .i64 (.slice p fs.length c) fs) (hr : rightP b pg fs = false) :
    Calls Try.prog 12 #[.agg #[.int .i64 b, .int .i64 pg, .slice p fs.length c], .slice q m c2] W fun e w' => e = .returned (.tuple #[zeroP, .int .i64 170]) ∧ Below W.heap.size W w' := by
  have HT := Lib.hid (wG_facts W b pg (.slice p fs.length c))
  obtain ⟨w0, hw0⟩ : ∃ X, X = wG W b pg (.slice p fs.length c) := ⟨_, rfl⟩
  rw [← hw0] at HT
  unfold wG at hw0
  obtain ⟨c0, c1, c2⟩ := HT.out.1.cells
  have HC := Lib.hid (begin_no b pg p c fs w0 hmax (nums_below hl HT.out.2.2.1) hr)
  clear hl hr
  go_enter Try.func12, Try.ntmps12
  go_wp2_with fail
  rw [← hw0]
  clear hw0
  refine (wpIn_wide (n := 9)).1 (wpIn_scope ((wpIn_wide (n := 9)).2 ?_))
  go_wp2_with fail
  refine HC.out.mono ?_
  rintro e w1 ⟨rfl, hb1⟩
  have HR2 := Lib.hid (HT.out.2.1.below hb1)
  have HB2 := Lib.hid (below_then HT.out.2.2.1 HT.out.2.2.1.size hb1)
  clear hb1 c0 c1 c2 HC
  obtain ⟨d0, d1, d2⟩ := HR2.out.cells
  have m0 := HR2.out.marks 0
  have m1 := HR2.out.marks 1
  have m2 := HR2.out.marks 2
  have HP := Lib.hid (HR2.out.put 0 0 (.slice none 0 0))
  have HK := Lib.hid (PBox.putK w1 (W.heap.size + 1) 0 0 (.slice none 0 0))
  obtain ⟨w3, hw3⟩ : ∃ X : World, X = (((w1.setCell ⟨W.heap.size + 1, 0, none⟩ (.int .i64 0)).setCell ⟨W.heap.size + 1, 1, none⟩ (.int .i64 0)).setCell ⟨W.heap.size + 1, 2, none⟩ (.slice none 0 0)) := ⟨_, rfl⟩
  rw [← hw3] at HP HK
  have HW3 := Lib.hid hw3
  clear hw3
  go_wp2
  rw [← HW3.out]
  simp only [Exit.noGoto]
  go_wp2
  exact bodyPost_ret (v := .tuple #[zeroP, .int .i64 170]) (HP.out.result rfl _ rfl rfl) rfl ⟨rfl, HB2.out.trans (HK.out.below HB2.out.size (fun k e => by omega))⟩

theorem flg_put {l : List Int} {i : Nat} : (flg l).set i true = flg (l ++ [(i : Int)]) := flg_snoc l i
theorem okP_iff_len {b pg : Int} {gs : List Int} (hf : fitsB b pg = true) (h : okP pg gs) : gs.length ≤ 64 := okP_len h (by have := fits_parts hf; omega)
def GI (W : World) (z zc : Nat) (b pg : Int) (v : Value) (fs ps : List Int) (i : Nat) (p' : Option Addr) (n c' : Nat) (wr : World) : Prop :=
  ∃ gs, n = gs.length ∧ ChBox wr zc b pg (.slice p' n c') (flg gs) ∧ wr.ownsRow (z + 2) 3 1 (.slice p' n c') n (gs.map (Value.int .i64)) ∧ PBox wr z b pg v ∧ PBox wr (z + 1) 0 0 (.slice none 0 0) ∧ Below z W wr ∧ okP pg gs ∧ giveR pg fs ps = giveR pg gs (ps.drop i)

set_option maxRecDepth 100000 in
set_option maxHeartbeats 4000000 in
theorem give_yes (b pg : Int) (p : Option Addr) (c : Nat) (fs ps : List Int) (q : Option Addr) (c2 : Nat) (W : World) (hmax : fs.length ≤ 4611686018427387904) (hpm : ps.length ≤ 4611686018427387904) (hl : NumsAt W .i64 (.slice p fs.length c) fs) (hv : p = none → c = 0) (hr : rightP b pg fs = true) (hps : NumsAt W .i64 (.slice q ps.length c2) ps) :
    Calls Try.prog 12 #[.agg #[.int .i64 b, .int .i64 pg, .slice p fs.length c], .slice q ps.length c2] W fun e w' => (((giveR pg fs ps).1 ≠ 0 ∧ e = .returned (.tuple #[zeroP, .int .i64 (giveR pg fs ps).1])) ∨ ((giveR pg fs ps).1 = 0 ∧ ∃ p' c', e = .returned (.tuple #[.agg #[.int .i64 b, .int .i64 pg, .slice p' (giveR pg fs ps).2.length c'], .int .i64 0]) ∧ w'.ownsRow W.heap.size 3 1 (.slice p' (giveR pg fs ps).2.length c') (giveR pg fs ps).2.length ((giveR pg fs ps).2.map (Value.int .i64)) ∧ okP pg (giveR pg fs ps).2)) ∧ Below W.heap.size W w' := by
  have HT := Lib.hid (wG_facts W b pg (.slice p fs.length c))
  obtain ⟨w0, hw0⟩ : ∃ X, X = wG W b pg (.slice p fs.length c) := ⟨_, rfl⟩
  rw [← hw0] at HT
  unfold wG at hw0
  obtain ⟨c0, c1, c2'⟩ := HT.out.1.cells
  have HC := Lib.hid (begin_yes b pg p c fs w0 hmax (nums_below hl HT.out.2.2.1) hv hr)
  have HFIT := Lib.hid (rightP_iff.1 hr)
  have HPS := Lib.hid hps
  obtain ⟨res, hres⟩ : ∃ r, r = giveR pg fs ps := ⟨_, rfl⟩
  rw [← hres]
  have HRES := Lib.hid hres
  clear hl hr hv hps hres
  go_enter Try.func12, Try.ntmps12
  go_wp2_with fail
  rw [← hw0]
  clear hw0
  refine (wpIn_wide (n := 9)).1 (wpIn_scope ((wpIn_wide (n := 9)).2 ?_))
  go_wp2_with fail
  refine HC.out.mono ?_
  rintro e w1 ⟨⟨zc, p', c', rfl, hzc, hX, hO⟩, hb1⟩
  have HZ := Lib.hid (show W.heap.size + 2 ≤ zc by have := HT.out.2.2.2; omega)
  have HGI := Lib.hid (show GI W W.heap.size zc b pg (.slice p fs.length c) fs ps 0 p' fs.length c' w1 from ⟨fs, rfl, hX, hO.mono (Nat.le_of_eq HT.out.2.2.2.symm), HT.out.1.below hb1, HT.out.2.1.below hb1, below_then HT.out.2.2.1 HT.out.2.2.1.size hb1, HFIT.out.2, rfl⟩)
  clear hX hO hb1 c0 c1 c2' HC hzc
  go_wp2
  refine wp_label ?_
  go_wp2
  go_loopw [7, 24] (fun ev iv wr => ∃ (i : Nat) (p' : Option Addr) (n c' : Nat), i ≤ ps.length ∧ ev = .int .i64 0 ∧ iv = .int .i64 (i : Int) ∧ Hid (GI W W.heap.size zc b pg (.slice p fs.length c) fs ps i p' n c' wr)) (fun _ iv _ => ps.length - (pIntOf iv).toNat)
  case atStart => exact ⟨0, p', fs.length, c', Nat.zero_le _, rfl, rfl, HGI⟩
  case round =>
    clear HGI
    obtain ⟨i, p', n, c', hi, rfl, rfl, HG⟩ := hrel
    by_cases hlt : i < ps.length
    · obtain ⟨gs, rfl, hX, hO, hP, hR, hB, hok, hg⟩ := HG.out
      obtain ⟨qq, cc, e, hcs⟩ := HPS.out
      injection e with e1 _ e3
      subst e1
      obtain ⟨bb, off, rfl, hc3⟩ := hcs (by intro e; rw [e] at hlt; exact absurd hlt (Nat.not_lt_zero _))
      have hx := (hB.cell (World.block_lt_of_cell? W _ (hc3 i hlt))).trans (hc3 i hlt)
      rw [List.drop_eq_getElem_cons hlt] at hg
      obtain ⟨x, hxe⟩ : ∃ x, x = ps[i] := ⟨_, rfl⟩
      rw [← hxe] at hx hg
      obtain ⟨d0, d1, d2⟩ := hP.cells
      have HH := Lib.hid (fun Z : World => has_c b pg x (.slice p fs.length c) Z)
      have HALL := Lib.hid (And.intro hX (And.intro hO (And.intro hP (And.intro hR (And.intro hB (And.intro hok hg))))))
      have HLG := Lib.hid (okP_iff_len HFIT.out.1 hok)
      clear hcs hc3 hxe e3 hX hO hP hR hB hok hg HG
      cases hh : hasB pg x with
      | false =>
        rw [hh] at HH
        have HRS := Lib.hid (show res = (2, []) by rw [HRES.out, HALL.out.2.2.2.2.2.2]; unfold giveR; rw [if_pos hh])
        clear hh
        go_wp2_with fail
        refine (HH.out wr).mono ?_
        rintro e w5 ⟨rfl, hb5⟩
        have HR5 := Lib.hid (HALL.out.2.2.2.1.below hb5)
        have HB5 := Lib.hid (below_then HALL.out.2.2.2.2.1 HALL.out.2.2.2.2.1.size hb5)
        clear hb5 d0 d1 d2 hx
        obtain ⟨d0, d1, d2⟩ := HR5.out.cells
        have m0 := HR5.out.marks 0
        have m1 := HR5.out.marks 1
        have m2 := HR5.out.marks 2
        have HP := Lib.hid (HR5.out.put 0 0 (.slice none 0 0))
        have HK := Lib.hid (PBox.putK w5 (W.heap.size + 1) 0 0 (.slice none 0 0))
        obtain ⟨w3, hw3⟩ : ∃ X : World, X = (((w5.setCell ⟨W.heap.size + 1, 0, none⟩ (.int .i64 0)).setCell ⟨W.heap.size + 1, 1, none⟩ (.int .i64 0)).setCell ⟨W.heap.size + 1, 2, none⟩ (.slice none 0 0)) := ⟨_, rfl⟩
        rw [← hw3] at HP HK
        have HW3 := Lib.hid hw3
        clear hw3
        go_wp2
        rw [← HW3.out]
        simp only [Exit.noGoto]
        go_wp2
        exact bodyPost_ret (v := .tuple #[zeroP, .int .i64 2]) (HP.out.result rfl _ rfl rfl) rfl ⟨.inl (by rw [HRS.out]; exact ⟨by decide, rfl⟩), HB5.out.trans (HK.out.below HB5.out.size (fun k e => by omega))⟩
      | true =>
        obtain ⟨k, rfl⟩ : ∃ k : Nat, x = (k : Int) := Int.eq_ofNat_of_zero_le (has_parts hh).1
        have hk64 : k < 64 := by have h1 := (has_parts hh).2; have h2 := fits_parts HFIT.out.1; omega
        rw [hh] at HH
        have HHH := Lib.hid hh
        clear hh
        go_wp2_with fail
        refine (HH.out wr).mono ?_
        rintro e w5 ⟨rfl, hb5⟩
        obtain ⟨hX, hO, hP, hR, hB, hok, hg⟩ := HALL.out
        have hf := (hX.below hb5).flag k (by rw [flg_len]; exact hk64)
        rw [flg_get _ _ hk64] at hf
        have HX5 := Lib.hid (hX.below hb5)
        have HO5 := Lib.hid (owns_below hO hb5)
        have HP5 := Lib.hid (hP.below hb5)
        have HR5 := Lib.hid (hR.below hb5)
        have HB5 := Lib.hid (below_then hB hB.size hb5)
        clear hb5 d0 d1 d2 hX hO hP hR hB hok hg hx
        by_cases hm : (k : Int) ∈ gs
        · rw [decide_eq_true hm] at hf
          have HRS := Lib.hid (show res = (5, []) by rw [HRES.out, HALL.out.2.2.2.2.2.2]; unfold giveR; rw [if_neg (by rw [HHH.out]; simp), if_pos hm])
          clear hm
          obtain ⟨d0, d1, d2⟩ := HR5.out.cells
          have m0 := HR5.out.marks 0
          have m1 := HR5.out.marks 1
          have m2 := HR5.out.marks 2
          have HP := Lib.hid (HR5.out.put 0 0 (.slice none 0 0))
          have HK := Lib.hid (PBox.putK w5 (W.heap.size + 1) 0 0 (.slice none 0 0))
          obtain ⟨w3, hw3⟩ : ∃ X : World, X = (((w5.setCell ⟨W.heap.size + 1, 0, none⟩ (.int .i64 0)).setCell ⟨W.heap.size + 1, 1, none⟩ (.int .i64 0)).setCell ⟨W.heap.size + 1, 2, none⟩ (.slice none 0 0)) := ⟨_, rfl⟩
          rw [← hw3] at HP HK
          have HW3 := Lib.hid hw3
          clear hw3
          go_wp2
          rw [← HW3.out]
          simp only [Exit.noGoto]
          go_wp2
          exact bodyPost_ret (v := .tuple #[zeroP, .int .i64 5]) (HP.out.result rfl _ rfl rfl) rfl ⟨.inl (by rw [HRS.out]; exact ⟨by decide, rfl⟩), HB5.out.trans (HK.out.below HB5.out.size (fun k e => by omega))⟩
        · rw [decide_eq_false hm] at hf
          have HM := Lib.hid hm
          have HCG := Lib.hid (cgive_c (W.heap.size + 2) zc k gs.length c' b pg p' (flg gs) gs w5 hk64 HLG.out (by have := HP5.out.lt; have := HX5.out.lt; have := HZ.out; omega) HX5.out HO5.out)
          clear hm
          go_wp2_with fail
          refine HCG.out.mono ?_
          rintro e w6 ⟨rfl, p6, c6, hX6, hO6, hk6⟩
          have hne1 : ∀ k', k' < W.heap.size + 2 → ¬ (k' = zc ∨ some k' = (Value.slice p' gs.length c').ownBlock) := fun k' hk' e => by
            rcases e with e | e
            · have := HZ.out; omega
            · have := (HO5.out.lt k' e.symm).1; omega
          have HG6 := Lib.hid (show GI W W.heap.size zc b pg (.slice p fs.length c) fs ps (i + 1) p6 (gs.length + 1) c6 w6 from ⟨gs ++ [(k : Int)], by simp, by rw [← flg_put]; exact hX6, hO6, HP5.out.keeps hk6 (hne1 _ (by omega)), HR5.out.keeps hk6 (hne1 _ (by omega)), HB5.out.trans (hk6.below HB5.out.size (fun k' e => by
              rcases e with e | e
              · have := HZ.out; omega
              · have := (HO5.out.lt k' e.symm).1; omega)), okP_snoc HALL.out.2.2.2.2.2.1 HHH.out HM.out, by rw [HALL.out.2.2.2.2.2.2]; show (if hasB pg (k : Int) = false then _ else _) = _; rw [if_neg (by rw [HHH.out]; simp), if_neg HM.out]⟩)
          clear hX6 hO6 hk6 hne1 hf HCG
          go_wp2
          go_roundw
          case rel => exact ⟨i + 1, p6, gs.length + 1, c6, by omega, rfl, by go_num, HG6⟩
          case measure => simp [pIntOf]; omega
    · obtain ⟨gs, rfl, hX, hO, hP, hR, hB, hok, hg⟩ := HG.out
      rw [List.drop_eq_nil_of_le (by omega)] at hg
      obtain ⟨d0, d1, d2⟩ := hX.cells
      obtain ⟨f0, f1, f2⟩ := hR.cells
      have m0 := hR.marks 0
      have m1 := hR.marks 1
      have m2 := hR.marks 2
      have HP := Lib.hid (hR.put b pg (.slice p' gs.length c'))
      have hK := PBox.putK wr (W.heap.size + 1) b pg (.slice p' gs.length c')
      obtain ⟨w3, hw3⟩ : ∃ X : World, X = (((wr.setCell ⟨W.heap.size + 1, 0, none⟩ (.int .i64 b)).setCell ⟨W.heap.size + 1, 1, none⟩ (.int .i64 pg)).setCell ⟨W.heap.size + 1, 2, none⟩ (.slice p' gs.length c')) := ⟨_, rfl⟩
      rw [← hw3] at HP hK
      have HRS := Lib.hid (show res = (0, gs) by rw [HRES.out, hg]; rfl)
      have HFIN := Lib.hid (show w3.ownsRow W.heap.size 3 1 (.slice p' gs.length c') gs.length (gs.map (Value.int .i64)) ∧ okP pg gs ∧ Below W.heap.size W w3 from ⟨(hK.row hO (fun g hg e => by have := (hO.lt g hg).1; omega)).mono (by omega), hok, hB.trans (hK.below hB.size (fun k e => by omega))⟩)
      have HW3 := Lib.hid hw3
      clear hw3 hX hO hP hR hB hok hg hK HG
      go_wp2
      rw [← HW3.out]
      simp only [Exit.noGoto]
      go_wp2
      refine bodyPost_ret (v := .tuple #[.agg #[.int .i64 b, .int .i64 pg, .slice p' gs.length c'], .int .i64 0]) (HP.out.result rfl _ rfl rfl) rfl ⟨.inr ?_, HFIN.out.2.2⟩
      rw [HRS.out]
      exact ⟨rfl, p', c', rfl, HFIN.out.1, HFIN.out.2.1⟩
end Go.Proofs.Ythjkaabbbhfjhaa
