/-
  SpinAlone returns true for every number, and row of picks, and its arguments read behind the call as they read before.
  Conditions: none.
-/
import Derived.Test.YtcnpmkigiklnnaaKA1
import Derived.Test.YtcnpmkigiklnnaaKS1
/-
  Whoever steps when: at most one has the lock, in the order of tickets: the statement's body.
  Conditions: the row of picks is one that came in.
-/
namespace Go.Proofs.Ytcnpmkigiklnnaa
open Go.RowKit Go.Shelf
attribute [local go_sem] Oper.semAt_some

theorem u64_rng (x : Int) : 0 ≤ IntKind.u64.wrap x ∧ IntKind.u64.wrap x ≤ 18446744073709551615 := by
  simp only [IntKind.wrap, IntKind.signed, IntKind.bits]
  simp
  omega
theorem many_rng (mn : Int) : ∃ k : Nat, 1 ≤ k ∧ k ≤ 5 ∧ wrap64 (1 + wrap64 ((IntKind.u64.wrap mn).tmod 5)) = (k : Int) := by
  obtain ⟨h0, _⟩ := u64_rng mn
  rw [Int.tmod_eq_emod_of_nonneg h0]
  generalize IntKind.u64.wrap mn = u at h0
  refine ⟨(1 + u % 5).toNat, by omega, by omega, ?_⟩
  unfold wrap64
  omega
theorem pick_rng (p : Int) {n : Nat} (hn : 1 ≤ n) (hn5 : n ≤ 5) : ∃ r : Nat, r < n ∧ wrap64 ((IntKind.u64.wrap p).tmod (n : Int)) = (r : Int) := by
  obtain ⟨h0, _⟩ := u64_rng p
  rw [Int.tmod_eq_emod_of_nonneg h0]
  generalize IntKind.u64.wrap p = u at h0
  have h1 := Int.emod_nonneg u (show (n : Int) ≠ 0 by omega)
  have h2 := Int.emod_lt_of_pos u (show (0 : Int) < n by omega)
  refine ⟨(u % n).toNat, by omega, ?_⟩
  unfold wrap64
  omega
theorem PVar.other {w w' : World} {lo hi z : Nat} {x y : Value} {us : List Int} {ms : List Bool} {f : Bool} (h : PVar w lo hi z x y us ms f) {B n : Nat} {v : Value} {xs : List Value} (ho : w.ownsRow B 3 1 v n xs) (hk : Keeps (fun q => some q = v.ownBlock) w w') : PVar w' lo w'.heap.size z x y us ms f := by
  have hw := hk.row h.words fun q hq e => owns_ne h.words ho (by decide) hq e.symm rfl
  have hl := hk.row h.lives fun q hq e => owns_ne h.lives ho (by decide) hq e.symm rfl
  exact ⟨h.box.keeps hk fun e => h.box.row ho (by decide) e.symm rfl, hw, hl, h.from', Nat.lt_of_lt_of_le h.box.lt hk.size, owns_lt hw, owns_lt hl⟩
theorem ins_snoc (l : List SpM) (s : SpM) : ((l ++ [s]).filter insB).length = (l.filter insB).length + (if insB s = true then 1 else 0) := by
  rw [List.filter_append, List.length_append]
  cases h : insB s <;> simp [h]
set_option maxRecDepth 100000 in
theorem run_cutI (p : Option Addr) (n c k : Nat) (h : k ≤ c) (wx : World) : (Instr.slice 58 (.slice p n c) none (some (.int .i64 (k : Int))) none).run Try.prog wx = .ok (.slice p k c) wx :=
  run_cut16 Try.underlying58 (fun wx => by go_simp) p n c k h wx

set_option maxRecDepth 100000 in
set_option maxHeartbeats 16000000 in
theorem alone_c (mn : Int) (vp : Value) (ps : List Int) (W : World) (hp : NumsAt W .i64 vp ps) (hpl0 : ps.length ≤ 9223372036854775807) :
    Calls Try.prog 6 #[.int .i64 mn, vp] W fun e w' => e = .returned (.bool true) ∧ Below W.heap.size W w' := by
  have hpl := hpl0
  obtain ⟨pp, cp, rfl, hcp⟩ := hp
  obtain ⟨np, hnp⟩ : ∃ np, np = ps.length := ⟨_, rfl⟩
  rw [← hnp] at hpl ⊢
  have HNP := Lib.hid hnp
  have HCP := Lib.hid hcp
  clear hnp hcp
  go_enter Try.func6, Try.ntmps6
  go_wp2_with fail
  refine (qwakes _).mono ?_
  rintro e w1 ⟨rfl, hb1⟩
  have hB := hb1
  clear hb1
  go_wp2_with fail
  refine (qlaid _).mono ?_
  rintro e w2 ⟨⟨gw, cw, gl, cl, rfl, h0, h1⟩, hb⟩
  obtain ⟨w2p, hw2p⟩ : ∃ x, x = putM w2 (.slice (some ⟨gw, 0, none⟩) 2 cw) (.slice (some ⟨gl, 0, none⟩) 2 cl) false := ⟨_, rfl⟩
  have hbp : Below w2.heap.size w2 w2p := by rw [hw2p]; exact putM_below _ _ _ _
  have hM := putM_pvar (us := [(0 : Int), 0]) (ms := lk) (B := w1.heap.size) false h0 h1 hb.size
  rw [← hw2p] at hM
  have HM0 := Lib.hid (hM.wide hB.size (Nat.le_refl _))
  have hB := below_then (below_then hB hB.size hb) (Nat.le_trans hB.size hb.size) hbp
  clear h0 h1 hb hbp hM
  obtain ⟨z5, hz5⟩ : ∃ z, z = w2.heap.size := ⟨_, rfl⟩
  rw [← hz5] at HM0
  unfold putM at hw2p
  go_wp2_with fail
  rw [← hw2p, ← hz5]
  clear hw2p hz5
  obtain ⟨n, hn1, hn5, hke⟩ := many_rng mn
  rw [hke]
  clear hke
  refine (asking_c n ⟨hn1, hn5⟩ _).mono ?_
  rintro e w3 ⟨⟨ql, dl, rfl, hl⟩, hb⟩
  have HL0 := Lib.hid (hl.mono hB.size)
  have HM := Lib.hid ((HM0.out.below hb).wide (Nat.le_refl _) hb.size)
  have hB := below_then hB hB.size hb
  have HB0 := Lib.hid hB
  clear hl hb hB HM0
  go_wp2
  go_loopw [7, 8, 34] (fun lv ov iv wr => ∃ (i : Nat) (q : Option Addr) (d : Nat) (po : Option Addr) (no co : Nat) (px : Option Addr) (cx : Nat) (py : Option Addr) (cy : Nat) (nx ow : Nat) (ss : List SpM) (ord : List Nat), i ≤ np ∧ i ≤ 120 ∧ iv = .int .i64 i ∧ lv = .slice q n d ∧ ov = .slice po no co ∧ no = ord.length ∧ nx ≤ i ∧ ow ≤ i ∧ no ≤ i ∧ TickI n nx ow ss ord ∧ Hid (PVar wr W.heap.size wr.heap.size z5 (.slice px 2 cx) (.slice py 2 cy) [(nx : Int), (ow : Int)] lk false ∧ wr.ownsRow W.heap.size 24 3 (.slice q n d) n (flatS ss) ∧ wr.ownsRow W.heap.size 3 1 (.slice po no co) no (ord.map fun k : Nat => Value.int .i64 (k : Int)) ∧ Below W.heap.size W wr)) (fun _ _ iv _ => np - (intOf iv).toNat)
  case atStart => exact ⟨0, _, _, _, _, _, _, _, _, _, 0, 0, zS n, [], Nat.zero_le _, by omega, rfl, rfl, rfl, rfl, Nat.le_refl _, Nat.le_refl _, Nat.le_refl _, TickI.start n, Lib.hid ⟨HM.out, HL0.out, World.ownsRow_nil _ _ _ _, HB0.out⟩⟩
  case round =>
    obtain ⟨i, q, d, po, no, co, px, cx, py, cy, nx, ow, ss, ord, hi, hi120, rfl, rfl, rfl, hno, hnx, how, hnoi, hT, HF⟩ := hrel
    clear HM HL0 HB0
    have HT := Lib.hid hT
    have HNO := Lib.hid hno
    clear hT hno
    by_cases hlt : i < np
    · have hlt' : i < ps.length := by have := HNP.out; omega
      obtain ⟨bp, op, rfl, hcs⟩ := HCP.out (by intro e; rw [e] at hlt'; cases hlt')
      have hx := below_cell HF.out.2.2.2 (hcs i hlt')
      obtain ⟨pk, hpk⟩ : ∃ pk, pk = ps[i] := ⟨_, rfl⟩
      rw [← hpk] at hx
      clear hcs hpk
      by_cases h120 : i = 120
      · have hd : ((i : Int) == 120) = true := by simp [h120]
        obtain ⟨hM, hl, ho, hB⟩ := HF.out
        obtain ⟨wO, hwO⟩ : ∃ w : World, w = wr := ⟨_, rfl⟩
        rw [← hwO] at hl ho hB
        have HWO := Lib.hid hwO
        have HLr := Lib.hid hl
        have HOr := Lib.hid ho
        have HBr := Lib.hid hB
        clear hM hl ho hB HF hwO
        clear h120
        go_wp2
        go_loopw [103] (fun kv wx => ∃ k : Nat, k ≤ no ∧ kv = .int .i64 k ∧ Below wO.heap.size wO wx) (fun kv _ => no - (intOf kv).toNat)
        case atStart => exact ⟨0, Nat.zero_le _, rfl, by rw [HWO.out]; exact Below.refl _ _⟩
        case round =>
          obtain ⟨k, hk, rfl, hbx⟩ := hrel
          have HBX := Lib.hid hbx
          clear hbx
          by_cases hkl : k < no
          · have hko : k < ord.length := by have := HNO.out; omega
            obtain ⟨hj, hp3, htk⟩ := HT.out.held k hko
            obtain ⟨j, hje⟩ : ∃ j, j = ord[k] := ⟨_, rfl⟩
            rw [← hje] at hj hp3 htk
            obtain ⟨g1, c1, hf, _, _⟩ := own_form HOr.out (by omega)
            injection hf with hf hf2 hf3
            subst hf hf3
            obtain ⟨g2, c2, hf, _, _⟩ := own_form HLr.out (by omega)
            injection hf with hf hf4 hf3
            subst hf hf3
            clear hf2 hf4
            have hcell : wO.cell? ⟨g1, k, none⟩ = some (.int .i64 (j : Int)) := by
              rw [HOr.out.cellAt k (by omega), List.getElem?_map, List.getElem?_eq_getElem hko, ← hje]; rfl
            obtain ⟨⟨_, _, y2⟩, -, -⟩ := all_cells HLr.out HT.out.len hj
            rw [htk] at y2
            have x0 := below_cell HBX.out hcell
            have x2 := below_cell HBX.out y2
            have hcap : no ≤ co := (own_cap HOr.out).1
            have hs0 := run_cutI (some ⟨g1, 0, none⟩) no co k (by omega)
            have hwk : IntKind.u64.wrap (k : Int) = (k : Int) := by simp [IntKind.wrap, IntKind.signed, IntKind.bits]; omega
            have hne : ((k : Int) != (k : Int)) = false := by rw [bne_eq_false_iff_eq]
            have HCN := Lib.hid (contains_no (.slice (some ⟨g1, 0, none⟩) k co) ((ord.take k).map fun m : Nat => (m : Int)) (j : Int) wr
              ⟨_, _, by rw [List.length_map, List.length_take, Nat.min_eq_left (by omega)], fun _ => ⟨g1, 0, rfl, fun m hm => by
                have hmk : m < k := by rw [List.length_map, List.length_take] at hm; omega
                rw [Nat.zero_add]
                have hc2 : wO.cell? ⟨g1, m, none⟩ = some (.int .i64 ((ord.take k).map fun m : Nat => (m : Int))[m]) := by
                  rw [HOr.out.cellAt m (by omega), List.getElem?_map, List.getElem?_eq_getElem (by omega), List.getElem_map, List.getElem_take]; rfl
                exact below_cell HBX.out hc2⟩⟩ (by rw [List.length_map, List.length_take]; omega) (fun hmem => by
                obtain ⟨m, hm, hme⟩ := List.mem_map.1 hmem
                obtain ⟨m2, hm2, hm3⟩ := List.mem_iff_getElem.1 hm
                rw [List.length_take] at hm2
                rw [List.getElem_take] at hm3
                refine HT.out.once (j := m2) (k := k) (by omega) hko (by omega) ?_
                rw [hm3, ← hje]
                omega))
            clear hcell y2 hcap hp3 htk hje
            go_wp2_with fail
            refine HCN.out.mono ?_
            rintro e w9 ⟨rfl, rfl⟩
            clear HCN hs0 x0 x2
            go_wp2
            go_roundw
            case rel => exact ⟨k + 1, by omega, by go_num, HBX.out⟩
            case measure => simp [intOf]; omega
          · have HBE := Lib.hid (below_then HBr.out HBr.out.size HBX.out)
            go_wp2
            go_ret
            exact ⟨rfl, HBE.out⟩
      · have hd : ((i : Int) == 120) = false := by simp; omega
        have hi2 : i < 120 := by omega
        clear h120
        go_upto_region 11 with fail
        obtain ⟨r, hr, hre⟩ := pick_rng pk hn1 hn5
        rw [hre]
        clear hre hx
        obtain ⟨nx', ow', ss', hnx', how', hT', hPL⟩ := play_one HT.out hr (by omega) (by omega) hn5 (.agg #[.slice px 2 cx, .slice py 2 cy, .bool false]) (.slice q n d) (.slice (some ⟨wr.heap.size, 0, none⟩) 1 1)
        have HPL := Lib.hid hPL
        have HT2 := Lib.hid hT'
        clear hPL hT'
        obtain ⟨hM, hl, ho, hB⟩ := HF.out
        obtain ⟨w4, hw4⟩ : ∃ w : World, w = wr.alloc (.cells #[.int .i64 (r : Int)] 3) := ⟨_, rfl⟩
        have hb4 : Below wr.heap.size wr w4 := by rw [hw4]; exact below1 wr _
        have HM4 := Lib.hid (hM.below hb4)
        have HL4 := Lib.hid (owns_below hl hb4)
        have HO4 := Lib.hid (owns_below ho hb4)
        have HN4 := Lib.hid (show NumsAt w4 .i64 (.slice (some ⟨wr.heap.size, 0, none⟩) 1 1) [(r : Int)] from ⟨_, _, rfl, fun _ => ⟨wr.heap.size, 0, rfl, fun m hm => by
          obtain rfl : m = 0 := by simp at hm; omega
          rw [hw4]
          simp⟩⟩)
        have hB4 := below_then hB hB.size hb4
        obtain ⟨hm0, hm1, hm2⟩ := hM.cells
        clear hb4 hM hl ho hB HF
        go_wp2_with fail
        rw [← hw4]
        clear hw4 hm0 hm1 hm2
        refine (HPL.out w4 HM4.out.mem (spins_of_owns HT.out.len HL4.out) HN4.out).mono ?_
        rintro e w5 ⟨⟨x, y, g, vh, rfl, hx5, hy5, hs5, hh5⟩, hb5⟩
        obtain ⟨px5, cx5, rfl⟩ := owns_slice hx5
        obtain ⟨py5, cy5, rfl⟩ := owns_slice hy5
        obtain ⟨hs, hhs⟩ : ∃ hs, hs = (if (ss'.getD r dS).p = 3 then [(r : Int)] else []) := ⟨_, rfl⟩
        rw [← hhs] at hh5
        obtain ⟨nh, hnh⟩ : ∃ nh, nh = hs.length := ⟨_, rfl⟩
        have hnh1 : nh ≤ 1 := by rw [hnh, hhs]; split <;> simp
        rw [← hnh] at hh5
        obtain ⟨ph, ch, rfl⟩ := owns_slice hh5
        have HHS := Lib.hid (And.intro hhs hnh)
        obtain ⟨w5p, hw5p⟩ : ∃ x, x = putM w5 (.slice px5 2 cx5) (.slice py5 2 cy5) false := ⟨_, rfl⟩
        have hbp : Below w5.heap.size w5 w5p := by rw [hw5p]; exact putM_below _ _ _ _
        have hbox := putM_box w5 (.slice px5 2 cx5) (.slice py5 2 cy5) false
        rw [← hw5p] at hbox
        have HM5 := Lib.hid ((HM4.out.below hb5).below hbp)
        have HO5 := Lib.hid (owns_below (owns_below HO4.out hb5) hbp)
        have HR5 := Lib.hid (And.intro (owns_below hx5 hbp) (And.intro (owns_below hy5 hbp) (And.intro (owns_below hs5 hbp) (owns_below hh5 hbp))))
        have HB5 := Lib.hid (below_then (below_then hB4 hB4.size hb5) (Nat.le_trans hB4.size hb5.size) hbp)
        have HLO := Lib.hid hB4.size
        obtain ⟨zN, hzN⟩ : ∃ z, z = w5.heap.size := ⟨_, rfl⟩
        rw [← hzN] at hbox
        obtain ⟨⟨hn0, hn1', hn2⟩, _⟩ := mbox_cells hbox
        obtain ⟨⟨hm0, hm1, hm2⟩, hf0, hf1, hf2⟩ := mbox_cells HM5.out.box
        have hne : ((n : Int) != (n : Int)) = false := by rw [bne_eq_false_iff_eq]
        unfold putM at hw5p
        rw [hw5p] at hn0 hn1' hn2 hm0 hm1 hm2 hf0 hf1 hf2
        obtain ⟨w6, hw6⟩ : ∃ x : World, x = ((w5p.setCell ⟨z5, 0, none⟩ (.slice px5 2 cx5)).setCell ⟨z5, 1, none⟩ (.slice py5 2 cy5)).setCell ⟨z5, 2, none⟩ (.bool false) := ⟨_, rfl⟩
        have hk6 : Keeps (fun q => q = z5) w5p w6 := by rw [hw6]; exact ((Keeps.setCell w5p (S := fun q => q = z5) (p := ⟨z5, 0, none⟩) rfl _).trans (Keeps.setCell _ (S := fun q => q = z5) (p := ⟨z5, 1, none⟩) rfl _)).trans (Keeps.setCell _ (S := fun q => q = z5) (p := ⟨z5, 2, none⟩) rfl _)
        have hrow : ∀ {E : TypeId} {s m B' : Nat} {v : Value} {xs : List Value}, w5p.ownsRow B' E s v m xs → E ≠ 46 → w6.ownsRow B' E s v m xs := fun hr hE => hk6.row hr fun q hq e => HM5.out.box.row hr hE hq (by have e : q = z5 := e; exact e.symm)
        have HM6 := Lib.hid (show PVar w6 W.heap.size w6.heap.size z5 (.slice px5 2 cx5) (.slice py5 2 cy5) [(nx' : Int), (ow' : Int)] lk false by rw [hw6]; exact put_back (us := [(nx' : Int), (ow' : Int)]) (ms := lk) HM5.out.box HR5.out.1 HR5.out.2.1 HLO.out HM5.out.from')
        have HL6 := Lib.hid ((hrow HR5.out.2.2.1 (by decide)).mono HLO.out)
        have HH6 := Lib.hid (hrow HR5.out.2.2.2 (by decide))
        have HO6 := Lib.hid (hrow HO5.out (by decide))
        have HB6 := Lib.hid (HB5.out.trans (hk6.below HB5.out.size (fun q hq => by have e : q = z5 := hq; rw [e]; exact HM5.out.from')))
        clear hx5 hy5 hs5 hh5 hb5 hbp hbox hhs hnh hk6 hrow HM4 HL4 HO4 HN4 hB4 HPL HM5 HO5 HR5 HB5
        go_upto_region 15 with fail
        rw [← hw5p, ← hzN, ← hw6]
        clear hw5p hzN hw6 hn0 hn1' hn2 hm0 hm1 hm2 hf0 hf1 hf2 hne
        obtain ⟨i1, hi1, hy0, hy1, hy2⟩ := info_parts num_info'
        have HI1 := Lib.hid (And.intro hi1 (And.intro hy0 (And.intro hy1 hy2)))
        clear hi1 hy0 hy1 hy2
        have hno120 : no ≤ 120 := by omega
        go_wp2_with (at_builtin; refine wpList_append_any rfl _ _ 58 rfl W.heap.size 3 i1 (.int .i64 0) 8 Try.underlying58 HI1.out.1 HI1.out.2.1 HI1.out.2.2.1 HI1.out.2.2.2 rfl (.slice po no co) no _ rfl HO6.out (.slice ph nh ch) w4.heap.size nh _ rfl HH6.out (fun u hu => by obtain ⟨x, _, rfl⟩ := List.mem_map.1 hu; rfl) (by unfold maxLen; omega) (by omega) HB6.out.size ?_; intro v' w7 hown' hk7; obtain ⟨q7, d7, rfl⟩ := owns_slice hown')
        have HM7 := Lib.hid (HM6.out.other HO6.out hk7)
        have HL7 := Lib.hid (hk7.row HL6.out fun q hq e => owns_ne HL6.out HO6.out (by decide) hq e.symm rfl)
        have HO7 := Lib.hid hown'
        have HB7 := Lib.hid (HB6.out.trans (hk7.below HB6.out.size (fun q hq => by
          have hq : some q = (Value.slice po no co).ownBlock := hq
          exact (HO6.out.lt q hq.symm).1)))
        clear hown' hk7 HM6 HL6 HH6 HO6 HB6
        go_loopw [15, 83] (fun cv jv wx => ∃ j : Nat, j ≤ n ∧ jv = .int .i64 j ∧ cv = .int .i64 (((ss'.take j).filter insB).length : Int) ∧ Below w7.heap.size w7 wx) (fun _ jv _ => n - (intOf jv).toNat)
        case atStart => exact ⟨0, Nat.zero_le _, rfl, rfl, Below.refl _ _⟩
        case round =>
          obtain ⟨j, hj, rfl, rfl, hbx⟩ := hrel
          have hcle := HT2.out.one j
          by_cases hjn : j < n
          · obtain ⟨⟨y0, y1, y2⟩, -, -⟩ := all_cells HL7.out HT2.out.len hjn
            obtain ⟨⟨a, p, t⟩, hs⟩ : ∃ s, s = ss'.getD j dS := ⟨_, rfl⟩
            rw [← hs] at y0 y1 y2
            have x0 := below_cell hbx y0
            have x1 := below_cell hbx y1
            have x2 := below_cell hbx y2
            simp only at x0 x1 x2
            have HCT := Lib.hid (show ((ss'.take (j + 1)).filter insB).length = ((ss'.take j).filter insB).length + (if insB ⟨a, p, t⟩ = true then 1 else 0) by
              have hjl : j < ss'.length := by rw [HT2.out.len]; exact hjn
              have he : ss'[j] = ⟨a, p, t⟩ := by rw [hs, List.getD_eq_getElem?_getD, List.getElem?_eq_getElem hjl]; rfl
              rw [List.take_succ_eq_append_getElem hjl, ins_snoc, he])
            clear y0 y1 y2 hs
            obtain ⟨wy, hwy⟩ : ∃ w : World, w = wr.alloc (.cells #[.int .i64 a, .int .i64 p, .int .u64 t] 24) := ⟨_, rfl⟩
            have hby : Below wr.heap.size wr wy := by rw [hwy]; exact below1 wr _
            have hsy : SpBox wy wr.heap.size a p t := by rw [hwy]; exact World.alloc_heap_new _ _
            obtain ⟨s0, s1, s2⟩ := hsy.cells
            rw [hwy] at s0 s1 s2
            have HBX := Lib.hid (below_then hbx hbx.size hby)
            obtain ⟨c, hc⟩ : ∃ c, c = ((ss'.take j).filter insB).length := ⟨_, rfl⟩
            rw [← hc] at HCT hcle ⊢
            clear hby hsy hbx hc
            by_cases hp3 : p = 3
            · subst hp3
              have HC2 := Lib.hid (show ((ss'.take (j + 1)).filter insB).length = c + 1 by rw [HCT.out, if_pos (by rfl)])
              go_wp2
              rw [← hwy]
              go_roundw
              case rel => exact ⟨j + 1, by omega, by go_num, by rw [HC2.out]; go_num, HBX.out⟩
              case measure => simp [intOf]; omega
            · by_cases hp4 : p = 4
              · subst hp4
                have HC2 := Lib.hid (show ((ss'.take (j + 1)).filter insB).length = c + 1 by rw [HCT.out, if_pos (by rfl)])
                go_wp2
                rw [← hwy]
                go_roundw
                case rel => exact ⟨j + 1, by omega, by go_num, by rw [HC2.out]; go_num, HBX.out⟩
                case measure => simp [intOf]; omega
              · have he3 : (p == 3) = false := by rw [beq_eq_false_iff_ne]; exact hp3
                have he4 : (p == 4) = false := by rw [beq_eq_false_iff_ne]; exact hp4
                have HC2 := Lib.hid (show ((ss'.take (j + 1)).filter insB).length = c by rw [HCT.out, if_neg (by simp [insB, hp3, hp4])]; rfl)
                clear hp3 hp4
                go_wp2
                rw [← hwy]
                go_roundw
                case rel => exact ⟨j + 1, by omega, by go_num, by rw [HC2.out], HBX.out⟩
                case measure => simp [intOf]; omega
          · have HBX := Lib.hid hbx
            obtain ⟨c, hc⟩ : ∃ c, c = ((ss'.take j).filter insB).length := ⟨_, rfl⟩
            rw [← hc] at hcle ⊢
            clear hbx hc
            have HRES := Lib.hid (show ∃ ord', TickI n nx' ow' ss' ord' ∧ no + nh = ord'.length ∧ w7.ownsRow W.heap.size 3 1 (.slice q7 (no + nh) d7) (no + nh) (ord'.map fun k : Nat => Value.int .i64 (k : Int)) from by
              refine ⟨_, HT2.out, ?_, ?_⟩
              · rw [HHS.out.2, HHS.out.1, HNO.out]; split <;> simp
              · have h9 := HO7.out
                rw [HHS.out.1] at h9
                split <;> rename_i hq <;> simp only [hq, if_true, if_false] at h9 ⊢
                · rw [List.map_append]; exact h9
                · simpa using h9)
            obtain ⟨ord', hT3, hno3, ho3⟩ := HRES.out
            have HT3 := Lib.hid hT3
            have HNO3 := Lib.hid hno3
            have HFE := Lib.hid (show PVar wr W.heap.size wr.heap.size z5 (.slice px5 2 cx5) (.slice py5 2 cy5) [(nx' : Int), (ow' : Int)] lk false ∧ wr.ownsRow W.heap.size 24 3 (.slice (some ⟨g, 0, none⟩) n n) n (flatS ss') ∧ wr.ownsRow W.heap.size 3 1 (.slice q7 (no + nh) d7) (no + nh) (ord'.map fun k : Nat => Value.int .i64 (k : Int)) ∧ Below W.heap.size W wr from
              ⟨(HM7.out.below HBX.out).wide (Nat.le_refl _) HBX.out.size, owns_below HL7.out HBX.out, owns_below ho3 HBX.out, below_then HB7.out HB7.out.size HBX.out⟩)
            clear hT3 hno3 ho3 HRES HM7 HL7 HO7 HB7 HBX HT2 HHS HT HNO
            go_wp2
            go_roundw
            case rel => exact ⟨i + 1, _, _, _, _, _, _, _, _, _, nx', ow', ss', ord', by omega, by omega, by go_num, rfl, rfl, HNO3.out, by omega, by omega, by omega, HT3.out, HFE⟩
            case measure => simp [intOf]; omega
    · obtain ⟨hM, hl, ho, hB⟩ := HF.out
      obtain ⟨wO, hwO⟩ : ∃ w : World, w = wr := ⟨_, rfl⟩
      rw [← hwO] at hl ho hB
      have HWO := Lib.hid hwO
      have HLr := Lib.hid hl
      have HOr := Lib.hid ho
      have HBr := Lib.hid hB
      clear hM hl ho hB HF hwO
      go_wp2
      go_loopw [103] (fun kv wx => ∃ k : Nat, k ≤ no ∧ kv = .int .i64 k ∧ Below wO.heap.size wO wx) (fun kv _ => no - (intOf kv).toNat)
      case atStart => exact ⟨0, Nat.zero_le _, rfl, by rw [HWO.out]; exact Below.refl _ _⟩
      case round =>
        obtain ⟨k, hk, rfl, hbx⟩ := hrel
        have HBX := Lib.hid hbx
        clear hbx
        by_cases hkl : k < no
        · have hko : k < ord.length := by have := HNO.out; omega
          obtain ⟨hj, hp3, htk⟩ := HT.out.held k hko
          obtain ⟨j, hje⟩ : ∃ j, j = ord[k] := ⟨_, rfl⟩
          rw [← hje] at hj hp3 htk
          obtain ⟨g1, c1, hf, _, _⟩ := own_form HOr.out (by omega)
          injection hf with hf hf2 hf3
          subst hf hf3
          obtain ⟨g2, c2, hf, _, _⟩ := own_form HLr.out (by omega)
          injection hf with hf hf4 hf3
          subst hf hf3
          clear hf2 hf4
          have hcell : wO.cell? ⟨g1, k, none⟩ = some (.int .i64 (j : Int)) := by
            rw [HOr.out.cellAt k (by omega), List.getElem?_map, List.getElem?_eq_getElem hko, ← hje]; rfl
          obtain ⟨⟨_, _, y2⟩, -, -⟩ := all_cells HLr.out HT.out.len hj
          rw [htk] at y2
          have x0 := below_cell HBX.out hcell
          have x2 := below_cell HBX.out y2
          have hcap : no ≤ co := (own_cap HOr.out).1
          have hs0 := run_cutI (some ⟨g1, 0, none⟩) no co k (by omega)
          have hwk : IntKind.u64.wrap (k : Int) = (k : Int) := by simp [IntKind.wrap, IntKind.signed, IntKind.bits]; omega
          have hne : ((k : Int) != (k : Int)) = false := by rw [bne_eq_false_iff_eq]
          have HCN := Lib.hid (contains_no (.slice (some ⟨g1, 0, none⟩) k co) ((ord.take k).map fun m : Nat => (m : Int)) (j : Int) wr
            ⟨_, _, by rw [List.length_map, List.length_take, Nat.min_eq_left (by omega)], fun _ => ⟨g1, 0, rfl, fun m hm => by
              have hmk : m < k := by rw [List.length_map, List.length_take] at hm; omega
              rw [Nat.zero_add]
              have hc2 : wO.cell? ⟨g1, m, none⟩ = some (.int .i64 ((ord.take k).map fun m : Nat => (m : Int))[m]) := by
                rw [HOr.out.cellAt m (by omega), List.getElem?_map, List.getElem?_eq_getElem (by omega), List.getElem_map, List.getElem_take]; rfl
              exact below_cell HBX.out hc2⟩⟩ (by rw [List.length_map, List.length_take]; omega) (fun hmem => by
              obtain ⟨m, hm, hme⟩ := List.mem_map.1 hmem
              obtain ⟨m2, hm2, hm3⟩ := List.mem_iff_getElem.1 hm
              rw [List.length_take] at hm2
              rw [List.getElem_take] at hm3
              refine HT.out.once (j := m2) (k := k) (by omega) hko (by omega) ?_
              rw [hm3, ← hje]
              omega))
          clear hcell y2 hcap hp3 htk hje
          go_wp2_with fail
          refine HCN.out.mono ?_
          rintro e w9 ⟨rfl, rfl⟩
          clear HCN hs0 x0 x2
          go_wp2
          go_roundw
          case rel => exact ⟨k + 1, by omega, by go_num, HBX.out⟩
          case measure => simp [intOf]; omega
        · have HBE := Lib.hid (below_then HBr.out HBr.out.size HBX.out)
          go_wp2
          go_ret
          exact ⟨rfl, HBE.out⟩

end Go.Proofs.Ytcnpmkigiklnnaa
namespace Go.Proofs.Ytcnpmkigiklnnaa
open Go.RowKit Go.Shelf
open Go.ChangeShapes Go.WideShapes Go.ChangeAt Go.Deep Go.Joins
open Go.ChangeMaps (open_string shut_string)

set_option maxRecDepth 100000 in
theorem spinAlone_lifted (os : Os) (started : os.Started) (H : Type) (enc : TypeId × Value → H) :
    ReturnsInHanded {} Try.checked os 6 .any (Rows.spinAloneSpec.pre6 enc Try.prog Try.f6 Rows.spinAloneRow.domain false) (Rows.spinAloneSpec.post enc Try.prog Try.f6 false true false false) := by
  refine returnsInHanded_of_change (C := Try.checked) own started (by kernel_rfl) Try.func6
    (ChangeSpec.witness6 (enc := enc) (C := Try.checked) false ⟨#[], #[.int .i64 0, .slice none 0 0], []⟩ 8 (by kernel_rfl) (by kernel_rfl) (by kernel_rfl) (by kernel_rfl)) ?_
  intro W base args ds gs before hval0 hW hcnd _
  have hval : ∀ (j : Nat) t v, Try.f6.params[j]? = some t → args[j]? = some v → Value.okWide Try.prog W .any base t v := hval0
  have hW' := hW
  obtain ⟨p, q, hA0, hV, rfl, hfz, hnd⟩ := hW
  have hA : DataW.TrodAll enc Try.prog W 0 (fun _ => true) true Try.f6.params.toList args.toList ds p := hA0
  rw [Try.params6] at hA hval
  have hA2 := hA
  obtain ⟨v0, vs0, d0, ds0, p0, q0, hargs, rfl, rfl, h0, r0⟩ := trodAll_cons hA
  obtain ⟨v1, vs1, d1, ds1, p1, q1, rfl, rfl, rfl, h1, r1⟩ := trodAll_cons r0
  obtain ⟨rfl, rfl, rfl⟩ := trodAll_nil r1
  obtain rfl : args = #[v0, v1] := by cases args; simp_all
  obtain ⟨rfl, rfl⟩ := trodVars_none hV
  obtain ⟨a0, rfl, rfl, rfl, w0⟩ := open_int Try.underlying3 (hval 0 3 v0 rfl rfl) h0
  obtain ⟨ps, hp, _, hpl⟩ := nums_open Try.underlying58 Try.underlying3 (by kernel_rfl) (hval 1 58 v1 rfl rfl) h1
  clear hA0 hval0
  simp only [List.append_nil] at hW'
  refine (alone_c a0 v1 ps W hp hpl).mono fun e W' ⟨he, hb⟩ => ?_
  subst he
  exact ⟨_, rfl, _, _, _, [], _, [], hW', trodAll_cons_mk (shut_bool Try.underlying4 _) trodAll_mk0, trodAll_stays laidOut hb (by kernel_rfl) hA2 (fun x hx => by simpa using hW'.lt x (by simpa using hx)), rfl, hb.frame _, fun h => by cases h⟩

theorem spinAlone_holds : Rows.SpinAloneSaid :=
  OpenClaim.holds_of_wide 6 Try.f6 rfl rfl rfl rfl rfl rfl rfl ⟨rfl, rfl, rfl, rfl, rfl⟩ rfl rfl rfl rfl rfl (by kernel_rfl) Try.func6 (by kernel_rfl)
    (of_decide_eq_true (by kernel_rfl)) (by unfold Func.isWrapper; first | (rw [if_pos (by decide +kernel)]; kernel_rfl) | (rw [if_neg (by decide +kernel)]; exact ⟨rfl, rfl⟩))
    (fun os started H enc _ => spinAlone_lifted os started H enc)

end Go.Proofs.Ytcnpmkigiklnnaa
