/-
  Package size: Apart, called with any row of blocks: by the run over their words; what was in memory stays.
  Conditions: the package's table of sizes is as it was laid; the ranges of Go's types; no more than a million blocks.
-/
import Derived.Test.YtklbbcaebdfjeaaDoorZTaken
namespace Go.Proofs.YtklbbcaebdfjeaaDoor
open Go.RowKit Go.Shelf
attribute [local go_sem] Oper.semAt_some

theorem Marks.grown {B : Nat} {Ds : List Nat} {W W' : World} {m : Nat} (h : Marks B Ds W) (hg : W.grownBy W' (some m)) (hm : ∃ es ck, W.heap[m]? = some (.map es ck)) : Marks B Ds W' :=
  ⟨h.1, fun D hD => ⟨(h.2 D hD).1, (hg.block D (h.lt hD) (fun e => by
    obtain ⟨es, ck, hm⟩ := hm
    injection e with e
    have h9 := (h.2 D hD).2
    rw [e, hm] at h9
    injection h9 with h9
    cases h9)).trans (h.2 D hD).2⟩⟩
/-- The head of the loop over blocks: the activation's slots. -/
def apAct (w : World) (p : Option Addr) (n cap i : Nat) (Ds : List Nat) (s1 s5 s6 s7 s12 s13 s14 s15 s16 s17 s18 s19 s20 s21 s22 s23 s24 s25 s26 s27 s28 s29 s30 : Value) : Act :=
  { tmps := #[.slice p n cap, s1, .bool false, .pointer (some ⟨w.heap.size + 1, 0, none⟩), .pointer (some ⟨w.heap.size + 1 + 1, 0, none⟩), s5, s6, s7, .map (some w.heap.size), .slice p n cap, .int .i64 (n : Int), .int .i64 (i : Int), s12, s13, s14, s15, s16, s17, s18, s19, s20, s21, s22, s23, s24, s25, s26, s27, s28, s29, s30], defers := marksOf Ds }
def ApI (w : World) (p : Option Addr) (cap : Nat) (bs : List (Int × Int)) (a : Act) (W : World) : Prop :=
  ∃ (i : Nat) (T : List Nat) (Ds : List Nat) (s1 s5 s6 s7 s12 s13 s14 s15 s16 s17 s18 s19 s20 s21 s22 s23 s24 s25 s26 s27 s28 s29 s30 : Value), a = apAct w p bs.length cap i Ds s1 s5 s6 s7 s12 s13 s14 s15 s16 s17 s18 s19 s20 s21 s22 s23 s24 s25 s26 s27 s28 s29 s30 ∧ i ≤ bs.length ∧ apTo (bs.take i) = some T ∧
    MapAt W w.heap.size T ∧ Boxed W (w.heap.size + 1) 59 (.map (some w.heap.size)) ∧ Boxed W (w.heap.size + 1 + 1) 4 (.bool true) ∧ Below w.heap.size w W ∧ Marks w.heap.size Ds W
/-- How many rounds are left. -/
def apLeft (n : Nat) (a : Act) : Nat := n - (intOf (a.tmps.getD 11 undef)).toNat

set_option maxRecDepth 100000 in
set_option maxHeartbeats 8000000 in
theorem apart_c (v : Value) (bs : List (Int × Int)) (w : World) (hv : BlksAt w v bs) (hr : ∀ b ∈ bs, I64 b.1) (hlen : bs.length ≤ 1000000) (hT0 : Tab w) :
    Calls Tryd.prog 22 #[v] w fun e w' => e = .returned (.bool (apB bs)) ∧ Below w.heap.size w w' := by
  refine (callsIn_wide (n := 9)).1 ?_
  obtain ⟨p, cap, rfl, hcells⟩ := hv
  have hmm := @run_makeMap Tryd.prog
  refine callsIn_of_wp_marks Tryd.func22 rfl trivial ?_ rfl
  simp only [Tryd.ntmps22, List.size_toArray, List.length_cons, List.length_nil, Nat.reduceAdd, Nat.reduceSub, Array.replicate_succ, Array.replicate_zero, List.push_toArray, List.append_toArray, List.nil_append, List.cons_append]
  gi_wp2
  refine wpIn_scope ?_
  gi_wp2
  refine wpIn_label ?_
  gi_wp2
  have HCELLS := Lib.hid hcells
  have HRNG := Lib.hid hr
  have HTAB := Lib.hid hT0
  clear hcells hr hT0 hmm
  refine wpIn_loop (ApI w p cap bs) (fun a _ => apLeft bs.length a) ?_ ?_
  · refine ⟨0, [], [], _, _, _, _, _, _, _, _, _, _, _, _, _, _, _, _, _, _, _, _, _, _, _, rfl, Nat.zero_le _, rfl, ?_, ?_, ?_, (((Below.refl _ _).alloc (Nat.le_refl _) _).alloc (by simp) _).alloc (by simp; omega) _, Marks.nil _ _⟩
    · exact ((MapAt.new w).kept (World.grownBy_alloc _ _ none) (by simp)).kept (World.grownBy_alloc _ _ none) (by simp)
    · have := (Boxed.new (w.alloc (.map #[] 0)) 59 (.map (some w.heap.size))).alloc (.cells #[.bool true] 4); simpa using this
    · have := Boxed.new ((w.alloc (.map #[] 0)).alloc (.cells #[.map (some w.heap.size)] 59)) 4 (.bool true); simpa using this
  rintro a W ⟨i, T, Ds, s1, s5, s6, s7, s12, s13, s14, s15, s16, s17, s18, s19, s20, s21, s22, s23, s24, s25, s26, s27, s28, s29, s30, rfl, hi, hT, hmap, hbm, hbb, hB, hM⟩
  unfold apAct
  have hcm := hbm.cell
  have hcb := hbb.cell
  have hfb := hbb.frozen
  by_cases hlt : i < bs.length
  · obtain ⟨b, off, rfl, hcs⟩ := HCELLS.out (by intro e; rw [e] at hlt; cases hlt)
    obtain ⟨hx, hy⟩ := hcs i hlt
    have hai := HRNG.out bs[i] (List.getElem_mem hlt)
    have hTlen := apTo_len i bs hT
    have hsn : apTo (bs.take (i + 1)) = ap1 T bs[i] := by rw [List.take_succ_eq_append_getElem hlt, apTo_snoc, hT]; rfl
    obtain ⟨⟨a, c⟩, hak⟩ : ∃ f, f = bs[i] := ⟨_, rfl⟩
    rw [← hak] at hx hy hai hsn
    have hx' := (hB.cell (World.block_lt_of_cell? w _ hx)).trans hx
    have hy' := (hB.cell (World.block_lt_of_cell? w _ hy)).trans hy
    clear hx hy hcs HCELLS
    simp only at hai hx' hy'
    have hsz := hB.size
    have htl := HTAB.out.lt
    have HTW := Lib.hid ((HTAB.out.below hB).below ((Below.refl W.heap.size W).alloc (Nat.le_refl _) (.cells #[.int .i64 a, .int .i64 c] 33)))
    gi_wp2_with fail
    refine ⟨trivial, (callsIn_wide.2 (may_c a c hai _ HTW.out)).mono ?_⟩
    rintro e w1 ⟨rfl, hb1⟩
    have hX1 := (BBox.new W a c).below hb1
    have hm1 := (hmap.kept (World.grownBy_alloc W (.cells #[.int .i64 a, .int .i64 c] 33) none) (by simp))
    have HMP := Lib.hid (show MapAt w1 w.heap.size T by
      obtain ⟨D, ⟨es, ck, h1, h2⟩, hD⟩ := hm1
      exact ⟨D, ⟨es, ck, (hb1.block _ (Array.getElem?_eq_some_iff.1 h1).1).trans h1, h2⟩, hD⟩)
    have hbm1 := boxed_below (hbm.alloc _) hb1
    have hbb1 := boxed_below (hbb.alloc _) hb1
    have hM1 := (hM.keeps (KeepsOthers.alloc _ _)).below hb1
    have hB1 := below_then ((hB.alloc hB.size) _) (by have := hB.size; simp; omega) hb1
    have HT1 := Lib.hid (HTW.out.below hb1)
    have hzw := Nat.lt_of_lt_of_le hbb.lt (Nat.le_refl W.heap.size)
    generalize hz : W.heap.size = z at *
    clear hb1 hcm hcb hfb hbm hbb hM hB hx' hy' hmap hm1 HTW
    have hcm := hbm1.cell
    have hcb := hbb1.cell
    have hfb := hbb1.frozen
    cases hI : mayB a c with
    | false =>
      have hno : apTo bs = none := apTo_none (l := bs.take (i + 1)) (by rw [hsn]; unfold ap1; rw [hI]; rfl) (List.take_prefix _ _)
      gi_wp2
      refine leaves_marks (B := w.heap.size) Ds _ (hM1.keeps (KeepsOthers.setCell _ _ _)) fun W' hW' => ⟨_, results_tmp rfl _ _ _, ?_, (hB1.setCell (p := ⟨w.heap.size + 1 + 1, 0, none⟩) (by simp; omega) _).trans hW'⟩
      exact ret_bool (by unfold apB; rw [hno]; rfl)
    | true =>
      obtain ⟨k, n, rfl, hk, rfl, hn, -⟩ := mayB_yes hI
      have hsnoc : apTo (bs.take (i + 1)) = apF T (wrL n (szN k)) := by rw [hsn]; unfold ap1; rw [if_pos hI, Int.toNat_natCast, Int.toNat_natCast]
      have hn4 : n ≤ 4096 := by omega
      obtain ⟨g0, g1⟩ := hX1.cells
      clear hn hsn hak
      gi_wp2_with fail
      refine ⟨trivial, (callsIn_wide.2 (wordsOf_c n k w1)).mono ?_⟩
      rintro e w2 ⟨rfl, hw2⟩
      have hb2 : Below w1.heap.size w1 w2 := by rw [hw2]; exact (Below.refl _ _).alloc (Nat.le_refl _) _
      have hz2 : w2.heap.size = w1.heap.size + 1 := by rw [hw2]; simp
      have hzz : z < w1.heap.size := hX1.lt
      have hX2 : BBox w2 w1.heap.size n k := by rw [hw2]; exact BBox.new _ _ _
      have hM2 := hM1.below hb2
      have hbm2 := boxed_below hbm1 hb2
      have hbb2 := boxed_below hbb1 hb2
      have hB2 := below_then hB1 hB1.size hb2
      have hm2 : MapAt w2 w.heap.size T := by rw [hw2]; exact HMP.out.kept (World.grownBy_alloc _ _ none) (by simp)
      have HT2 := Lib.hid (HT1.out.below hb2)
      clear hw2 hb2 hbm1 hbb1 hB1 HMP HT1 g0 g1 hcm hcb hfb
      gi_wp2
      refine wpIn_rangeBound rfl (by omega) (gf := 44) (bd := #[]) (lb := #[.pointer (some ⟨w1.heap.size, 0, none⟩)]) rfl trivial (enters_of Tryd.func44 (by kernel_rfl) rfl)
        (words_stops 8 (by omega) (fun q => q = w.heap.size ∨ q = w.heap.size + 1 + 1) w1.heap.size n k hk hn4 w2 (by omega) HT2.out hX2) (fun h k => h.trans k) (fun W l o o' _ => KeepsCells.turn _ W l o o') (Below.refl _ _) (fun _ => rfl)
        (fun pre W => (((∃ m, apF T (pre.map (·.1)) = some m ∧ MapAt W w.heap.size m) ∧ Boxed W (w.heap.size + 1) 59 (.map (some w.heap.size))) ∧ Boxed W (w.heap.size + 1 + 1) 4 (.bool true)) ∧ (Below w.heap.size w W ∧ Marks w.heap.size Ds W))
        (fun c pre W => ((c = .exit 0 ∧ apF T (pre.map (·.1)) = none) ∧ Boxed W (w.heap.size + 1 + 1) 4 (.bool false)) ∧ (Below w.heap.size w W ∧ Marks w.heap.size Ds W))
        ?hI ?hIx ?h0
        (fun x a' _ => a' = { tmps := #[.slice (some ⟨b, off, none⟩) bs.length cap, s1, .bool false, .pointer (some ⟨w.heap.size + 1, 0, none⟩), .pointer (some ⟨w.heap.size + 1 + 1, 0, none⟩), s5, .pointer (some ⟨z, 0, none⟩), .int .i64 (x.1 : Int), .map (some w.heap.size), .slice (some ⟨b, off, none⟩) bs.length cap, .int .i64 (bs.length : Int), .int .i64 (i : Int), .bool true, .pointer (some ⟨b, off + i * 2, none⟩), blkV n k, blkV n k, .bool true, .bool false, blkV n k, .func (.func 44) #[] #[.pointer (some ⟨w1.heap.size, 0, none⟩)], .int .i64 (x.1 : Int), s21, s22, s23, s24, s25, s26, s27, s28, s29, s30], defers := [] })
        (fun _ _ => ownFrom_pure _ _) ?assign ?body ?done ?stop
      case hI =>
        refine OwnFrom.and (OwnFrom.and (OwnFrom.and ?_ ((boxed_own _ _ _).from _)) ((boxed_own _ _ _).from _)) (OwnFrom.and (ownFrom_below (Nat.le_refl _) hB2.size) (marks_own fun D hD => hM2.lt hD))
        intro pre A B row ⟨m, hm, hmp⟩ hg hr
        exact ⟨m, hm, hmp.kept hg (fun e => by have := (hr _ e.symm).1; omega)⟩
      case hIx => exact fun c => OwnFrom.and (OwnFrom.and (ownFrom_pure _ _) ((boxed_own _ _ _).from _)) (OwnFrom.and (ownFrom_below (Nat.le_refl _) hB2.size) (marks_own fun D hD => hM2.lt hD))
      case h0 => exact ⟨⟨⟨⟨T, rfl, hm2⟩, hbm2⟩, hbb2⟩, hB2, hM2⟩
      case assign =>
        intro l pre x W K hi hK
        gi_wp2
        exact hK _ _ (KeepsFrom.refl _ _) (KeepsCells.refl _ _) hi rfl
      case body =>
        rintro l pre x a' W hl _ ⟨⟨⟨⟨m, hm, hmp⟩, hbm⟩, hbb⟩, hB, hM⟩ rfl hlen
        have hx9 : x.1 ≤ 9000 := by have := x.2; omega
        have hml : m.length < 1000000000 := by
          have h1 := apF_len _ hm
          rw [List.length_map] at h1
          have h2 := (sz_ok hk).2
          omega
        have hcm := hbm.cell
        have hlook := hmp.look x.1 hx9
        have hblk := hmp.block
        have hlt2 := hbb.lt
        by_cases hmem : x.1 ∈ m
        · have hno : apF T ((pre ++ [x]).map (·.1)) = none := by rw [List.map_append, List.map_singleton, apF_snoc, hm, Option.bind_some, if_pos hmem]
          rw [if_pos hmem] at hlook
          obtain ⟨W3, hrun, hlook2, hg⟩ := hmp.two x.1 hx9 hml
          have hbm3 := hbm.kept hg (by simp)
          have hbb3 := hbb.kept hg (by simp; omega)
          have hB3 := hB.grown hg hB.size (fun k e => by cases e; exact Nat.le_refl _)
          have hM3 := hM.grown hg hblk
          have HK := Lib.hid (show KeepsFrom w2.heap.size W W3 from KeepsFrom.of_grownBy hg (fun j e => by cases e; omega))
          have hcm3 := hbm3.cell
          have hcb3 := hbb3.cell
          have hfb3 := hbb3.frozen
          clear hg hmem hm hmp
          gi_wp2
          exact ⟨HK.out.trans ((KeepsOthers.setCell _ _ _).from _), ⟨⟨rfl, hno⟩, hbb3.set _⟩, hB3.setCell (p := ⟨w.heap.size + 1 + 1, 0, none⟩) (by simp; omega) _, hM3.keeps (KeepsOthers.setCell _ _ _)⟩
        · have hyes : apF T ((pre ++ [x]).map (·.1)) = some (m ++ [x.1]) := by rw [List.map_append, List.map_singleton, apF_snoc, hm, Option.bind_some, if_neg hmem]
          rw [if_neg hmem] at hlook
          obtain ⟨W3, hrun, hmp3, hg⟩ := hmp.one x.1 hx9 hmem hml
          have hlook2 := hmp3.look x.1 hx9
          rw [if_pos (by simp)] at hlook2
          have hbm3 := hbm.kept hg (by simp)
          have hbb3 := hbb.kept hg (by simp; omega)
          have hB3 := hB.grown hg hB.size (fun k e => by cases e; exact Nat.le_refl _)
          have hM3 := hM.grown hg hblk
          have HK := Lib.hid (show KeepsFrom w2.heap.size W W3 from KeepsFrom.of_grownBy hg (fun j e => by cases e; omega))
          have HKC := Lib.hid (show KeepsCells (fun q => q = w.heap.size ∨ q = w.heap.size + 1 + 1) W W3 from KeepsCells.grown hg (fun j e => by cases e; exact .inl rfl))
          have hcm3 := hbm3.cell
          clear hg hmem hm hmp
          gi_wp2
          exact ⟨HK.out, HKC.out, ⟨⟨⟨_, hyes, hmp3⟩, hbm3⟩, hbb3⟩, hB3, hM3⟩
      case done =>
        rintro D xs W hD hxs ⟨⟨⟨⟨m, hm, hmp⟩, hbm⟩, hbb⟩, hB, hM⟩ hK
        rw [hxs] at hm
        gi_wp2
        refine ⟨⟨i + 1, m, D :: Ds, _, _, _, _, _, _, _, _, _, _, _, _, _, _, _, _, _, _, _, _, _, _, _, rfl, by omega, hsnoc.trans hm, hmp, hbm, hbb, hB, hM.cons (Nat.le_trans hB2.size hD) (fun h => by have := hM2.lt h; omega) hK⟩, ?_⟩
        show bs.length - (intOf (.int .i64 ((i : Int) + 1))).toNat < bs.length - (intOf (.int .i64 (i : Int))).toNat
        simp only [intOf]
        omega
      case stop =>
        rintro D c pre W hD ⟨suf, hpre⟩ ⟨⟨⟨rfl, hno⟩, hbb⟩, hB, hM⟩ hK
        have hcb := hbb.cell
        have hno' : apTo bs = none := apTo_none (l := bs.take (i + 1)) (by rw [hsnoc, ← hpre]; exact apF_none _ hno) (List.take_prefix _ _)
        gi_wp2
        refine leaves_marks (B := w.heap.size) (D :: Ds) _ (hM.cons (Nat.le_trans hB2.size hD) (fun h => by have := hM2.lt h; omega) hK) fun W' hW' => ⟨_, results_tmp rfl _ _ _, ?_, hB.trans hW'⟩
        exact ret_bool (by unfold apB; rw [hno']; rfl)
  · have hyes : apTo bs = some T := by rw [← hT, List.take_of_length_le (by omega)]
    gi_wp2
    refine leaves_marks (B := w.heap.size) Ds _ hM fun W' hW' => ⟨_, results_tmp rfl _ _ _, ?_, hB.trans hW'⟩
    exact ret_bool (by unfold apB; rw [hyes]; rfl)

end Go.Proofs.YtklbbcaebdfjeaaDoor
