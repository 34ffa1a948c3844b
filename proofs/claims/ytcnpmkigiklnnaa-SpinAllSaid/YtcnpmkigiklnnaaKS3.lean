/-
  Check, Leave, Ask and what the phases ask for, of package spin; and the document's answers.
  Conditions: none but the ranges of Go's types.
-/
import Derived.Test.YtcnpmkigiklnnaaKS2
import Derived.Deep.CutBlock
import Derived.Deep.DeepCutAuto
import Derived.Deep.RegionHeld3
import Derived.Test.YtcnpmkigiklnnaaKS1
import Derived.Lib.SmallJoins
import Derived.Laws.IdiomArrays
import Derived.Deep.Grids
import Derived.WalkKit
/-
  memory.Run and memory.Step: what accesses come to, one behind the other; what was in memory stays.
  Conditions: the memory and the accesses read as these lists.
-/
namespace Go.Proofs.Ytcnpmkigiklnnaa
open Go.RowKit Go.Shelf

/-- The words, the fault and the answers behind accesses, one behind the other. -/
def runS (ls : List Bool) (ws : List Int) (f : Bool) (l : List Acc) : List Int × Bool × List (Int × Bool) :=
  l.foldl (fun s x => let r := accM s.1 ls s.2.1 x.k x.a x.o x.n; (r.1, r.2.1, s.2.2 ++ [r.2.2])) (ws, f, [])
theorem runS_nil (ls : List Bool) (ws : List Int) (f : Bool) : runS ls ws f [] = (ws, f, []) := rfl
theorem runS_snoc (ls : List Bool) (ws : List Int) (f : Bool) (l : List Acc) (x : Acc) :
    runS ls ws f (l ++ [x]) = (let s := runS ls ws f l; let r := accM s.1 ls s.2.1 x.k x.a x.o x.n; (r.1, r.2.1, s.2.2 ++ [r.2.2])) := by simp [runS]
theorem runS_length (ls : List Bool) (ws : List Int) (f : Bool) (l : List Acc) : (runS ls ws f l).1.length = ws.length ∧ (runS ls ws f l).2.2.length = l.length := by
  suffices ∀ (l : List Acc) (s : List Int × Bool × List (Int × Bool)), (l.foldl (fun s x => let r := accM s.1 ls s.2.1 x.k x.a x.o x.n; (r.1, r.2.1, s.2.2 ++ [r.2.2])) s).1.length = s.1.length ∧
      (l.foldl (fun s x => let r := accM s.1 ls s.2.1 x.k x.a x.o x.n; (r.1, r.2.1, s.2.2 ++ [r.2.2])) s).2.2.length = s.2.2.length + l.length by
    have h := this l (ws, f, [])
    simpa [runS] using h
  intro l
  induction l with
  | nil => intro s; exact ⟨rfl, rfl⟩
  | cons x l ih =>
    intro s
    have h := ih (let r := accM s.1 ls s.2.1 x.k x.a x.o x.n; (r.1, r.2.1, s.2.2 ++ [r.2.2]))
    simp only [List.foldl_cons]
    refine ⟨h.1.trans (accM_length ..), h.2.trans ?_⟩
    simp
    omega

/-- Answers that stand, with as many as there is room for. -/
def gotRow (gs : List (Int × Bool)) (n : Nat) : List Value := flatG (gs ++ List.replicate (n - gs.length) (0, false))
theorem flatG_set : ∀ (l : List (Int × Bool)) (i : Nat) (x : Int × Bool), ((flatG l).set (i * 2) (.int .u64 x.1)).set (i * 2 + 1) (.bool x.2) = flatG (l.set i x)
  | [], _, _ => by simp [flatG]
  | f :: r, 0, x => rfl
  | f :: r, i + 1, x => by
    rw [show (i + 1) * 2 = i * 2 + 1 + 1 by omega]
    simp only [flatG, List.set_cons_succ]
    rw [flatG_set r i x]
theorem gotRow_step (gs : List (Int × Bool)) (n : Nat) (x : Int × Bool) (h : gs.length < n) :
    ((gotRow gs n).set (gs.length * 2) (.int .u64 x.1)).set (gs.length * 2 + 1) (.bool x.2) = gotRow (gs ++ [x]) n := by
  unfold gotRow
  rw [flatG_set, List.set_append_right _ _ (Nat.le_refl _), Nat.sub_self, show n - gs.length = (n - (gs ++ [x]).length) + 1 by simp; omega, List.replicate_succ, List.set_cons_zero, List.append_assoc]
  rfl
theorem gotRow_end (gs : List (Int × Bool)) : gotRow gs gs.length = flatG gs := by simp [gotRow]
theorem gotRow_length (gs : List (Int × Bool)) (n : Nat) (h : gs.length ≤ n) : (gotRow gs n).length = n * 2 := by
  unfold gotRow
  rw [flatG_length]
  simp
  omega
theorem flatG_replicate (n : Nat) : flatG (List.replicate n (0, false)) = (madeCells (Value.agg #[.int .u64 0, .bool false]).cells (n * 2)).toList := by
  refine List.ext_getElem (by simp [flatG_length, madeCells]) fun j h1 h2 => ?_
  rw [flatG_length, List.length_replicate] at h1
  have hj : j / 2 < (List.replicate n ((0 : Int), false)).length := by simp; omega
  have hg := flatG_get (List.replicate n (0, false)) (j / 2) hj
  rcases Nat.mod_two_eq_zero_or_one j with e | e
  · have := hg.1
    rw [show j / 2 * 2 = j by omega, List.getElem?_eq_some_iff] at this
    rw [this.2]
    simp [madeCells, Value.cells, e]
  · have := hg.2
    rw [show j / 2 * 2 + 1 = j by omega, List.getElem?_eq_some_iff] at this
    rw [this.2]
    simp [madeCells, Value.cells, e]

theorem got_info : (Try.prog.info? 36).map (fun i => (i.zero, i.size, i.bytes)) = some (some (.agg #[.int .u64 0, .bool false]), 2, 16) := by kernel_rfl
def memZ : Value := .agg #[.slice none 0 0, .slice none 0 0, .bool false]

set_option maxRecDepth 100000 in
set_option maxHeartbeats 2000000 in
theorem run_bad (v v1 : Value) (ws : List Int) (ls : List Bool) (f : Bool) (W : World) (hv : MemAt W v ws ls f) (hw : ws.length ≤ 9223372036854775807) (hr : rightB ws ls = false) (h1 : ∃ p n c, v1 = .slice p n c) :
    Calls Try.prog 38 #[v, v1] W fun e w' => e = .returned (.tuple #[memZ, .slice none 0 0, .int .i64 120]) ∧ Below W.heap.size W w' := by
  have hm := hv
  obtain ⟨vw, vl, rfl, ⟨pw, cw, rfl, hcw⟩, pl, cl, rfl, hcl⟩ := hv
  obtain ⟨p1, n1, c1, rfl⟩ := h1
  have HM := Lib.hid hm
  clear hm hcw hcl
  have HR := Lib.hid (MBox.new (W.alloc (.cells #[.slice pw ws.length cw, .slice pl ls.length cl, .bool f] 46)) (.slice none 0 0) (.slice none 0 0) false)
  rw [World.size_alloc] at HR
  go_enter Try.func38, Try.ntmps38
  go_wp2_with fail
  have hB : Below W.heap.size W ((W.alloc (.cells #[.slice pw ws.length cw, .slice pl ls.length cl, .bool f] 46)).alloc (.cells #[.slice none 0 0, .slice none 0 0, .bool false] 46)) := ((Below.refl _ _).alloc (Nat.le_refl _) _).alloc (by simp) _
  refine (check_c _ ws ls f _ (HM.out.below hB) hw).mono ?_
  rintro e w1 ⟨rfl, hb1⟩
  rw [chkM_no hr]
  obtain ⟨⟨hr0, hr1, hr2⟩, hs0, hs1, hs2⟩ := mbox_cells (HR.out.below hb1)
  have hB1 := below_then hB hB.size hb1
  clear hb1
  go_wp2
  exact bodyPost_ret (v := .tuple #[memZ, .slice none 0 0, .int .i64 120]) (by simp [results, Try.results38, go_sem, hr0, hr1, hr2, memZ]) rfl ⟨rfl, ((hB1.setCell (p := ⟨W.heap.size + 1, 0, none⟩) (Nat.le_succ _) _).setCell (p := ⟨W.heap.size + 1, 1, none⟩) (Nat.le_succ _) _).setCell (p := ⟨W.heap.size + 1, 2, none⟩) (Nat.le_succ _) _⟩

theorem own_form {X : World} {B : Nat} {E : TypeId} {s : Nat} {v : Value} {n : Nat} {xs : List Value} (h : X.ownsRow B E s v n xs) (hn : 0 < n) : ∃ g cap, v = .slice (some ⟨g, 0, none⟩) n cap ∧ B ≤ g ∧ g < X.heap.size := by
  rcases h.2 with ⟨_, h0⟩ | ⟨g, cap, cur, rfl, hb, hc, _⟩
  · omega
  · exact ⟨g, cap, rfl, hb, (Array.getElem?_eq_some_iff.1 hc).1⟩

set_option maxRecDepth 100000 in
set_option maxHeartbeats 2000000 in
theorem run_kind (v v1 : Value) (ws : List Int) (ls : List Bool) (f : Bool) (l : List Acc) (W : World) (hv : MemAt W v ws ls f) (hw : ws.length ≤ 9223372036854775807) (hr : rightB ws ls = true) (hA : AccsAt W v1 l) (hmax : l.length ≤ 4611686018427387904) (hk : kindAll l = false) :
    Calls Try.prog 38 #[v, v1] W fun e w' => e = .returned (.tuple #[memZ, .slice none 0 0, .int .i64 121]) ∧ Below W.heap.size W w' := by
  have hm := hv
  have ha := hA
  obtain ⟨vw, vl, rfl, ⟨pw, cw, rfl, hcw⟩, pl, cl, rfl, hcl⟩ := hv
  obtain ⟨p1, c1, rfl, hc1⟩ := hA
  have HM := Lib.hid hm
  have HA := Lib.hid ha
  clear hm hcw hcl hc1 ha
  have HR := Lib.hid (MBox.new (W.alloc (.cells #[.slice pw ws.length cw, .slice pl ls.length cl, .bool f] 46)) (.slice none 0 0) (.slice none 0 0) false)
  rw [World.size_alloc] at HR
  have hB : Below W.heap.size W ((W.alloc (.cells #[.slice pw ws.length cw, .slice pl ls.length cl, .bool f] 46)).alloc (.cells #[.slice none 0 0, .slice none 0 0, .bool false] 46)) := ((Below.refl _ _).alloc (Nat.le_refl _) _).alloc (by simp) _
  go_enter Try.func38, Try.ntmps38
  go_wp2_with fail
  refine (check_c _ ws ls f _ (HM.out.below hB) hw).mono ?_
  rintro e w1 ⟨rfl, hb1⟩
  rw [chkM_yes hr]
  have HR1 := Lib.hid (HR.out.below hb1)
  have hB1 := below_then hB hB.size hb1
  clear hb1
  go_wp2_with fail
  refine (everyA_c _ l _ (accs_below HA.out hB1) hmax).mono ?_
  rintro e w2 ⟨rfl, hb2⟩
  rw [hk]
  obtain ⟨⟨hr0, hr1, hr2⟩, hs0, hs1, hs2⟩ := mbox_cells (HR1.out.below hb2)
  have hB2 := below_then hB1 hB1.size hb2
  clear hb2
  go_wp2
  exact bodyPost_ret (v := .tuple #[memZ, .slice none 0 0, .int .i64 121]) (by simp [results, Try.results38, go_sem, hr0, hr1, hr2, memZ]) rfl ⟨rfl, ((hB2.setCell (p := ⟨W.heap.size + 1, 0, none⟩) (Nat.le_succ _) _).setCell (p := ⟨W.heap.size + 1, 1, none⟩) (Nat.le_succ _) _).setCell (p := ⟨W.heap.size + 1, 2, none⟩) (Nat.le_succ _) _⟩

/-- What Run hands over. -/
def RunOk (B : Nat) (ls : List Bool) (s : List Int × Bool × List (Int × Bool)) (e : Ending) (w' : World) : Prop :=
  ∃ gw cw gl cl vg, e = .returned (.tuple #[.agg #[.slice (some ⟨gw, 0, none⟩) s.1.length cw, .slice (some ⟨gl, 0, none⟩) ls.length cl, .bool s.2.1], vg, .int .i64 0]) ∧
  w'.ownsRow B 22 1 (.slice (some ⟨gw, 0, none⟩) s.1.length cw) s.1.length (s.1.map (Value.int .u64)) ∧ w'.ownsRow B 4 1 (.slice (some ⟨gl, 0, none⟩) ls.length cl) ls.length (ls.map Value.bool) ∧
  w'.ownsRow B 36 2 vg s.2.2.length (flatG s.2.2)

/-- What holds at the head of Run's loop. -/
structure RunInv (B z gw cw gl cl gg : Nat) (ls : List Bool) (s : List Int × Bool × List (Int × Bool)) (n : Nat) (W w : World) : Prop where
  box : (w.cell? ⟨z, 0, none⟩ = some (.slice (some ⟨gw, 0, none⟩) s.1.length cw) ∧ w.cell? ⟨z, 1, none⟩ = some (.slice (some ⟨gl, 0, none⟩) ls.length cl) ∧ w.cell? ⟨z, 2, none⟩ = some (.bool s.2.1))
  free : w.frozen? ⟨z, 2, none⟩ = false
  words : w.ownsRow B 22 1 (.slice (some ⟨gw, 0, none⟩) s.1.length cw) s.1.length (s.1.map (Value.int .u64))
  lives : w.ownsRow B 4 1 (.slice (some ⟨gl, 0, none⟩) ls.length cl) ls.length (ls.map Value.bool)
  gots : w.ownsRow B 36 2 (.slice (some ⟨gg, 0, none⟩) n n) n (gotRow s.2.2 n)
  res : MBox w (z + 1) (.slice none 0 0) (.slice none 0 0) false
  below : Below W.heap.size W w

set_option maxRecDepth 100000 in
set_option maxHeartbeats 4000000 in
theorem run_yes (v v1 : Value) (ws : List Int) (ls : List Bool) (f : Bool) (l : List Acc) (W : World) (hv : MemAt W v ws ls f) (hr : rightB ws ls = true) (hA : AccsAt W v1 l) (hmax : l.length ≤ 1099511627776) (hk : kindAll l = true) :
    Calls Try.prog 38 #[v, v1] W fun e w' => RunOk W.heap.size ls (runS ls ws f l) e w' ∧ Below W.heap.size W w' := by
  obtain ⟨hn1, hn2, hlen, hmay⟩ := rightB_iff.1 hr
  clear hmay
  have hm := hv
  have ha := hA
  obtain ⟨vw, vl, rfl, ⟨pw, cw, rfl, hcw⟩, pl, cl, rfl, hcl⟩ := hv
  obtain ⟨p1, c1, rfl, hc1⟩ := hA
  obtain ⟨i0, hi, hz0, hz1, hz2⟩ := info_parts got_info
  have HM := Lib.hid hm
  have HA := Lib.hid ha
  have HLEN := Lib.hid hlen
  clear hm hcw hcl ha hlen
  obtain ⟨z, hz⟩ : ∃ z, z = W.heap.size := ⟨_, rfl⟩
  obtain ⟨wo, hwo⟩ : ∃ wo : World, wo = (W.alloc (.cells #[.slice pw ws.length cw, .slice pl ls.length cl, .bool f] 46)).alloc (.cells #[.slice none 0 0, .slice none 0 0, .bool false] 46) := ⟨_, rfl⟩
  have hZ : MBox wo z (.slice pw ws.length cw) (.slice pl ls.length cl) f := by rw [hwo, hz]; exact (MBox.new _ _ _ _).alloc _
  have hR : MBox wo (z + 1) (.slice none 0 0) (.slice none 0 0) false := by
    have := MBox.new (W.alloc (.cells #[.slice pw ws.length cw, .slice pl ls.length cl, .bool f] 46)) (.slice none 0 0) (.slice none 0 0) false
    rw [World.size_alloc] at this
    rw [hwo, hz]; exact this
  have hB : Below W.heap.size W wo := by rw [hwo]; exact ((Below.refl _ _).alloc (Nat.le_refl _) _).alloc (by simp) _
  have hsz : z + 2 ≤ wo.heap.size := by rw [hwo, hz]; simp
  have HZ := Lib.hid hZ
  have HR := Lib.hid hR
  obtain ⟨⟨hd0, hd1, hd2⟩, _⟩ := mbox_cells hZ
  clear hZ hR
  go_enter Try.func38, Try.ntmps38
  go_wp2_with fail
  rw [← hwo, ← hz]
  have HZW := Lib.hid hz
  clear hwo hz
  refine (check_c _ ws ls f _ (HM.out.below hB) (by omega)).mono ?_
  rintro e w1 ⟨rfl, hb1⟩
  rw [chkM_yes hr]
  have HZ1 := Lib.hid (HZ.out.below hb1)
  have HR1 := Lib.hid (HR.out.below hb1)
  have hB1 := below_then hB hB.size hb1
  have hsz1 := Nat.le_trans hsz hb1.size
  clear hb1 HZ HR hB hsz hd0 hd1 hd2
  go_wp2_with fail
  refine (everyA_c _ l _ (accs_below HA.out hB1) (by omega)).mono ?_
  rintro e w2 ⟨rfl, hb2⟩
  rw [hk]
  have HZ2 := Lib.hid (HZ1.out.below hb2)
  have HR2 := Lib.hid (HR1.out.below hb2)
  have hB2 := below_then hB1 hB1.size hb2
  have hsz2 := Nat.le_trans hsz1 hb2.size
  clear hb2 HZ1 HR1 hB1 hsz1
  obtain ⟨⟨hd0, hd1, hd2⟩, _⟩ := mbox_cells HZ2.out
  go_wp2_with fail
  refine (double_c _ ws ls f _ (HM.out.below hB2) (by omega) (by rw [HLEN.out]; omega) (by omega) (by rw [HLEN.out]; omega)).mono ?_
  rintro e w3 ⟨⟨_, rfl, vw2, vl2, rfl, how, hol⟩, hb3⟩
  obtain ⟨gw, cw2, rfl, hgw, hgw3⟩ := own_form how (by omega)
  obtain ⟨gl, cl2, rfl, hgl, hgl3⟩ := own_form hol (by rw [HLEN.out]; omega)
  have HZ3 := Lib.hid (HZ2.out.below hb3)
  have HR3 := Lib.hid (HR2.out.below hb3)
  have hB3 := below_then hB2 hB2.size hb3
  have hsz3 := Nat.le_trans hsz2 hb3.size
  have HOW := Lib.hid how
  have HOL := Lib.hid hol
  clear hb3 HZ2 HR2 hB2 hd0 hd1 hd2 how hol
  obtain ⟨⟨hd0, hd1, hd2⟩, he0, he1, he2⟩ := mbox_cells HZ3.out
  go_upto_region 7 with fail
  obtain ⟨w4, hw4⟩ : ∃ w4 : World, w4 = ((w3.setCell ⟨z, 0, none⟩ (.slice (some ⟨gw, 0, none⟩) ws.length cw2)).setCell ⟨z, 1, none⟩ (.slice (some ⟨gl, 0, none⟩) ls.length cl2)).setCell ⟨z, 2, none⟩ (.bool f) := ⟨_, rfl⟩
  rw [← hw4]
  have hzz : z < W.heap.size + 1 := by rw [HZW.out]; exact Nat.lt_succ_self _
  have hkz : Keeps (· = z) w3 w4 := by
    rw [hw4]
    exact ((Keeps.setCell w3 (S := (· = z)) (p := ⟨z, 0, none⟩) rfl _).trans (Keeps.setCell _ (S := (· = z)) (p := ⟨z, 1, none⟩) rfl _)).trans (Keeps.setCell _ (S := (· = z)) (p := ⟨z, 2, none⟩) rfl _)
  have HZ4 := Lib.hid (show MBox w4 z (.slice (some ⟨gw, 0, none⟩) ws.length cw2) (.slice (some ⟨gl, 0, none⟩) ls.length cl2) f by rw [hw4]; exact HZ3.out.set _ _ _)
  have HR4 := Lib.hid (HR3.out.keeps hkz (by simp))
  have hzg : z < gw := by omega
  have hzgl : z < gl := by omega
  have HOW4 := Lib.hid (hkz.row HOW.out (by intro g hg; simp [Value.ownBlock] at hg; omega))
  have HOL4 := Lib.hid (hkz.row HOL.out (by intro g hg; simp [Value.ownBlock] at hg; omega))
  have hB4 : Below W.heap.size W w4 := hB3.trans (hkz.below hB3.size (fun q hq => by rw [hq]; exact Nat.le_of_eq HZW.out.symm))
  have hsz4 := Nat.le_trans hsz3 hkz.size
  have hsz34 := hkz.size
  clear hw4 hkz hd0 hd1 hd2 he0 he1 he2 HZ3 HR3 HOW HOL hB3 hsz3
  obtain ⟨w5, hrun, hown5, hgrow5⟩ := run_make_full (P := Try.prog) w4 w4.heap.size 25 36 i0 (.agg #[.int .u64 0, .bool false]) 2 Try.underlying25 hi hz0 hz1 .i64 .i64 l.length (by rw [hz2]; omega) (by unfold maxLen; omega) (Nat.le_refl _)
  rw [← flatG_replicate] at hown5
  obtain ⟨gg, hgg⟩ : ∃ g, g = w4.heap.size := ⟨_, rfl⟩
  rw [← hgg] at hrun hown5
  have HOG5 := Lib.hid hown5
  have hk5 : Below w4.heap.size w4 w5 := (Below.refl _ _).grown hgrow5 (Nat.le_refl _) (fun k e => by cases e)
  have HZ5 := Lib.hid (HZ4.out.below hk5)
  have HR5 := Lib.hid (HR4.out.below hk5)
  have HOW5 := Lib.hid (owns_below HOW4.out hk5)
  have HOL5 := Lib.hid (owns_below HOL4.out hk5)
  have hB5 := below_then hB4 hB4.size hk5
  clear hown5 hgrow5 hk5 HZ4 HR4 HOW4 HOL4
  have hgz : z + 1 < gg := by omega
  have hggw : gw < gg := by omega
  have hggl : gl < gg := by omega
  go_wp2_with fail
  rw [← hgg]
  have hzW : W.heap.size ≤ z := Nat.le_of_eq HZW.out.symm
  have hinv0 : RunInv W.heap.size z gw cw2 gl cl2 gg ls (ws, f, []) l.length W w5 :=
    ⟨(mbox_cells HZ5.out).1, (mbox_cells HZ5.out).2.2.2, HOW5.out.mono (by omega), HOL5.out.mono (by omega), by have := HOG5.out.mono (base' := W.heap.size) (by omega); simpa [gotRow] using this, HR5.out, hB5⟩
  clear hrun HZ5 HR5 HOW5 HOL5 HOG5 hB5 hB4 hgg hi hz0 hz1 hz2
  have HAC := Lib.hid hc1
  clear hc1
  go_loopw [28] (fun iv wr => ∃ i : Nat, i ≤ l.length ∧ iv = .int .i64 i ∧ RunInv W.heap.size z gw cw2 gl cl2 gg ls (runS ls ws f (l.take i)) l.length W wr) (fun iv _ => l.length - (intOf iv).toNat)
  case atStart => exact ⟨0, Nat.zero_le _, rfl, hinv0⟩
  case round =>
    obtain ⟨i, hi2, rfl, hinv⟩ := hrel
    by_cases hlt : i < l.length
    · obtain ⟨b, off, rfl, hcs⟩ := HAC.out (by intro e; rw [e] at hlt; cases hlt)
      obtain ⟨h0, h1, h2, h3⟩ := hcs i hlt
      have hsn := runS_snoc ls ws f (l.take i) l[i]
      rw [← List.take_succ_eq_append_getElem hlt] at hsn
      have hsl := runS_length ls ws f (l.take i)
      rw [List.length_take, Nat.min_eq_left hi2] at hsl
      have hkd := kindB_iff.1 (List.all_eq_true.1 hk l[i] (List.getElem_mem hlt))
      obtain ⟨s, hs⟩ : ∃ s, s = runS ls ws f (l.take i) := ⟨_, rfl⟩
      rw [← hs] at hinv hsn hsl
      obtain ⟨⟨k, a, o, n⟩, hx⟩ : ∃ x, x = l[i] := ⟨_, rfl⟩
      rw [← hx] at h0 h1 h2 h3 hsn hkd
      simp only at h0 h1 h2 h3 hsn hkd
      have h0' := below_cell hinv.below h0
      have h1' := below_cell hinv.below h1
      have h2' := below_cell hinv.below h2
      have h3' := below_cell hinv.below h3
      have HSN := Lib.hid hsn
      have HSL := Lib.hid hsl
      clear hsn hsl hs hx h0 h1 h2 h3 hcs
      have hbx := hinv.box
      have hla : wr.heap.size < (wr.alloc (.cells #[.int .i64 k, .int .i64 a, .int .u64 o, .int .u64 n] 31)).heap.size := by simp
      have hBa : Below wr.heap.size wr (wr.alloc (.cells #[.int .i64 k, .int .i64 a, .int .u64 o, .int .u64 n] 31)) := (Below.refl _ _).alloc (Nat.le_refl _) _
      go_wp2_with fail
      refine (on_c k a o n W.heap.size z gw cw2 gl cl2 s.1 ls s.2.1 _ hkd.1 hkd.2 (below_cell hBa hinv.box.1) (below_cell hBa hinv.box.2.1) (below_cell hBa hinv.box.2.2) (below_frozen hBa hinv.box.2.2 hinv.free) (owns_below hinv.words hBa) (owns_below hinv.lives hBa) (by rw [HSL.out.1]; exact HLEN.out) (by rw [HSL.out.1]; exact hn2) (by omega) (by omega) (owns_ne hinv.words hinv.lives (by decide) rfl rfl)).mono ?_
      rintro e w6 ⟨rfl, hkp, hbx6, hfr6, hrw6, hrl6⟩
      obtain ⟨r, hr'⟩ : ∃ r, r = accM s.1 ls s.2.1 k a o n := ⟨_, rfl⟩
      rw [← hr'] at hbx6 hrw6
      have HSN2 := Lib.hid (show runS ls ws f (l.take (i + 1)) = (r.1, r.2.1, s.2.2 ++ [r.2.2]) by rw [HSN.out, hr'])
      rw [← hr']
      clear hr' HSN
      have hkw : Keeps (fun q => q = z ∨ q = gw) wr w6 := (Keeps.alloc _ wr _).trans hkp
      have hgr6 := hkw.row hinv.gots (by intro g hg; simp [Value.ownBlock] at hg; omega)
      have hres6 := hinv.res.keeps hkw (by omega)
      have hfz6 : w6.frozen? ⟨z, 2, none⟩ = false := hfr6.2.2.trans (below_frozen hBa hinv.box.2.2 hinv.free)
      have hB6 : Below W.heap.size W w6 := hinv.below.trans (hkw.below hinv.below.size (by intro q hq; omega))
      have hgl6 : (gotRow s.2.2 l.length).length = l.length * 2 := gotRow_length _ _ (by rw [HSL.out.2]; exact hi2)
      have hg0 := hgr6.cellAt (i * 2) (by omega)
      have hg1 := hgr6.cellAt (i * 2 + 1) (by omega)
      rw [List.getElem?_eq_getElem (by omega)] at hg0 hg1
      have hgf0 := hgr6.frozenAt (i * 2)
      have hgf1 := hgr6.frozenAt (i * 2 + 1)
      obtain ⟨x0, hx0⟩ : ∃ x, x = (gotRow s.2.2 l.length)[i * 2]'(by omega) := ⟨_, rfl⟩
      obtain ⟨x1, hx1⟩ : ∃ x, x = (gotRow s.2.2 l.length)[i * 2 + 1]'(by omega) := ⟨_, rfl⟩
      rw [← hx0] at hg0
      rw [← hx1] at hg1
      obtain ⟨y, d, hyd⟩ : ∃ y d, r.2.2 = (y, d) := ⟨_, _, rfl⟩
      rw [hyd]
      rw [hyd] at HSN2
      have hrow := ((hgr6.stored (i * 2) (.int .u64 y)).1.stored (i * 2 + 1) (.bool d)).1
      rw [show i = s.2.2.length from HSL.out.2.symm, gotRow_step s.2.2 l.length (y, d) (by rw [HSL.out.2]; exact hlt)] at hrow
      rw [show s.2.2.length = i from HSL.out.2] at hrow
      obtain ⟨w7, hw7⟩ : ∃ w7 : World, w7 = (w6.setCell ⟨gg, i * 2, none⟩ (.int .u64 y)).setCell ⟨gg, i * 2 + 1, none⟩ (.bool d) := ⟨_, rfl⟩
      have hk7 : Keeps (· = gg) w6 w7 := by
        rw [hw7]
        exact (Keeps.setCell w6 (S := (· = gg)) (p := ⟨gg, i * 2, none⟩) rfl _).trans (Keeps.setCell _ (S := (· = gg)) (p := ⟨gg, i * 2 + 1, none⟩) rfl _)
      rw [← hw7] at hrow
      have hinv7 : RunInv W.heap.size z gw cw2 gl cl2 gg ls (r.1, r.2.1, s.2.2 ++ [(y, d)]) l.length W w7 :=
        ⟨⟨hk7.cell hbx6.1 (by simp; omega), hk7.cell hbx6.2.1 (by simp; omega), hk7.cell hbx6.2.2 (by simp; omega)⟩, (hk7.frozen (World.block_lt_of_cell? _ _ hbx6.2.2) (by simp; omega)).trans hfz6,
          hk7.row hrw6 (by intro g hg; simp [Value.ownBlock] at hg; omega), hk7.row hrl6 (by intro g hg; simp [Value.ownBlock] at hg; omega), hrow, hres6.keeps hk7 (by omega),
          hB6.trans (hk7.below hB6.size (by intro q hq; omega))⟩
      clear hrow hgr6 hres6 hB6 hk7 hkw hkp hbx6 hfr6 hrw6 hrl6 hx0 hx1 hyd hgl6 hbx hla hBa hinv HSL hfz6
      go_wp2
      rw [← hw7]
      go_roundw
      case rel => exact ⟨i + 1, by omega, by go_num, by rw [HSN2.out]; exact hinv7⟩
      case measure => simp [intOf]; omega
    · obtain rfl : i = l.length := by omega
      rw [List.take_length] at hinv
      obtain ⟨hb0, hb1, hb2⟩ := hinv.box
      obtain ⟨⟨hr0, hr1, hr2⟩, hs0, hs1, hs2⟩ := mbox_cells hinv.res
      have hsl := runS_length ls ws f l
      have hkr : Keeps (· = z + 1) wr (((wr.setCell ⟨z + 1, 0, none⟩ (.slice (some ⟨gw, 0, none⟩) (runS ls ws f l).1.length cw2)).setCell ⟨z + 1, 1, none⟩ (.slice (some ⟨gl, 0, none⟩) ls.length cl2)).setCell ⟨z + 1, 2, none⟩ (.bool (runS ls ws f l).2.1)) :=
        ((Keeps.setCell wr (S := (· = z + 1)) (p := ⟨z + 1, 0, none⟩) rfl _).trans (Keeps.setCell _ (S := (· = z + 1)) (p := ⟨z + 1, 1, none⟩) rfl _)).trans (Keeps.setCell _ (S := (· = z + 1)) (p := ⟨z + 1, 2, none⟩) rfl _)
      have hzwne : gw ≠ z + 1 := by have := hsz2; omega
      have hzlne : gl ≠ z + 1 := by have := hsz2; omega
      have ho1 := hkr.row hinv.words (by intro g hg; simp [Value.ownBlock] at hg; omega)
      have ho2 := hkr.row hinv.lives (by intro g hg; simp [Value.ownBlock] at hg; omega)
      have ho3 := hkr.row hinv.gots (by intro g hg; simp [Value.ownBlock] at hg; omega)
      have hBe := hinv.below.trans (hkr.below hinv.below.size (by intro q hq; omega))
      have hge : gotRow (runS ls ws f l).2.2 l.length = flatG (runS ls ws f l).2.2 := by have := gotRow_end (runS ls ws f l).2.2; rwa [hsl.2] at this
      rw [hge] at ho3
      have HSL := Lib.hid hsl
      clear hsl hge hkr hinv
      go_wp2
      refine bodyPost_ret (v := .tuple #[.agg #[.slice (some ⟨gw, 0, none⟩) (runS ls ws f l).1.length cw2, .slice (some ⟨gl, 0, none⟩) ls.length cl2, .bool (runS ls ws f l).2.1], .slice (some ⟨gg, 0, none⟩) l.length l.length, .int .i64 0]) (by simp [results, Try.results38, go_sem, hr0, hr1, hr2]) rfl ⟨⟨gw, cw2, gl, cl2, _, rfl, ho1, ho2, ?_⟩, hBe⟩
      rw [HSL.out.2]
      exact ho3

end Go.Proofs.Ytcnpmkigiklnnaa
/-
  own, of the statements of layer 2: the first 16 words of a memory, and truth values, in memory of their own; what was in memory stays.
  Conditions: the memory is one that came in.
-/
namespace Go.Proofs.Ytcnpmkigiklnnaa
open Go.RowKit Go.Shelf

/-- A slice that came in: nil, or at an address. -/
def ArgR (W : World) (v : Value) (xs : List Value) : Prop := ∃ p n c, v = .slice p n c ∧ n = xs.length ∧ ((p = none ∧ n = 0 ∧ c = 0) ∨ ∃ a : Addr, p = some a ∧ n ≤ c ∧ ∀ j u, xs[j]? = some u → W.cell? (a.add j) = some u)
/-- A slice of new memory, of whatever address. -/
def OwnsSl (B : Nat) (E : TypeId) (n : Nat) (xs : List Value) (e : Ending) (w' : World) : Prop := ∃ p' c', e = .returned (.slice p' n c') ∧ w'.ownsRow B E 1 (.slice p' n c') n xs
theorem OwnsNew.sl {B : Nat} {E : TypeId} {n : Nat} {xs : List Value} {e : Ending} {w' : World} (h : OwnsNew B E 1 n xs e w') : OwnsSl B E n xs e w' := by
  obtain ⟨v', rfl, ho⟩ := h
  rcases ho.2 with ⟨rfl, rfl⟩ | ⟨g, cap, cur, rfl, _⟩
  · exact ⟨_, _, rfl, ho⟩
  · exact ⟨_, _, rfl, ho⟩
theorem vals_take {W W' : World} {p : Option Addr} {n c : Nat} {xs : List Value} (hn : n = xs.length) (h : (p = none ∧ n = 0 ∧ c = 0) ∨ ∃ a : Addr, p = some a ∧ n ≤ c ∧ ∀ j u, xs[j]? = some u → W.cell? (a.add j) = some u) (hb : Below W.heap.size W W') :
    ValsAt W' (.slice p (min n 16) c) 1 (min n 16) (xs.take 16) := by
  refine ⟨by rw [List.length_take, hn]; omega, p, c, rfl, ?_⟩
  rcases h with ⟨rfl, rfl, rfl⟩ | ⟨a, rfl, _, hcs⟩
  · exact .inl ⟨rfl, rfl, rfl⟩
  · refine .inr ⟨a, rfl, fun j u hj => below_cell hb (hcs j u ?_)⟩
    rw [List.getElem?_take] at hj
    split at hj
    · exact hj
    · cases hj

theorem own_gives {X : World} {B : Nat} {v0 v1 : Value} {k0 k1 : Nat} {ws : List Int} {ls : List Bool} {f : Bool} (h0 : ws.length = k0) (h1 : ls.length = k1) (ho0 : X.ownsRow B 22 1 v0 k0 (ws.map (Value.int .u64))) (ho1 : X.ownsRow B 4 1 v1 k1 (ls.map Value.bool)) :
    GivesMem B ws ls f (.returned (.agg #[v0, v1, .bool f])) X := by
  subst h0
  subst h1
  exact ⟨_, rfl, _, _, rfl, ho0, ho1⟩
theorem run_cut16 {T : TypeId} (hT : Try.prog.underlying T = some (.slice (Try.prog.elem T))) (hE : ∀ wx, (sizeOf (Try.prog.elem T)).run Try.prog wx = .ok 1 wx) (p : Option Addr) (n c k : Nat) (h : k ≤ c) (wx : World) :
    (Instr.slice T (.slice p n c) none (some (.int .i64 (k : Int))) none).run Try.prog wx = .ok (.slice p k c) wx := by
  rw [run_slice_h wx T p n c hT .i64 (k : Int) (by omega) (by omega), hE]
  have : Option.map (fun x : Addr => x.add 0) p = p := by cases p <;> simp [Addr.add_zero']
  simp [sliced, Result.andThen, this]

set_option maxRecDepth 100000 in
set_option maxHeartbeats 4000000 in
theorem own_c (v0 v1 : Value) (f : Bool) (ws : List Int) (ls : List Bool) (W : World) (h0 : ArgR W v0 (ws.map (Value.int .u64))) (h1 : ArgR W v1 (ls.map Value.bool)) (hw : ws.length ≤ 9223372036854775807) (hl : ls.length ≤ 9223372036854775807) :
    Calls Try.prog 18 #[.agg #[v0, v1, .bool f]] W fun e w' => GivesMem W.heap.size (ws.take 16) (ls.take 16) f e w' ∧ Below W.heap.size W w' := by
  obtain ⟨p0, n0, c0, rfl, hn0, hp0⟩ := h0
  obtain ⟨p1, n1, c1, rfl, hn1, hp1⟩ := h1
  have HCW : ∀ W' : World, Below W.heap.size W W' → Calls Try.prog 36 #[.slice p0 (min n0 16) c0] W' fun e w' => OwnsSl W'.heap.size 22 (min n0 16) ((ws.take 16).map (Value.int .u64)) e w' ∧ Below W'.heap.size W' w' := fun W' hb => by
    have := cloneW _ _ _ W' (vals_take hn0 hp0 hb) (fun u hu => by obtain ⟨x, _, rfl⟩ := List.mem_map.1 (List.mem_of_mem_take hu); rfl) (by omega)
    rw [← List.map_take] at this
    exact this.mono fun _ _ h => ⟨h.1.sl, h.2⟩
  have HCB : ∀ W' : World, Below W.heap.size W W' → Calls Try.prog 37 #[.slice p1 (min n1 16) c1] W' fun e w' => OwnsSl W'.heap.size 4 (min n1 16) ((ls.take 16).map Value.bool) e w' ∧ Below W'.heap.size W' w' := fun W' hb => by
    have := cloneB _ _ _ W' (vals_take hn1 hp1 hb) (fun u hu => by obtain ⟨x, _, rfl⟩ := List.mem_map.1 (List.mem_of_mem_take hu); rfl) (by omega)
    rw [← List.map_take] at this
    exact this.mono fun _ _ h => ⟨h.1.sl, h.2⟩
  rw [List.length_map] at hn0 hn1
  have HL0 := Lib.hid (show (ws.take 16).length = min n0 16 by rw [List.length_take, hn0]; omega)
  have HL1 := Lib.hid (show (ls.take 16).length = min n1 16 by rw [List.length_take, hn1]; omega)
  have hnc0 : n0 ≤ c0 := by rcases hp0 with ⟨_, b, c⟩ | ⟨_, _, b, _⟩ <;> omega
  have hnc1 : n1 ≤ c1 := by rcases hp1 with ⟨_, b, c⟩ | ⟨_, _, b, _⟩ <;> omega
  obtain ⟨k0, hk0⟩ : ∃ k, k = min n0 16 := ⟨_, rfl⟩
  obtain ⟨k1, hk1⟩ : ∃ k, k = min n1 16 := ⟨_, rfl⟩
  rw [← hk0] at HCW HL0
  rw [← hk1] at HCB HL1
  have hs0 : ∀ wx, (Instr.slice 43 (.slice p0 n0 c0) none (some (.int .i64 (k0 : Int))) none).run Try.prog wx = .ok (.slice p0 k0 c0) wx := run_cut16 Try.underlying43 (fun wx => by go_simp) p0 n0 c0 k0 (by omega)
  have hs1 : ∀ wx, (Instr.slice 44 (.slice p1 n1 c1) none (some (.int .i64 (k1 : Int))) none).run Try.prog wx = .ok (.slice p1 k1 c1) wx := run_cut16 Try.underlying44 (fun wx => by go_simp) p1 n1 c1 k1 (by omega)
  have hm0 : ∀ wx, (Builtin.min_ #[3, 3] 3 #[.int .i64 (n0 : Int), .int .i64 16]).run Try.prog wx = .ok (.int .i64 (k0 : Int)) wx := fun wx => by
    have : (if (16 : Int) < (n0 : Int) then (16 : Int) else n0) = (k0 : Int) := by rw [hk0]; split <;> omega
    simp [Builtin.min_, Builtin.min2, this]
  have hm1 : ∀ wx, (Builtin.min_ #[3, 3] 3 #[.int .i64 (n1 : Int), .int .i64 16]).run Try.prog wx = .ok (.int .i64 (k1 : Int)) wx := fun wx => by
    have : (if (16 : Int) < (n1 : Int) then (16 : Int) else n1) = (k1 : Int) := by rw [hk1]; split <;> omega
    simp [Builtin.min_, Builtin.min2, this]
  have hw0 : n0 ≤ 9223372036854775807 := by omega
  have hw1 : n1 ≤ 9223372036854775807 := by omega
  clear hp0 hp1 hk0 hk1 hw hl hn0 hn1 hnc0 hnc1
  obtain ⟨wo, hwo⟩ : ∃ wo : World, wo = (W.alloc (.cells #[.slice p0 n0 c0, .slice p1 n1 c1, .bool f] 46)).alloc (.cells #[.slice none 0 0, .slice none 0 0, .bool false] 46) := ⟨_, rfl⟩
  have hW2 : Below W.heap.size W wo := by rw [hwo]; exact ((Below.refl _ _).alloc (Nat.le_refl _) _).alloc (by simp) _
  have hd0 : wo.cell? ⟨W.heap.size, 0, none⟩ = some (.slice p0 n0 c0) := by rw [hwo]; simp
  have hd1 : wo.cell? ⟨W.heap.size, 1, none⟩ = some (.slice p1 n1 c1) := by rw [hwo]; simp
  have hd2 : wo.cell? ⟨W.heap.size, 2, none⟩ = some (.bool f) := by rw [hwo]; simp
  have he0 : wo.cell? ⟨W.heap.size + 1, 0, none⟩ = some (.slice none 0 0) := by rw [hwo]; simp
  have he1 : wo.cell? ⟨W.heap.size + 1, 1, none⟩ = some (.slice none 0 0) := by rw [hwo]; simp
  have he2 : wo.cell? ⟨W.heap.size + 1, 2, none⟩ = some (.bool false) := by rw [hwo]; simp
  have hf0 : wo.frozen? ⟨W.heap.size + 1, 0, none⟩ = false := by rw [hwo]; simp
  have hf1 : wo.frozen? ⟨W.heap.size + 1, 1, none⟩ = false := by rw [hwo]; simp
  have hf2 : wo.frozen? ⟨W.heap.size + 1, 2, none⟩ = false := by rw [hwo]; simp
  have hsz : W.heap.size + 1 < wo.heap.size := by rw [hwo]; simp
  go_enter Try.func18, Try.ntmps18
  go_wp2_with fail
  rw [← hwo]
  clear hwo
  replace hW2 := hW2.drew
  go_region_held3 (fun w' => w'.cell? ⟨W.heap.size, 0, none⟩ = some (.slice p0 n0 c0) ∧ w'.cell? ⟨W.heap.size, 1, none⟩ = some (.slice p1 n1 c1) ∧ w'.cell? ⟨W.heap.size, 2, none⟩ = some (.bool f))
    (first
      | exact ⟨hd0, hd1, hd2⟩
      | go_keep
      | (go_split_ands; exact ⟨below_cell hb3 (by assumption), below_cell hb3 (by assumption), below_cell hb3 (by assumption)⟩))
    (first
      | (go_at_call 36; refine (HCW _ ?_).mono ?_; exact hW2; rintro e w3 ⟨⟨g3, c3, rfl, hown3⟩, hb3⟩; replace hf0 := below_frozen hb3 he0 hf0; replace hf1 := below_frozen hb3 he1 hf1; replace hf2 := below_frozen hb3 he2 hf2; replace he0 := below_cell hb3 he0; replace he1 := below_cell hb3 he1; replace he2 := below_cell hb3 he2; replace hW2 := below_then hW2 hW2.size hb3)
      | (go_at_call 37; refine (HCB _ ?_).mono ?_; exact hW2; rintro e w3 ⟨⟨g3, c3, rfl, hown3⟩, hb3⟩; replace hf0 := below_frozen hb3 he0 hf0; replace hf1 := below_frozen hb3 he1 hf1; replace hf2 := below_frozen hb3 he2 hf2; replace he0 := below_cell hb3 he0; replace he1 := below_cell hb3 he1; replace he2 := below_cell hb3 he2; replace hW2 := below_then hW2 hW2.size hb3))
  all_goals
    rename_i wx hbx gx cx hownx _
    have hsx : W.heap.size + 1 < wx.heap.size := Nat.lt_of_lt_of_le hsz hbx.size
    first
    | (have ho1 := (ownsRow_setCell_below (ownsRow_setCell_below (ownsRow_setCell_below (owns_below hownx hb3) (a := ⟨W.heap.size + 1, 0, none⟩) hsz (.slice gx k0 cx)) (a := ⟨W.heap.size + 1, 1, none⟩) hsz (.slice g3 k1 c3)) (a := ⟨W.heap.size + 1, 2, none⟩) hsz (.bool f)).mono (base' := W.heap.size) (by have := hsz; have := hsx; simp; omega)
       have ho2 := (ownsRow_setCell_below (ownsRow_setCell_below (ownsRow_setCell_below hown3 (a := ⟨W.heap.size + 1, 0, none⟩) hsx (.slice gx k0 cx)) (a := ⟨W.heap.size + 1, 1, none⟩) hsx (.slice g3 k1 c3)) (a := ⟨W.heap.size + 1, 2, none⟩) hsx (.bool f)).mono (base' := W.heap.size) (by have := hsz; have := hsx; simp; omega)
       have hB := ((hW2.setCell (p := ⟨W.heap.size + 1, 0, none⟩) (Nat.le_succ _) (.slice gx k0 cx)).setCell (p := ⟨W.heap.size + 1, 1, none⟩) (Nat.le_succ _) (.slice g3 k1 c3)).setCell (p := ⟨W.heap.size + 1, 2, none⟩) (Nat.le_succ _) (.bool f)
       have hG := own_gives (f := f) HL0.out HL1.out ho1 ho2
       clear hownx hown3 ho1 ho2 hs0 hs1 hm0 hm1 HCW HCB
       go_wp2
       exact bodyPost_ret (v := .agg #[.slice gx k0 cx, .slice g3 k1 c3, .bool f]) (by simp [results, Try.results18, go_sem, he0, he1, he2]) rfl ⟨hG, hB⟩)
    | (have ho1 := (ownsRow_setCell_below (ownsRow_setCell_below (ownsRow_setCell_below hown3 (a := ⟨W.heap.size + 1, 0, none⟩) hsx (.slice g3 k0 c3)) (a := ⟨W.heap.size + 1, 1, none⟩) hsx (.slice gx k1 cx)) (a := ⟨W.heap.size + 1, 2, none⟩) hsx (.bool f)).mono (base' := W.heap.size) (by have := hsz; have := hsx; simp; omega)
       have ho2 := (ownsRow_setCell_below (ownsRow_setCell_below (ownsRow_setCell_below (owns_below hownx hb3) (a := ⟨W.heap.size + 1, 0, none⟩) hsz (.slice g3 k0 c3)) (a := ⟨W.heap.size + 1, 1, none⟩) hsz (.slice gx k1 cx)) (a := ⟨W.heap.size + 1, 2, none⟩) hsz (.bool f)).mono (base' := W.heap.size) (by have := hsz; have := hsx; simp; omega)
       have hB := ((hW2.setCell (p := ⟨W.heap.size + 1, 0, none⟩) (Nat.le_succ _) (.slice g3 k0 c3)).setCell (p := ⟨W.heap.size + 1, 1, none⟩) (Nat.le_succ _) (.slice gx k1 cx)).setCell (p := ⟨W.heap.size + 1, 2, none⟩) (Nat.le_succ _) (.bool f)
       have hG := own_gives (f := f) HL0.out HL1.out ho1 ho2
       clear hownx hown3 ho1 ho2 hs0 hs1 hm0 hm1 HCW HCB
       go_wp2
       exact bodyPost_ret (v := .agg #[.slice g3 k0 c3, .slice gx k1 cx, .bool f]) (by simp [results, Try.results18, go_sem, he0, he1, he2]) rfl ⟨hG, hB⟩)

end Go.Proofs.Ytcnpmkigiklnnaa
/-
  Opening arguments of layer 2: a memory, an access, a row of three words.
  Conditions: none.
-/
namespace Go.Proofs.Ytcnpmkigiklnnaa
open Go.ChangeShapes Go.WideShapes Go.ChangeAt Go.RowKit Go.Deep Go.Joins

theorem words_argr {H : Type} {enc : TypeId × Value → H} {P : Program} {W : World} {t e : TypeId} {n : Nat} {v : Value} {y : DataW H × List MemPlace} (ht : P.underlying t = some (.slice e)) (he : P.underlying e = some (.int .u64)) (hc : P.cellsOf e = 1)
    (hf : DataW.trod enc P W 0 (fun _ => true) true n t [v] = some y) :
    ∃ ns : List Int, ArgR W v (ns.map (Value.int .u64)) ∧ WRange ns ∧ ns.length ≤ 9223372036854775807 := by
  rcases open_ints ht he hc hf with ⟨hcs, _⟩ | ⟨a, len', cap', zs, hcs, _, hl, hm, hz, _, hcell, hwz⟩
  · simp only [List.cons.injEq, and_true] at hcs
    subst hcs
    exact ⟨[], ⟨_, _, _, rfl, rfl, .inl ⟨rfl, rfl, rfl⟩⟩, (fun x hx => by cases hx), by decide⟩
  · simp only [List.cons.injEq, and_true] at hcs
    subst hcs
    simp only [if_true] at hz
    have hlen : (zs.take len').length = len' := List.length_take_of_le (by omega)
    refine ⟨zs.take len', ⟨_, _, _, rfl, by rw [List.length_map, hlen], .inr ⟨a, rfl, hl, fun j u hj => ?_⟩⟩, fun x hx => by simpa [Lit.wf, IntKind.min, IntKind.max, IntKind.signed, IntKind.bits] using hwz x (List.mem_of_mem_take hx), by rw [hlen]; unfold maxLen at hm; omega⟩
    obtain ⟨hj1, rfl⟩ := List.getElem?_eq_some_iff.1 hj
    have hj2 : j < len' := by
      have := hj1
      rw [List.length_map, hlen] at this
      exact this
    have h1 := hcell j (by omega)
    rw [List.getD_eq_getElem?_getD, List.getElem?_eq_getElem (by omega)] at h1
    simpa using h1
theorem bools_argr {H : Type} {enc : TypeId × Value → H} {P : Program} {W : World} {t e : TypeId} {n : Nat} {v : Value} {y : DataW H × List MemPlace} (ht : P.underlying t = some (.slice e)) (he : P.underlying e = some .bool) (hc : P.cellsOf e = 1)
    (hf : DataW.trod enc P W 0 (fun _ => true) true n t [v] = some y) :
    ∃ ls : List Bool, ArgR W v (ls.map Value.bool) ∧ ls.length ≤ 9223372036854775807 := by
  rcases open_bools ht he hc hf with ⟨hcs, _⟩ | ⟨a, len', cap', B, hcs, _, hl, hm, _, hcell⟩
  · simp only [List.cons.injEq, and_true] at hcs
    subst hcs
    exact ⟨[], ⟨_, _, _, rfl, rfl, .inl ⟨rfl, rfl, rfl⟩⟩, by decide⟩
  · simp only [List.cons.injEq, and_true] at hcs
    subst hcs
    refine ⟨(List.range len').map B, ⟨_, _, _, rfl, by simp, .inr ⟨a, rfl, hl, fun j u hj => ?_⟩⟩, by simp; unfold maxLen at hm; omega⟩
    obtain ⟨hj1, rfl⟩ := List.getElem?_eq_some_iff.1 hj
    have hj2 : j < len' := by simpa using hj1
    rw [hcell j (by omega)]
    simp

set_option maxRecDepth 100000 in
theorem mem_open {H : Type} {enc : TypeId × Value → H} {W : World} {base : Nat} {v : Value} {d : DataW H} {ps : List MemPlace}
    (hval : Value.okWide Try.prog W .any base 46 v) (h : DataW.Trod enc Try.prog W 0 (fun _ => true) true 46 v d ps) :
    ∃ (v0 v1 : Value) (f : Bool) (ws : List Int) (ls : List Bool), v = .agg #[v0, v1, .bool f] ∧ ArgR W v0 (ws.map (Value.int .u64)) ∧ ArgR W v1 (ls.map Value.bool) ∧ WRange ws ∧ ws.length ≤ 9223372036854775807 ∧ ls.length ≤ 9223372036854775807 := by
  obtain ⟨v0, v1, v2, y0, y1, y2, n, rfl, _, _, h0, h1, h2⟩ := open_agg3 Try.underlying46 (by kernel_rfl) (by kernel_rfl) hval h
  obtain ⟨ws, hw, hr, hl⟩ := words_argr (t := 43) Try.underlying43 Try.underlying22 (by kernel_rfl) h0
  obtain ⟨ls, hb, hl2⟩ := bools_argr (t := 44) Try.underlying44 Try.underlying4 (by kernel_rfl) h1
  obtain ⟨f, hf, _⟩ := DataW.trod_bool (t := 4) Try.underlying4 h2
  simp only [List.cons.injEq, and_true] at hf
  subst hf
  exact ⟨v0, v1, f, ws, ls, rfl, hw, hb, hr, hl, hl2⟩

/-- A number that fits in a word with a sign. -/
def I64 (x : Int) : Prop := -9223372036854775808 ≤ x ∧ x ≤ 9223372036854775807
def U64 (x : Int) : Prop := 0 ≤ x ∧ x ≤ 18446744073709551615
set_option maxRecDepth 100000 in
theorem acc_open {H : Type} {enc : TypeId × Value → H} {W : World} {base : Nat} {v : Value} {d : DataW H} {ps : List MemPlace}
    (hval : Value.okWide Try.prog W .any base 31 v) (h : DataW.Trod enc Try.prog W 0 (fun _ => true) true 31 v d ps) :
    ∃ k a o n, v = .agg #[.int .i64 k, .int .i64 a, .int .u64 o, .int .u64 n] ∧ I64 k ∧ I64 a ∧ U64 o ∧ U64 n := by
  obtain ⟨v0, v1, v2, v3, y0, y1, y2, y3, n, rfl, _, _, h0, h1, h2, h3⟩ := open_agg4 Try.underlying31 (by kernel_rfl) (by kernel_rfl) hval h
  obtain ⟨k, hk, _, wk⟩ := DataW.trod_int (t := 3) Try.underlying3 h0
  obtain ⟨a, ha, _, wa⟩ := DataW.trod_int (t := 3) Try.underlying3 h1
  obtain ⟨o, ho, _, wo⟩ := DataW.trod_int (t := 22) Try.underlying22 h2
  obtain ⟨n, hn, _, wn⟩ := DataW.trod_int (t := 22) Try.underlying22 h3
  simp only [List.cons.injEq, and_true] at hk ha ho hn
  subst hk ha ho hn
  exact ⟨k, a, o, n, rfl, by simpa [I64, Lit.wf, IntKind.min, IntKind.max, IntKind.signed, IntKind.bits] using wk, by simpa [I64, Lit.wf, IntKind.min, IntKind.max, IntKind.signed, IntKind.bits] using wa, by simpa [U64, Lit.wf, IntKind.min, IntKind.max, IntKind.signed, IntKind.bits] using wo, by simpa [U64, Lit.wf, IntKind.min, IntKind.max, IntKind.signed, IntKind.bits] using wn⟩
end Go.Proofs.Ytcnpmkigiklnnaa
/-
  Who wants a lock: where it is, what it asks for, and where it is then; plain mathematics.
  Conditions: none.
-/
namespace Go.Proofs.Ytcnpmkigiklnnaa
open Go.RowKit

/-- One who wants a lock: the lock's place, the phase, the ticket. -/
structure SpM where
  a : Int
  p : Int
  t : Int
def spV (s : SpM) : Value := .agg #[.int .i64 s.a, .int .i64 s.p, .int .u64 s.t]
def rightS (s : SpM) : Bool := decide (0 ≤ s.a) && decide (0 ≤ s.p) && decide (s.p ≤ 5) && (!decide (s.p = 0) || decide (s.t = 0))
def hasS (s : SpM) : Bool := !decide (s.p = 3) && !decide (s.p = 5)
/-- One more, of a word. -/
def incU (t : Int) : Int := IntKind.u64.wrap (t + 1)
/-- One more, of an int. -/
def incI (t : Int) : Int := wrap64 (t + 1)
/-- An access: its kind, its word, what is expected, what it will hold. -/
structure NdM where
  k : Int
  a : Int
  o : Int
  n : Int
def ndV (x : NdM) : Value := .agg #[.int .i64 x.k, .int .i64 x.a, .int .u64 x.o, .int .u64 x.n]
def needS (s : SpM) : NdM :=
  if s.p = 0 then ⟨1, s.a, 0, 0⟩ else if s.p = 1 then ⟨3, s.a, s.t, incU s.t⟩ else if s.p = 2 then ⟨1, incI s.a, 0, 0⟩ else ⟨2, incI s.a, 0, incU s.t⟩
def takeS (s : SpM) (v : Int) (d : Bool) : SpM :=
  if s.p = 1 then (if d = true then ⟨s.a, 2, s.t⟩ else ⟨s.a, 0, 0⟩)
  else if d = false then s
  else if s.p = 0 then ⟨s.a, 1, v⟩
  else if s.p = 2 then (if v = s.t then ⟨s.a, 3, s.t⟩ else s)
  else if s.p = 4 then ⟨s.a, 5, s.t⟩ else s
/-- In the range of Go's words, and ints. -/
structure SpR (s : SpM) : Prop where
  a0 : -9223372036854775808 ≤ s.a
  a1 : s.a ≤ 9223372036854775807
  p0 : -9223372036854775808 ≤ s.p
  p1 : s.p ≤ 9223372036854775807
  t0 : 0 ≤ s.t
  t1 : s.t ≤ 18446744073709551615
theorem rightS_iff {s : SpM} : rightS s = true ↔ 0 ≤ s.a ∧ (s.p = 0 ∧ s.t = 0 ∨ s.p = 1 ∨ s.p = 2 ∨ s.p = 3 ∨ s.p = 4 ∨ s.p = 5) := by
  simp only [rightS, Bool.and_eq_true, Bool.or_eq_true, Bool.not_eq_true', decide_eq_true_eq, decide_eq_false_iff_not]
  omega
theorem incU_rng (t : Int) : 0 ≤ incU t ∧ incU t ≤ 18446744073709551615 := by
  unfold incU
  simp only [IntKind.wrap, IntKind.signed, IntKind.bits]
  simp
  omega
theorem takeS_rng {s : SpM} (h : SpR s) {v : Int} (hv0 : 0 ≤ v) (hv1 : v ≤ 18446744073709551615) (d : Bool) : SpR (takeS s v d) := by
  obtain ⟨h1, h2, h3, h4, h5, h6⟩ := h
  unfold takeS
  repeat' split
  all_goals exact ⟨by first | assumption | omega, by first | assumption | omega, by first | assumption | (simp; done) | omega, by first | assumption | (simp; done) | omega, by first | assumption | (simp; done) | omega, by first | assumption | (simp; done) | omega⟩
theorem takeS_right {s : SpM} (h : rightS s = true) (v : Int) (d : Bool) : rightS (takeS s v d) = true := by
  obtain ⟨ha, hp⟩ := rightS_iff.1 h
  rw [rightS_iff]
  unfold takeS
  repeat' split
  all_goals simp_all
theorem takeS_a (s : SpM) (v : Int) (d : Bool) : (takeS s v d).a = s.a := by
  unfold takeS
  repeat' split
  all_goals rfl

end Go.Proofs.Ytcnpmkigiklnnaa
/-
  Opening arguments of layer 5: one who wants a lock, and a row of what accesses came to.
  Conditions: none.
-/
namespace Go.Proofs.Ytcnpmkigiklnnaa
open Go.ChangeShapes Go.WideShapes Go.ChangeAt Go.RowKit Go.Deep Go.Joins

set_option maxRecDepth 100000 in
theorem spin_open {H : Type} {enc : TypeId × Value → H} {W : World} {base : Nat} {v : Value} {d : DataW H} {ps : List MemPlace}
    (hval : Value.okWide Try.prog W .any base 24 v) (h : DataW.Trod enc Try.prog W 0 (fun _ => true) true 24 v d ps) :
    ∃ s : SpM, v = .agg #[.int .i64 s.a, .int .i64 s.p, .int .u64 s.t] ∧ SpR s := by
  obtain ⟨v0, v1, v2, y0, y1, y2, n, rfl, _, _, h0, h1, h2⟩ := open_agg3 Try.underlying24 (by kernel_rfl) (by kernel_rfl) hval h
  obtain ⟨a, ha, _, wa⟩ := DataW.trod_int (t := 3) Try.underlying3 h0
  obtain ⟨p, hp, _, wp⟩ := DataW.trod_int (t := 3) Try.underlying3 h1
  obtain ⟨t, ht, _, wt⟩ := DataW.trod_int (t := 22) Try.underlying22 h2
  simp only [List.cons.injEq, and_true] at ha hp ht
  subst ha hp ht
  have ha : I64 a := by simpa [I64, Lit.wf, IntKind.min, IntKind.max, IntKind.signed, IntKind.bits] using wa
  have hp : I64 p := by simpa [I64, Lit.wf, IntKind.min, IntKind.max, IntKind.signed, IntKind.bits] using wp
  have ht : U64 t := by simpa [U64, Lit.wf, IntKind.min, IntKind.max, IntKind.signed, IntKind.bits] using wt
  exact ⟨⟨a, p, t⟩, rfl, by constructor <;> first | exact ha.1 | exact ha.2 | exact hp.1 | exact hp.2 | exact ht.1 | exact ht.2⟩

set_option maxRecDepth 100000 in
theorem gots_open {H : Type} {enc : TypeId × Value → H} {W : World} {base : Nat} {v : Value} {d : DataW H} {ps : List MemPlace}
    (hval : Value.okWide Try.prog W .any base 25 v) (h : DataW.Trod enc Try.prog W 0 (fun _ => true) true 25 v d ps) :
    ∃ gs : List (Int × Bool), GotsAt W v gs ∧ gs.length ≤ 9223372036854775807 := by
  obtain ⟨a0, len, cap, rfl⟩ := okWide_slice Try.underlying25 hval
  obtain ⟨fuel, hf⟩ := h
  have hce : Try.prog.cellsOf 36 = 2 := by kernel_rfl
  have hcb : Try.prog.cellsOf 4 = 1 := by kernel_rfl
  have hcu : Try.prog.cellsOf 22 = 1 := by kernel_rfl
  rcases open_slice Try.underlying25 hf with ⟨hcs, _⟩ | ⟨a, len', cap', m, n, D, Pl, hcs, _, hl, hm, hmm, _, hall⟩
  · simp [Value.cells] at hcs
    obtain ⟨rfl, rfl, rfl⟩ := hcs
    exact ⟨[], ⟨_, _, rfl, fun h => absurd rfl h⟩, by decide⟩
  · simp [Value.cells] at hcs
    obtain ⟨rfl, rfl, rfl⟩ := hcs
    simp only [if_true] at hmm
    have hone : ∀ i, i < len → ∃ g : Int × Bool, W.cell? (a.add (i * 2)) = some (.int .u64 g.1) ∧ W.cell? (a.add (i * 2 + 1)) = some (.bool g.2) := by
      intro i hi
      obtain ⟨cs', hc, ht⟩ := hall i (by omega)
      rw [hce] at hc
      obtain ⟨_, hcl, hat⟩ := World.cells?_some hc
      obtain ⟨xs, k, _, _, _, hlx, hx⟩ := DataW.trod_struct Try.underlying36 ht
      have hlx : xs.length = 2 := hlx
      match cs', hcl with
      | [c0, c1], _ =>
        have h0 : DataW.trod enc Try.prog W 0 (fun _ => true) true k 22 (([c0, c1].drop 0).take (Try.prog.cellsOf 22)) = xs[0]? := hx 0 _ rfl
        have h1 : DataW.trod enc Try.prog W 0 (fun _ => true) true k 4 (([c0, c1].drop 1).take (Try.prog.cellsOf 4)) = xs[1]? := hx 1 _ rfl
        rw [hcu] at h0
        rw [hcb] at h1
        simp only [List.drop_zero, List.take_succ_cons, List.take_zero, List.drop_succ_cons] at h0 h1
        rw [List.getElem?_eq_getElem (by omega)] at h0 h1
        have e0 := hat 0 (by decide)
        have e1 := hat 1 (by decide)
        rw [Go.Deep.add_add] at e0 e1
        obtain ⟨x0, y0, _, _⟩ := DataW.trod_int Try.underlying22 h0
        obtain ⟨x1, y1, _⟩ := DataW.trod_bool (t := 4) Try.underlying4 h1
        simp only [List.cons.injEq, and_true] at y0 y1
        subst y0 y1
        exact ⟨(x0, x1), by simpa using e0, by simpa using e1⟩
    obtain ⟨F, hF⟩ := choose_lt hone
    have hlen : ((List.range len).map F).length = len := by simp
    refine ⟨(List.range len).map F, ⟨_, _, by rw [hlen], fun hne => ?_⟩, by rw [hlen]; unfold maxLen at hm; omega⟩
    have hpos : 0 < len := by
      rcases Nat.eq_zero_or_pos len with e | e
      · subst e; exact absurd rfl hne
      · exact e
    obtain ⟨b, off, sp⟩ := a
    have hspot : sp = none := by
      have h0 := (hF 0 hpos).1
      simp only [Nat.zero_mul, Addr.add, if_true, World.cell?] at h0
      split at h0
      · cases sp with
        | none => rfl
        | some x => simp at h0
      · cases h0
    subst hspot
    refine ⟨b, off, rfl, fun i hi => ?_⟩
    have hi2 : i < len := by rw [hlen] at hi; exact hi
    have hg : ((List.range len).map F)[i] = F i := by simp
    rw [hg]
    have h2 := hF i hi2
    rw [addr_add_off, addr_add_off] at h2
    exact ⟨h2.1, h2.2⟩
end Go.Proofs.Ytcnpmkigiklnnaa
namespace Go.Proofs.Ytcnpmkigiklnnaa
open Go.RowKit Go.Shelf

theorem below1 (W : World) (o1 : Obj) : Below W.heap.size W (W.alloc o1) := (Below.refl _ _).alloc (Nat.le_refl _) _
theorem below2 (W : World) (o1 o2 : Obj) : Below W.heap.size W ((W.alloc o1).alloc o2) := (below1 W o1).alloc (by simp) _
theorem below3 (W : World) (o1 o2 o3 : Obj) : Below W.heap.size W (((W.alloc o1).alloc o2).alloc o3) := (below2 W o1 o2).alloc (by simp; omega) _
theorem below4 (W : World) (o1 o2 o3 o4 : Obj) : Below W.heap.size W ((((W.alloc o1).alloc o2).alloc o3).alloc o4) := (below3 W o1 o2 o3).alloc (by simp; omega) _
theorem below5 (W : World) (o1 o2 o3 o4 o5 : Obj) : Below W.heap.size W (((((W.alloc o1).alloc o2).alloc o3).alloc o4).alloc o5) := (below4 W o1 o2 o3 o4).alloc (by simp; omega) _
theorem below6 (W : World) (o1 o2 o3 o4 o5 o6 : Obj) : Below W.heap.size W ((((((W.alloc o1).alloc o2).alloc o3).alloc o4).alloc o5).alloc o6) := (below5 W o1 o2 o3 o4 o5).alloc (by simp; omega) _

set_option maxRecDepth 100000 in
set_option maxHeartbeats 2000000 in
theorem qcheck_no (s : SpM) (h : rightS s = false) (W : World) : Calls Try.prog 10 #[spV s] W fun e w' => e = .returned (.int .i64 150) ∧ Below W.heap.size W w' := by
  obtain ⟨a, p, t⟩ := s
  have hc : a < 0 ∨ (¬ a < 0 ∧ p < 0) ∨ (¬ a < 0 ∧ ¬ p < 0 ∧ 5 < p) ∨ (¬ a < 0 ∧ p = 0 ∧ t ≠ 0) := by
    have := h
    simp [rightS] at this
    omega
  clear h
  unfold spV
  rcases hc with h1 | ⟨h1, h2⟩ | ⟨h1, h2, h3⟩ | ⟨h1, rfl, h3⟩
  · go_enter Try.func10, Try.ntmps10
    go_wp2
    go_ret
    exact ⟨rfl, by first | exact below1 _ _ | exact below2 _ _ _ | exact below3 _ _ _ _ | exact below4 _ _ _ _ _ | exact below5 _ _ _ _ _ _ | exact below6 _ _ _ _ _ _ _⟩
  · go_enter Try.func10, Try.ntmps10
    go_wp2
    go_ret
    exact ⟨rfl, by first | exact below1 _ _ | exact below2 _ _ _ | exact below3 _ _ _ _ | exact below4 _ _ _ _ _ | exact below5 _ _ _ _ _ _ | exact below6 _ _ _ _ _ _ _⟩
  · go_enter Try.func10, Try.ntmps10
    go_wp2
    go_ret
    exact ⟨rfl, by first | exact below1 _ _ | exact below2 _ _ _ | exact below3 _ _ _ _ | exact below4 _ _ _ _ _ | exact below5 _ _ _ _ _ _ | exact below6 _ _ _ _ _ _ _⟩
  · have h4 : (t != 0) = true := by rw [bne_iff_ne]; exact h3
    clear h3
    go_enter Try.func10, Try.ntmps10
    go_wp2
    go_ret
    exact ⟨rfl, by first | exact below1 _ _ | exact below2 _ _ _ | exact below3 _ _ _ _ | exact below4 _ _ _ _ _ | exact below5 _ _ _ _ _ _ | exact below6 _ _ _ _ _ _ _⟩
set_option maxRecDepth 100000 in
set_option maxHeartbeats 2000000 in
theorem qcheck_yes (s : SpM) (h : rightS s = true) (W : World) : Calls Try.prog 10 #[spV s] W fun e w' => e = .returned (.int .i64 0) ∧ Below W.heap.size W w' := by
  obtain ⟨a, p, t⟩ := s
  obtain ⟨h1, h2⟩ := rightS_iff.1 h
  simp only at h1 h2
  have h0 : ¬ a < 0 := by omega
  clear h
  unfold spV
  rcases h2 with ⟨rfl, rfl⟩ | rfl | rfl | rfl | rfl | rfl
  all_goals
    go_enter Try.func10, Try.ntmps10
    go_wp2
    go_ret
    exact ⟨rfl, by first | exact below1 _ _ | exact below2 _ _ _ | exact below3 _ _ _ _ | exact below4 _ _ _ _ _ | exact below5 _ _ _ _ _ _ | exact below6 _ _ _ _ _ _ _⟩

end Go.Proofs.Ytcnpmkigiklnnaa
