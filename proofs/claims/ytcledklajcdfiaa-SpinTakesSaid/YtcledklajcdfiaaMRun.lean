/-
  memory.Run and memory.Step: what accesses come to, one behind the other; what was in memory stays.
  Conditions: the memory and the accesses read as these lists.
-/
import Derived.Test.YtcledklajcdfiaaMOnC
import Derived.Test.YtcledklajcdfiaaMEvery
import Derived.Test.YtcledklajcdfiaaMEqual
import Derived.Deep.CutBlock
import Derived.Deep.DeepCutAuto
namespace Go.Proofs.Ytcledklajcdfiaa
open Go.RowKit Go.Shelf

/-- The words, the fault and the answers behind accesses, one behind the other. -/
def runS (ls : List Bool) (ws : List Int) (f : Bool) (l : List Acc) : List Int × Bool × List (Int × Bool) :=
  l.foldl (fun s x => let r := accM s.1 ls s.2.1 x.k x.a x.o x.n; (r.1, r.2.1, s.2.2 ++ [r.2.2])) (ws, f, [])
theorem runS_nil (ls : List Bool) (ws : List Int) (f : Bool) : runS ls ws f [] = (ws, f, []) := rfl
theorem runS_snoc (ls : List Bool) (ws : List Int) (f : Bool) (l : List Acc) (x : Acc) :
    runS ls ws f (l ++ [x]) = (let s := runS ls ws f l; let r := accM s.1 ls s.2.1 x.k x.a x.o x.n; (r.1, r.2.1, s.2.2 ++ [r.2.2])) := by simp [runS]
theorem runS_length (ls : List Bool) (ws : List Int) (f : Bool) (l : List Acc) : (runS ls ws f l).1.length = ws.length ∧ (runS ls ws f l).2.2.length = l.length := by
  suffices ∀ (l : List Acc) (s : List Int × Bool × List (Int × Bool)), (l.foldl (fun s x => let r := accM s.1 ls s.2.1 x.k x.a x.o x.n; (r.1, r.2.1, s.2.2 ++ [r.2.2])) s).1.length = s.1.length ∧
      (l.foldl (fun s x => let r := accM s.1 ls s.2.1 x.k x.a x.o x.n; (r.1, r.2.1, s.2.2 ++ [r.2.2])) s).2.2.length = s.2.2.length + l.length by
    have h := this l (ws, f, [])
    simpa [runS] using h
  intro l
  induction l with
  | nil => intro s; exact ⟨rfl, rfl⟩
  | cons x l ih =>
    intro s
    have h := ih (let r := accM s.1 ls s.2.1 x.k x.a x.o x.n; (r.1, r.2.1, s.2.2 ++ [r.2.2]))
    simp only [List.foldl_cons]
    refine ⟨h.1.trans (accM_length ..), h.2.trans ?_⟩
    simp
    omega

/-- Answers that stand, with as many as there is room for. -/
def gotRow (gs : List (Int × Bool)) (n : Nat) : List Value := flatG (gs ++ List.replicate (n - gs.length) (0, false))
theorem flatG_set : ∀ (l : List (Int × Bool)) (i : Nat) (x : Int × Bool), ((flatG l).set (i * 2) (.int .u64 x.1)).set (i * 2 + 1) (.bool x.2) = flatG (l.set i x)
  | [], _, _ => by simp [flatG]
  | f :: r, 0, x => rfl
  | f :: r, i + 1, x => by
    rw [show (i + 1) * 2 = i * 2 + 1 + 1 by omega]
    simp only [flatG, List.set_cons_succ]
    rw [flatG_set r i x]
theorem gotRow_step (gs : List (Int × Bool)) (n : Nat) (x : Int × Bool) (h : gs.length < n) :
    ((gotRow gs n).set (gs.length * 2) (.int .u64 x.1)).set (gs.length * 2 + 1) (.bool x.2) = gotRow (gs ++ [x]) n := by
  unfold gotRow
  rw [flatG_set, List.set_append_right _ _ (Nat.le_refl _), Nat.sub_self, show n - gs.length = (n - (gs ++ [x]).length) + 1 by simp; omega, List.replicate_succ, List.set_cons_zero, List.append_assoc]
  rfl
theorem gotRow_end (gs : List (Int × Bool)) : gotRow gs gs.length = flatG gs := by simp [gotRow]
theorem gotRow_length (gs : List (Int × Bool)) (n : Nat) (h : gs.length ≤ n) : (gotRow gs n).length = n * 2 := by
  unfold gotRow
  rw [flatG_length]
  simp
  omega
theorem flatG_replicate (n : Nat) : flatG (List.replicate n (0, false)) = (madeCells (Value.agg #[.int .u64 0, .bool false]).cells (n * 2)).toList := by
  refine List.ext_getElem (by simp [flatG_length, madeCells]) fun j h1 h2 => ?_
  rw [flatG_length, List.length_replicate] at h1
  have hj : j / 2 < (List.replicate n ((0 : Int), false)).length := by simp; omega
  have hg := flatG_get (List.replicate n (0, false)) (j / 2) hj
  rcases Nat.mod_two_eq_zero_or_one j with e | e
  · have := hg.1
    rw [show j / 2 * 2 = j by omega, List.getElem?_eq_some_iff] at this
    rw [this.2]
    simp [madeCells, Value.cells, e]
  · have := hg.2
    rw [show j / 2 * 2 + 1 = j by omega, List.getElem?_eq_some_iff] at this
    rw [this.2]
    simp [madeCells, Value.cells, e]

theorem got_info : (Try.prog.info? 36).map (fun i => (i.zero, i.size, i.bytes)) = some (some (.agg #[.int .u64 0, .bool false]), 2, 16) := by kernel_rfl
def memZ : Value := .agg #[.slice none 0 0, .slice none 0 0, .bool false]

set_option maxRecDepth 100000 in
set_option maxHeartbeats 2000000 in
theorem run_bad (v v1 : Value) (ws : List Int) (ls : List Bool) (f : Bool) (W : World) (hv : MemAt W v ws ls f) (hw : ws.length ≤ 9223372036854775807) (hr : rightB ws ls = false) (h1 : ∃ p n c, v1 = .slice p n c) :
    Calls Try.prog 38 #[v, v1] W fun e w' => e = .returned (.tuple #[memZ, .slice none 0 0, .int .i64 120]) ∧ Below W.heap.size W w' := by
  have hm := hv
  obtain ⟨vw, vl, rfl, ⟨pw, cw, rfl, hcw⟩, pl, cl, rfl, hcl⟩ := hv
  obtain ⟨p1, n1, c1, rfl⟩ := h1
  have HM := Lib.hid hm
  clear hm hcw hcl
  have HR := Lib.hid (MBox.new (W.alloc (.cells #[.slice pw ws.length cw, .slice pl ls.length cl, .bool f] 46)) (.slice none 0 0) (.slice none 0 0) false)
  rw [World.size_alloc] at HR
  go_enter Try.func38, Try.ntmps38
  go_wp2_with fail
  have hB : Below W.heap.size W ((W.alloc (.cells #[.slice pw ws.length cw, .slice pl ls.length cl, .bool f] 46)).alloc (.cells #[.slice none 0 0, .slice none 0 0, .bool false] 46)) := ((Below.refl _ _).alloc (Nat.le_refl _) _).alloc (by simp) _
  refine (check_c _ ws ls f _ (HM.out.below hB) hw).mono ?_
  rintro e w1 ⟨rfl, hb1⟩
  rw [chkM_no hr]
  obtain ⟨⟨hr0, hr1, hr2⟩, hs0, hs1, hs2⟩ := mbox_cells (HR.out.below hb1)
  have hB1 := below_then hB hB.size hb1
  clear hb1
  go_wp2
  exact bodyPost_ret (v := .tuple #[memZ, .slice none 0 0, .int .i64 120]) (by simp [results, Try.results38, go_sem, hr0, hr1, hr2, memZ]) rfl ⟨rfl, ((hB1.setCell (p := ⟨W.heap.size + 1, 0, none⟩) (Nat.le_succ _) _).setCell (p := ⟨W.heap.size + 1, 1, none⟩) (Nat.le_succ _) _).setCell (p := ⟨W.heap.size + 1, 2, none⟩) (Nat.le_succ _) _⟩

theorem own_form {X : World} {B : Nat} {E : TypeId} {s : Nat} {v : Value} {n : Nat} {xs : List Value} (h : X.ownsRow B E s v n xs) (hn : 0 < n) : ∃ g cap, v = .slice (some ⟨g, 0, none⟩) n cap ∧ B ≤ g ∧ g < X.heap.size := by
  rcases h.2 with ⟨_, h0⟩ | ⟨g, cap, cur, rfl, hb, hc, _⟩
  · omega
  · exact ⟨g, cap, rfl, hb, (Array.getElem?_eq_some_iff.1 hc).1⟩

set_option maxRecDepth 100000 in
set_option maxHeartbeats 2000000 in
theorem run_kind (v v1 : Value) (ws : List Int) (ls : List Bool) (f : Bool) (l : List Acc) (W : World) (hv : MemAt W v ws ls f) (hw : ws.length ≤ 9223372036854775807) (hr : rightB ws ls = true) (hA : AccsAt W v1 l) (hmax : l.length ≤ 4611686018427387904) (hk : kindAll l = false) :
    Calls Try.prog 38 #[v, v1] W fun e w' => e = .returned (.tuple #[memZ, .slice none 0 0, .int .i64 121]) ∧ Below W.heap.size W w' := by
  have hm := hv
  have ha := hA
  obtain ⟨vw, vl, rfl, ⟨pw, cw, rfl, hcw⟩, pl, cl, rfl, hcl⟩ := hv
  obtain ⟨p1, c1, rfl, hc1⟩ := hA
  have HM := Lib.hid hm
  have HA := Lib.hid ha
  clear hm hcw hcl hc1 ha
  have HR := Lib.hid (MBox.new (W.alloc (.cells #[.slice pw ws.length cw, .slice pl ls.length cl, .bool f] 46)) (.slice none 0 0) (.slice none 0 0) false)
  rw [World.size_alloc] at HR
  have hB : Below W.heap.size W ((W.alloc (.cells #[.slice pw ws.length cw, .slice pl ls.length cl, .bool f] 46)).alloc (.cells #[.slice none 0 0, .slice none 0 0, .bool false] 46)) := ((Below.refl _ _).alloc (Nat.le_refl _) _).alloc (by simp) _
  go_enter Try.func38, Try.ntmps38
  go_wp2_with fail
  refine (check_c _ ws ls f _ (HM.out.below hB) hw).mono ?_
  rintro e w1 ⟨rfl, hb1⟩
  rw [chkM_yes hr]
  have HR1 := Lib.hid (HR.out.below hb1)
  have hB1 := below_then hB hB.size hb1
  clear hb1
  go_wp2_with fail
  refine (everyA_c _ l _ (accs_below HA.out hB1) hmax).mono ?_
  rintro e w2 ⟨rfl, hb2⟩
  rw [hk]
  obtain ⟨⟨hr0, hr1, hr2⟩, hs0, hs1, hs2⟩ := mbox_cells (HR1.out.below hb2)
  have hB2 := below_then hB1 hB1.size hb2
  clear hb2
  go_wp2
  exact bodyPost_ret (v := .tuple #[memZ, .slice none 0 0, .int .i64 121]) (by simp [results, Try.results38, go_sem, hr0, hr1, hr2, memZ]) rfl ⟨rfl, ((hB2.setCell (p := ⟨W.heap.size + 1, 0, none⟩) (Nat.le_succ _) _).setCell (p := ⟨W.heap.size + 1, 1, none⟩) (Nat.le_succ _) _).setCell (p := ⟨W.heap.size + 1, 2, none⟩) (Nat.le_succ _) _⟩

/-- What Run hands over. -/
def RunOk (B : Nat) (ls : List Bool) (s : List Int × Bool × List (Int × Bool)) (e : Ending) (w' : World) : Prop :=
  ∃ gw cw gl cl vg, e = .returned (.tuple #[.agg #[.slice (some ⟨gw, 0, none⟩) s.1.length cw, .slice (some ⟨gl, 0, none⟩) ls.length cl, .bool s.2.1], vg, .int .i64 0]) ∧
  w'.ownsRow B 22 1 (.slice (some ⟨gw, 0, none⟩) s.1.length cw) s.1.length (s.1.map (Value.int .u64)) ∧ w'.ownsRow B 4 1 (.slice (some ⟨gl, 0, none⟩) ls.length cl) ls.length (ls.map Value.bool) ∧
  w'.ownsRow B 36 2 vg s.2.2.length (flatG s.2.2)

/-- What holds at the head of Run's loop. -/
structure RunInv (B z gw cw gl cl gg : Nat) (ls : List Bool) (s : List Int × Bool × List (Int × Bool)) (n : Nat) (W w : World) : Prop where
  box : (w.cell? ⟨z, 0, none⟩ = some (.slice (some ⟨gw, 0, none⟩) s.1.length cw) ∧ w.cell? ⟨z, 1, none⟩ = some (.slice (some ⟨gl, 0, none⟩) ls.length cl) ∧ w.cell? ⟨z, 2, none⟩ = some (.bool s.2.1))
  free : w.frozen? ⟨z, 2, none⟩ = false
  words : w.ownsRow B 22 1 (.slice (some ⟨gw, 0, none⟩) s.1.length cw) s.1.length (s.1.map (Value.int .u64))
  lives : w.ownsRow B 4 1 (.slice (some ⟨gl, 0, none⟩) ls.length cl) ls.length (ls.map Value.bool)
  gots : w.ownsRow B 36 2 (.slice (some ⟨gg, 0, none⟩) n n) n (gotRow s.2.2 n)
  res : MBox w (z + 1) (.slice none 0 0) (.slice none 0 0) false
  below : Below W.heap.size W w

set_option maxRecDepth 100000 in
set_option maxHeartbeats 4000000 in
theorem run_yes (v v1 : Value) (ws : List Int) (ls : List Bool) (f : Bool) (l : List Acc) (W : World) (hv : MemAt W v ws ls f) (hr : rightB ws ls = true) (hA : AccsAt W v1 l) (hmax : l.length ≤ 1099511627776) (hk : kindAll l = true) :
    Calls Try.prog 38 #[v, v1] W fun e w' => RunOk W.heap.size ls (runS ls ws f l) e w' ∧ Below W.heap.size W w' := by
  obtain ⟨hn1, hn2, hlen, hmay⟩ := rightB_iff.1 hr
  clear hmay
  have hm := hv
  have ha := hA
  obtain ⟨vw, vl, rfl, ⟨pw, cw, rfl, hcw⟩, pl, cl, rfl, hcl⟩ := hv
  obtain ⟨p1, c1, rfl, hc1⟩ := hA
  obtain ⟨i0, hi, hz0, hz1, hz2⟩ := info_parts got_info
  have HM := Lib.hid hm
  have HA := Lib.hid ha
  have HLEN := Lib.hid hlen
  clear hm hcw hcl ha hlen
  obtain ⟨z, hz⟩ : ∃ z, z = W.heap.size := ⟨_, rfl⟩
  obtain ⟨wo, hwo⟩ : ∃ wo : World, wo = (W.alloc (.cells #[.slice pw ws.length cw, .slice pl ls.length cl, .bool f] 46)).alloc (.cells #[.slice none 0 0, .slice none 0 0, .bool false] 46) := ⟨_, rfl⟩
  have hZ : MBox wo z (.slice pw ws.length cw) (.slice pl ls.length cl) f := by rw [hwo, hz]; exact (MBox.new _ _ _ _).alloc _
  have hR : MBox wo (z + 1) (.slice none 0 0) (.slice none 0 0) false := by
    have := MBox.new (W.alloc (.cells #[.slice pw ws.length cw, .slice pl ls.length cl, .bool f] 46)) (.slice none 0 0) (.slice none 0 0) false
    rw [World.size_alloc] at this
    rw [hwo, hz]; exact this
  have hB : Below W.heap.size W wo := by rw [hwo]; exact ((Below.refl _ _).alloc (Nat.le_refl _) _).alloc (by simp) _
  have hsz : z + 2 ≤ wo.heap.size := by rw [hwo, hz]; simp
  have HZ := Lib.hid hZ
  have HR := Lib.hid hR
  obtain ⟨⟨hd0, hd1, hd2⟩, _⟩ := mbox_cells hZ
  clear hZ hR
  go_enter Try.func38, Try.ntmps38
  go_wp2_with fail
  rw [← hwo, ← hz]
  have HZW := Lib.hid hz
  clear hwo hz
  refine (check_c _ ws ls f _ (HM.out.below hB) (by omega)).mono ?_
  rintro e w1 ⟨rfl, hb1⟩
  rw [chkM_yes hr]
  have HZ1 := Lib.hid (HZ.out.below hb1)
  have HR1 := Lib.hid (HR.out.below hb1)
  have hB1 := below_then hB hB.size hb1
  have hsz1 := Nat.le_trans hsz hb1.size
  clear hb1 HZ HR hB hsz hd0 hd1 hd2
  go_wp2_with fail
  refine (everyA_c _ l _ (accs_below HA.out hB1) (by omega)).mono ?_
  rintro e w2 ⟨rfl, hb2⟩
  rw [hk]
  have HZ2 := Lib.hid (HZ1.out.below hb2)
  have HR2 := Lib.hid (HR1.out.below hb2)
  have hB2 := below_then hB1 hB1.size hb2
  have hsz2 := Nat.le_trans hsz1 hb2.size
  clear hb2 HZ1 HR1 hB1 hsz1
  obtain ⟨⟨hd0, hd1, hd2⟩, _⟩ := mbox_cells HZ2.out
  go_wp2_with fail
  refine (double_c _ ws ls f _ (HM.out.below hB2) (by omega) (by rw [HLEN.out]; omega) (by omega) (by rw [HLEN.out]; omega)).mono ?_
  rintro e w3 ⟨⟨_, rfl, vw2, vl2, rfl, how, hol⟩, hb3⟩
  obtain ⟨gw, cw2, rfl, hgw, hgw3⟩ := own_form how (by omega)
  obtain ⟨gl, cl2, rfl, hgl, hgl3⟩ := own_form hol (by rw [HLEN.out]; omega)
  have HZ3 := Lib.hid (HZ2.out.below hb3)
  have HR3 := Lib.hid (HR2.out.below hb3)
  have hB3 := below_then hB2 hB2.size hb3
  have hsz3 := Nat.le_trans hsz2 hb3.size
  have HOW := Lib.hid how
  have HOL := Lib.hid hol
  clear hb3 HZ2 HR2 hB2 hd0 hd1 hd2 how hol
  obtain ⟨⟨hd0, hd1, hd2⟩, he0, he1, he2⟩ := mbox_cells HZ3.out
  go_upto_region 7 with fail
  obtain ⟨w4, hw4⟩ : ∃ w4 : World, w4 = ((w3.setCell ⟨z, 0, none⟩ (.slice (some ⟨gw, 0, none⟩) ws.length cw2)).setCell ⟨z, 1, none⟩ (.slice (some ⟨gl, 0, none⟩) ls.length cl2)).setCell ⟨z, 2, none⟩ (.bool f) := ⟨_, rfl⟩
  rw [← hw4]
  have hzz : z < W.heap.size + 1 := by rw [HZW.out]; exact Nat.lt_succ_self _
  have hkz : Keeps (· = z) w3 w4 := by
    rw [hw4]
    exact ((Keeps.setCell w3 (S := (· = z)) (p := ⟨z, 0, none⟩) rfl _).trans (Keeps.setCell _ (S := (· = z)) (p := ⟨z, 1, none⟩) rfl _)).trans (Keeps.setCell _ (S := (· = z)) (p := ⟨z, 2, none⟩) rfl _)
  have HZ4 := Lib.hid (show MBox w4 z (.slice (some ⟨gw, 0, none⟩) ws.length cw2) (.slice (some ⟨gl, 0, none⟩) ls.length cl2) f by rw [hw4]; exact HZ3.out.set _ _ _)
  have HR4 := Lib.hid (HR3.out.keeps hkz (by simp))
  have hzg : z < gw := by omega
  have hzgl : z < gl := by omega
  have HOW4 := Lib.hid (hkz.row HOW.out (by intro g hg; simp [Value.ownBlock] at hg; omega))
  have HOL4 := Lib.hid (hkz.row HOL.out (by intro g hg; simp [Value.ownBlock] at hg; omega))
  have hB4 : Below W.heap.size W w4 := hB3.trans (hkz.below hB3.size (fun q hq => by rw [hq]; exact Nat.le_of_eq HZW.out.symm))
  have hsz4 := Nat.le_trans hsz3 hkz.size
  have hsz34 := hkz.size
  clear hw4 hkz hd0 hd1 hd2 he0 he1 he2 HZ3 HR3 HOW HOL hB3 hsz3
  obtain ⟨w5, hrun, hown5, hgrow5⟩ := run_make_full (P := Try.prog) w4 w4.heap.size 25 36 i0 (.agg #[.int .u64 0, .bool false]) 2 Try.underlying25 hi hz0 hz1 .i64 .i64 l.length (by rw [hz2]; omega) (by unfold maxLen; omega) (Nat.le_refl _)
  rw [← flatG_replicate] at hown5
  obtain ⟨gg, hgg⟩ : ∃ g, g = w4.heap.size := ⟨_, rfl⟩
  rw [← hgg] at hrun hown5
  have HOG5 := Lib.hid hown5
  have hk5 : Below w4.heap.size w4 w5 := (Below.refl _ _).grown hgrow5 (Nat.le_refl _) (fun k e => by cases e)
  have HZ5 := Lib.hid (HZ4.out.below hk5)
  have HR5 := Lib.hid (HR4.out.below hk5)
  have HOW5 := Lib.hid (owns_below HOW4.out hk5)
  have HOL5 := Lib.hid (owns_below HOL4.out hk5)
  have hB5 := below_then hB4 hB4.size hk5
  clear hown5 hgrow5 hk5 HZ4 HR4 HOW4 HOL4
  have hgz : z + 1 < gg := by omega
  have hggw : gw < gg := by omega
  have hggl : gl < gg := by omega
  go_wp2_with fail
  rw [← hgg]
  have hzW : W.heap.size ≤ z := Nat.le_of_eq HZW.out.symm
  have hinv0 : RunInv W.heap.size z gw cw2 gl cl2 gg ls (ws, f, []) l.length W w5 :=
    ⟨(mbox_cells HZ5.out).1, (mbox_cells HZ5.out).2.2.2, HOW5.out.mono (by omega), HOL5.out.mono (by omega), by have := HOG5.out.mono (base' := W.heap.size) (by omega); simpa [gotRow] using this, HR5.out, hB5⟩
  clear hrun HZ5 HR5 HOW5 HOL5 HOG5 hB5 hB4 hgg hi hz0 hz1 hz2
  have HAC := Lib.hid hc1
  clear hc1
  go_loopw [28] (fun iv wr => ∃ i : Nat, i ≤ l.length ∧ iv = .int .i64 i ∧ RunInv W.heap.size z gw cw2 gl cl2 gg ls (runS ls ws f (l.take i)) l.length W wr) (fun iv _ => l.length - (intOf iv).toNat)
  case atStart => exact ⟨0, Nat.zero_le _, rfl, hinv0⟩
  case round =>
    obtain ⟨i, hi2, rfl, hinv⟩ := hrel
    by_cases hlt : i < l.length
    · obtain ⟨b, off, rfl, hcs⟩ := HAC.out (by intro e; rw [e] at hlt; cases hlt)
      obtain ⟨h0, h1, h2, h3⟩ := hcs i hlt
      have hsn := runS_snoc ls ws f (l.take i) l[i]
      rw [← List.take_succ_eq_append_getElem hlt] at hsn
      have hsl := runS_length ls ws f (l.take i)
      rw [List.length_take, Nat.min_eq_left hi2] at hsl
      have hkd := kindB_iff.1 (List.all_eq_true.1 hk l[i] (List.getElem_mem hlt))
      obtain ⟨s, hs⟩ : ∃ s, s = runS ls ws f (l.take i) := ⟨_, rfl⟩
      rw [← hs] at hinv hsn hsl
      obtain ⟨⟨k, a, o, n⟩, hx⟩ : ∃ x, x = l[i] := ⟨_, rfl⟩
      rw [← hx] at h0 h1 h2 h3 hsn hkd
      simp only at h0 h1 h2 h3 hsn hkd
      have h0' := below_cell hinv.below h0
      have h1' := below_cell hinv.below h1
      have h2' := below_cell hinv.below h2
      have h3' := below_cell hinv.below h3
      have HSN := Lib.hid hsn
      have HSL := Lib.hid hsl
      clear hsn hsl hs hx h0 h1 h2 h3 hcs
      have hbx := hinv.box
      have hla : wr.heap.size < (wr.alloc (.cells #[.int .i64 k, .int .i64 a, .int .u64 o, .int .u64 n] 31)).heap.size := by simp
      have hBa : Below wr.heap.size wr (wr.alloc (.cells #[.int .i64 k, .int .i64 a, .int .u64 o, .int .u64 n] 31)) := (Below.refl _ _).alloc (Nat.le_refl _) _
      go_wp2_with fail
      refine (on_c k a o n W.heap.size z gw cw2 gl cl2 s.1 ls s.2.1 _ hkd.1 hkd.2 (below_cell hBa hinv.box.1) (below_cell hBa hinv.box.2.1) (below_cell hBa hinv.box.2.2) (below_frozen hBa hinv.box.2.2 hinv.free) (owns_below hinv.words hBa) (owns_below hinv.lives hBa) (by rw [HSL.out.1]; exact HLEN.out) (by rw [HSL.out.1]; exact hn2) (by omega) (by omega) (owns_ne hinv.words hinv.lives (by decide) rfl rfl)).mono ?_
      rintro e w6 ⟨rfl, hkp, hbx6, hfr6, hrw6, hrl6⟩
      obtain ⟨r, hr'⟩ : ∃ r, r = accM s.1 ls s.2.1 k a o n := ⟨_, rfl⟩
      rw [← hr'] at hbx6 hrw6
      have HSN2 := Lib.hid (show runS ls ws f (l.take (i + 1)) = (r.1, r.2.1, s.2.2 ++ [r.2.2]) by rw [HSN.out, hr'])
      rw [← hr']
      clear hr' HSN
      have hkw : Keeps (fun q => q = z ∨ q = gw) wr w6 := (Keeps.alloc _ wr _).trans hkp
      have hgr6 := hkw.row hinv.gots (by intro g hg; simp [Value.ownBlock] at hg; omega)
      have hres6 := hinv.res.keeps hkw (by omega)
      have hfz6 : w6.frozen? ⟨z, 2, none⟩ = false := hfr6.2.2.trans (below_frozen hBa hinv.box.2.2 hinv.free)
      have hB6 : Below W.heap.size W w6 := hinv.below.trans (hkw.below hinv.below.size (by intro q hq; omega))
      have hgl6 : (gotRow s.2.2 l.length).length = l.length * 2 := gotRow_length _ _ (by rw [HSL.out.2]; exact hi2)
      have hg0 := hgr6.cellAt (i * 2) (by omega)
      have hg1 := hgr6.cellAt (i * 2 + 1) (by omega)
      rw [List.getElem?_eq_getElem (by omega)] at hg0 hg1
      have hgf0 := hgr6.frozenAt (i * 2)
      have hgf1 := hgr6.frozenAt (i * 2 + 1)
      obtain ⟨x0, hx0⟩ : ∃ x, x = (gotRow s.2.2 l.length)[i * 2]'(by omega) := ⟨_, rfl⟩
      obtain ⟨x1, hx1⟩ : ∃ x, x = (gotRow s.2.2 l.length)[i * 2 + 1]'(by omega) := ⟨_, rfl⟩
      rw [← hx0] at hg0
      rw [← hx1] at hg1
      obtain ⟨y, d, hyd⟩ : ∃ y d, r.2.2 = (y, d) := ⟨_, _, rfl⟩
      rw [hyd]
      rw [hyd] at HSN2
      have hrow := ((hgr6.stored (i * 2) (.int .u64 y)).1.stored (i * 2 + 1) (.bool d)).1
      rw [show i = s.2.2.length from HSL.out.2.symm, gotRow_step s.2.2 l.length (y, d) (by rw [HSL.out.2]; exact hlt)] at hrow
      rw [show s.2.2.length = i from HSL.out.2] at hrow
      obtain ⟨w7, hw7⟩ : ∃ w7 : World, w7 = (w6.setCell ⟨gg, i * 2, none⟩ (.int .u64 y)).setCell ⟨gg, i * 2 + 1, none⟩ (.bool d) := ⟨_, rfl⟩
      have hk7 : Keeps (· = gg) w6 w7 := by
        rw [hw7]
        exact (Keeps.setCell w6 (S := (· = gg)) (p := ⟨gg, i * 2, none⟩) rfl _).trans (Keeps.setCell _ (S := (· = gg)) (p := ⟨gg, i * 2 + 1, none⟩) rfl _)
      rw [← hw7] at hrow
      have hinv7 : RunInv W.heap.size z gw cw2 gl cl2 gg ls (r.1, r.2.1, s.2.2 ++ [(y, d)]) l.length W w7 :=
        ⟨⟨hk7.cell hbx6.1 (by simp; omega), hk7.cell hbx6.2.1 (by simp; omega), hk7.cell hbx6.2.2 (by simp; omega)⟩, (hk7.frozen (World.block_lt_of_cell? _ _ hbx6.2.2) (by simp; omega)).trans hfz6,
          hk7.row hrw6 (by intro g hg; simp [Value.ownBlock] at hg; omega), hk7.row hrl6 (by intro g hg; simp [Value.ownBlock] at hg; omega), hrow, hres6.keeps hk7 (by omega),
          hB6.trans (hk7.below hB6.size (by intro q hq; omega))⟩
      clear hrow hgr6 hres6 hB6 hk7 hkw hkp hbx6 hfr6 hrw6 hrl6 hx0 hx1 hyd hgl6 hbx hla hBa hinv HSL hfz6
      go_wp2
      rw [← hw7]
      go_roundw
      case rel => exact ⟨i + 1, by omega, by go_num, by rw [HSN2.out]; exact hinv7⟩
      case measure => simp [intOf]; omega
    · obtain rfl : i = l.length := by omega
      rw [List.take_length] at hinv
      obtain ⟨hb0, hb1, hb2⟩ := hinv.box
      obtain ⟨⟨hr0, hr1, hr2⟩, hs0, hs1, hs2⟩ := mbox_cells hinv.res
      have hsl := runS_length ls ws f l
      have hkr : Keeps (· = z + 1) wr (((wr.setCell ⟨z + 1, 0, none⟩ (.slice (some ⟨gw, 0, none⟩) (runS ls ws f l).1.length cw2)).setCell ⟨z + 1, 1, none⟩ (.slice (some ⟨gl, 0, none⟩) ls.length cl2)).setCell ⟨z + 1, 2, none⟩ (.bool (runS ls ws f l).2.1)) :=
        ((Keeps.setCell wr (S := (· = z + 1)) (p := ⟨z + 1, 0, none⟩) rfl _).trans (Keeps.setCell _ (S := (· = z + 1)) (p := ⟨z + 1, 1, none⟩) rfl _)).trans (Keeps.setCell _ (S := (· = z + 1)) (p := ⟨z + 1, 2, none⟩) rfl _)
      have hzwne : gw ≠ z + 1 := by have := hsz2; omega
      have hzlne : gl ≠ z + 1 := by have := hsz2; omega
      have ho1 := hkr.row hinv.words (by intro g hg; simp [Value.ownBlock] at hg; omega)
      have ho2 := hkr.row hinv.lives (by intro g hg; simp [Value.ownBlock] at hg; omega)
      have ho3 := hkr.row hinv.gots (by intro g hg; simp [Value.ownBlock] at hg; omega)
      have hBe := hinv.below.trans (hkr.below hinv.below.size (by intro q hq; omega))
      have hge : gotRow (runS ls ws f l).2.2 l.length = flatG (runS ls ws f l).2.2 := by have := gotRow_end (runS ls ws f l).2.2; rwa [hsl.2] at this
      rw [hge] at ho3
      have HSL := Lib.hid hsl
      clear hsl hge hkr hinv
      go_wp2
      refine bodyPost_ret (v := .tuple #[.agg #[.slice (some ⟨gw, 0, none⟩) (runS ls ws f l).1.length cw2, .slice (some ⟨gl, 0, none⟩) ls.length cl2, .bool (runS ls ws f l).2.1], .slice (some ⟨gg, 0, none⟩) l.length l.length, .int .i64 0]) (by simp [results, Try.results38, go_sem, hr0, hr1, hr2]) rfl ⟨⟨gw, cw2, gl, cl2, _, rfl, ho1, ho2, ?_⟩, hBe⟩
      rw [HSL.out.2]
      exact ho3

end Go.Proofs.Ytcledklajcdfiaa
