/-
  turn, of a play of package spin: the step of one who is picked; what lies outside the play stays.
  Conditions: the play lies so; there is such a one; all may be.
-/
import Derived.Test.YtcledklajcdfiaaQStep
namespace Go.Proofs.Ytcledklajcdfiaa
open Go.RowKit Go.Shelf
attribute [local go_sem] spV ndV
attribute [local go_sem] Oper.semAt_some

set_option maxRecDepth 100000 in
set_option maxHeartbeats 4000000 in
theorem qturn_no (B r g n i : Nat) (ls : List Bool) (P : PlM) (W : World) (h : PlayAt W B r g ls P n) (hi : i < n) (hn : n ≤ 1099511627776) (hok : PlOk ls P) (hB : B ≤ W.heap.size) (hp : (P.ss.getD i dS).p ≠ 3) :
    Calls Try.prog 44 #[.pointer (some ⟨r, 0, none⟩), .int .i64 (i : Int)] W fun e w' => e = .returned (.tuple #[]) ∧ PlayAt w' B r g ls (turnP ls P i) n ∧ Keeps (fun q => q = r ∨ q = g) W w' := by
  obtain ⟨x, y, h⟩ := h
  have hil : i < P.ss.length := by rw [h.len]; exact hi
  have hmem := getD_mem hil
  obtain ⟨s, hs⟩ : ∃ s, s = P.ss.getD i dS := ⟨_, rfl⟩
  have hsa := hok.may _ hmem
  have hsr := hok.sr _ hmem
  rw [← hs] at hsa hsr hp
  have HLV := Lib.hid (qleave_no s hsa hp W)
  have HT := Lib.hid (show turnP ls P i = stepP ls P i by
    unfold turnP
    have e : leaveS (P.ss.getD i dS) = P.ss.getD i dS := by unfold leaveS; rw [← hs, if_neg hp]
    rw [e]
    have e2 : P.ss.set i (P.ss.getD i dS) = P.ss := by
      rw [List.getD_eq_getElem?_getD, List.getElem?_eq_getElem hil]; exact List.set_getElem_self hil
    rw [e2])
  obtain ⟨⟨c0, c1, c2⟩, hfz, hg⟩ := h.cell hi
  rw [← hs] at c0 c1 c2
  obtain ⟨k0, k1, k2, k3⟩ := h.box.cells
  obtain ⟨sa, sp, st⟩ := s
  simp only [spV] at HLV c0 c1 c2
  have HP := Lib.hid (show PlayAt W B r g ls P n from ⟨x, y, h⟩)
  have HST := Lib.hid (fun (Z : World) (hz : PlayAt Z B r g ls P n) (hb : B ≤ Z.heap.size) => qstep B r g n i ls P Z hz hi hn hok hb)
  clear hs h hok hil hfz k0 k1 k2 hmem hsa hsr hp
  go_enter Try.func44, Try.ntmps44
  go_wp2_with fail
  refine HLV.out.mono ?_
  rintro e w1 ⟨rfl, hb⟩
  obtain ⟨w2, hw2⟩ : ∃ w : World, w = w1.alloc (.cells #[.int .i64 0, .int .i64 0, .int .u64 0] 24) := ⟨_, rfl⟩
  have hb2 : Below W.heap.size W w2 := by rw [hw2]; exact below_then hb hb.size (below1 _ _)
  have HP2 := Lib.hid (HP.out.below hb2)
  have HB2 := Lib.hid hb2
  have HE := Lib.hid hw2
  clear hb hb2 hw2 HLV HP c0 c1 c2 k3
  go_upto_region 3 with (fail)
  rw [← HE.out]
  go_wp2_with fail
  refine (HST.out w2 HP2.out (Nat.le_trans hB HB2.out.size)).mono ?_
  rintro e w3 ⟨rfl, hP3, hk3⟩
  have HF := Lib.hid (show PlayAt w3 B r g ls (turnP ls P i) n ∧ Keeps (fun q => q = r ∨ q = g) W w3 from ⟨by rw [HT.out]; exact hP3, (Keeps.of_below HB2.out).trans hk3⟩)
  clear hP3 hk3 HST HP2 HB2 HE
  go_wp2
  go_end0
  exact ⟨rfl, HF.out⟩
set_option maxRecDepth 100000 in
set_option maxHeartbeats 4000000 in
theorem qturn_yes (B r g n i : Nat) (ls : List Bool) (P : PlM) (W : World) (h : PlayAt W B r g ls P n) (hi : i < n) (hn : n ≤ 1099511627776) (hok : PlOk ls P) (hB : B ≤ W.heap.size) (hp : (P.ss.getD i dS).p = 3) :
    Calls Try.prog 44 #[.pointer (some ⟨r, 0, none⟩), .int .i64 (i : Int)] W fun e w' => e = .returned (.tuple #[]) ∧ PlayAt w' B r g ls (turnP ls P i) n ∧ Keeps (fun q => q = r ∨ q = g) W w' := by
  obtain ⟨x, y, h⟩ := h
  have hil : i < P.ss.length := by rw [h.len]; exact hi
  have hmem := getD_mem hil
  obtain ⟨s, hs⟩ : ∃ s, s = P.ss.getD i dS := ⟨_, rfl⟩
  have hsa := hok.may _ hmem
  have hsr := hok.sr _ hmem
  rw [← hs] at hsa hsr hp
  have HLV := Lib.hid (qleave_held s hsa hp W)
  have hlv : leaveS s = ⟨s.a, 4, s.t⟩ := by unfold leaveS; rw [if_pos hp]
  have hpo := hok.put i (leaveS_ok hsa hsr).1 (leaveS_ok hsa hsr).2
  rw [hlv] at hpo
  have HT := Lib.hid (show turnP ls P i = stepP ls ⟨P.ws, P.f, P.ss.set i ⟨s.a, 4, s.t⟩⟩ i by unfold turnP; rw [← hs, hlv])
  obtain ⟨⟨c0, c1, c2⟩, hfz, hg⟩ := h.cell hi
  rw [← hs] at c0 c1 c2
  obtain ⟨k0, k1, k2, k3⟩ := h.box.cells
  obtain ⟨sa, sp, st⟩ := s
  simp only [spV] at HLV c0 c1 c2 HT hpo
  have HP := Lib.hid h
  have HST := Lib.hid (fun (Z : World) (hz : PlayAt Z B r g ls ⟨P.ws, P.f, P.ss.set i ⟨sa, 4, st⟩⟩ n) (hb : B ≤ Z.heap.size) => qstep B r g n i ls _ Z hz hi hn hpo hb)
  have hrg : r ≠ g := h.ne
  have hrl : r < W.heap.size := h.box.lt
  clear hs h hok hil hfz k0 k1 k2 hmem hsa hsr hp hlv hpo
  go_enter Try.func44, Try.ntmps44
  go_wp2_with fail
  refine HLV.out.mono ?_
  rintro e w1 ⟨rfl, hb⟩
  obtain ⟨z, hz⟩ : ∃ z, z = w1.heap.size := ⟨_, rfl⟩
  obtain ⟨w2, hw2⟩ : ∃ w : World, w = w1.alloc (.cells #[.int .i64 sa, .int .i64 4, .int .u64 st] 24) := ⟨_, rfl⟩
  have hb2 : Below W.heap.size W w2 := by rw [hw2]; exact below_then hb hb.size (below1 _ _)
  have HSB := Lib.hid (show SpBox w2 z sa 4 st by rw [hw2, hz]; exact World.alloc_heap_new _ _)
  have hzW : W.heap.size ≤ z := by rw [hz]; exact hb.size
  have HP2 := Lib.hid (HP.out.below hb2)
  have HB2 := Lib.hid hb2
  have HE := Lib.hid (And.intro hw2 hz)
  clear hb hb2 hw2 hz HLV HP c0 c1 c2 k3
  go_upto_region 2 with (fail)
  rw [← HE.out.1, ← HE.out.2]
  refine wpTwo_begin (T := fun w' => w'.cell? ⟨r, 3, none⟩ = some (.slice (some ⟨g, 0, none⟩) n n) ∧ SpBox w' z sa 4 st) (S := fun _ => True) (late := fun j => [7].contains j) (by kernel_rfl) ?_
  obtain ⟨X0, hX0⟩ : ∃ X : World, X = w2.drew := ⟨_, rfl⟩
  rw [← hX0]
  have hbX : Below w2.heap.size w2 X0 := by rw [hX0]; exact (Below.refl _ _).drew
  have hT := And.intro (below_cell hbX HP2.out.box.cells.2.2.2) (HSB.out.below hbX)
  have HP3 := Lib.hid (HP2.out.below hbX)
  have HB3 := Lib.hid (below_then HB2.out HB2.out.size hbX)
  clear hX0 hbX HP2 HSB HB2 HE
  refine wpTwo_takeT (i := 0) (v := .pointer (some ⟨r, 0, none⟩)) rfl (by kernel_rfl) (by kernel_rfl) (by kernel_rfl) (fun _ _ _ h => h) ⟨by rfl, ?_⟩ hT ?_
  · rintro w hTw
    go_simp
  (try simp only [Act.put, List.getElem_toArray, List.getElem_cons_zero, List.setIfInBounds_toArray, List.set_cons_succ, List.set_cons_zero])
  refine wpTwo_takeT (i := 1) (v := .pointer (some ⟨r, 0, none⟩)) rfl (by kernel_rfl) (by kernel_rfl) (by kernel_rfl) (fun _ _ _ h => h) ⟨by rfl, ?_⟩ hT ?_
  · rintro w hTw
    go_simp
  (try simp only [Act.put, List.getElem_toArray, List.getElem_cons_succ, List.getElem_cons_zero, List.setIfInBounds_toArray, List.set_cons_succ, List.set_cons_zero])
  refine wpTwo_takeT (i := 2) (v := .pointer (some ⟨r, 3, none⟩)) rfl (by kernel_rfl) (by kernel_rfl) (by kernel_rfl) (fun _ _ _ h => h) ⟨by rfl, ?_⟩ hT ?_
  · rintro w hTw
    go_simp
  (try simp only [Act.put, List.getElem_toArray, List.getElem_cons_succ, List.getElem_cons_zero, List.setIfInBounds_toArray, List.set_cons_succ, List.set_cons_zero])
  refine wpTwo_takeT (i := 3) (v := .slice (some ⟨g, 0, none⟩) n n) rfl (by kernel_rfl) (by kernel_rfl) (by kernel_rfl) (fun _ _ _ h => h) ⟨by rfl, ?_⟩ hT ?_
  · rintro w ⟨t0, t1⟩
    go_simp
  (try simp only [Act.put, List.getElem_toArray, List.getElem_cons_succ, List.getElem_cons_zero, List.setIfInBounds_toArray, List.set_cons_succ, List.set_cons_zero])
  refine wpTwo_takeT (i := 4) (v := .int .i64 (i : Int)) rfl (by kernel_rfl) (by kernel_rfl) (by kernel_rfl) (fun _ _ _ h => h) ⟨by rfl, ?_⟩ hT ?_
  · rintro w hTw
    go_simp
  (try simp only [Act.put, List.getElem_toArray, List.getElem_cons_succ, List.getElem_cons_zero, List.setIfInBounds_toArray, List.set_cons_succ, List.set_cons_zero])
  refine wpTwo_takeT (i := 5) (v := .agg #[.int .i64 sa, .int .i64 4, .int .u64 st]) rfl (by kernel_rfl) (by kernel_rfl) (by kernel_rfl) (fun _ _ _ h => h) ⟨by rfl, ?_⟩ hT ?_
  · rintro w ⟨-, hGw⟩
    obtain ⟨t0, t1, t2⟩ := SpBox.cells hGw
    go_simp
  (try simp only [Act.put, List.getElem_toArray, List.getElem_cons_succ, List.getElem_cons_zero, List.setIfInBounds_toArray, List.set_cons_succ, List.set_cons_zero])
  have hii : (i : Int) < (n : Int) := by omega
  refine wpTwo_takeT (i := 6) (v := .pointer (some ⟨g, i * 3, none⟩)) rfl (by kernel_rfl) (by kernel_rfl) (by kernel_rfl) (fun _ _ _ h => h) ⟨by rfl, ?_⟩ hT ?_
  · rintro w hTw
    go_simp
  (try simp only [Act.put, List.getElem_toArray, List.getElem_cons_succ, List.getElem_cons_zero, List.setIfInBounds_toArray, List.set_cons_succ, List.set_cons_zero])
  refine wpTwo_ready (rs := [7]) (by kernel_rfl) (by simp) ?_
  refine (AllTwo.cons rfl (fun K hK => ?_) AllTwo.nil)
  obtain ⟨⟨s0, s1, s2⟩, hfz, hgl⟩ := HP3.out.cell hi
  have hf0 := hfz (i * 3)
  have hf1 := hfz (i * 3 + 1)
  have hf2 := hfz (i * 3 + 2)
  obtain ⟨X1, hX1⟩ : ∃ X : World, X = ((X0.setCell ⟨g, i * 3, none⟩ (.int .i64 sa)).setCell ⟨g, i * 3 + 1, none⟩ (.int .i64 4)).setCell ⟨g, i * 3 + 2, none⟩ (.int .u64 st) := ⟨_, rfl⟩
  obtain ⟨hPF, hkF⟩ := HP3.out.put ⟨sa, 4, st⟩ hX1
  have hgz : ¬ z = g := fun e => by have := HP3.out.places.lt g rfl; have := hg; omega
  have hT1 := And.intro (hkF.cell hT.1 (show ¬ r = g from hrg)) (hT.2.keeps hkF hgz)
  have HP4 := Lib.hid (show PlayAt X1 B r g ls ⟨P.ws, P.f, P.ss.set i ⟨sa, 4, st⟩⟩ n from ⟨_, _, hPF⟩)
  have HK4 := Lib.hid (show Keeps (fun q => q = r ∨ q = g) W X1 from (Keeps.of_below HB3.out).trans (hkF.sub (fun q _ hq => .inr hq)))
  go_simp
  rw [← hX1]
  refine hK.out _ _ ⟨hT1, fun _ _ => trivial⟩ ?_
  clear hK K s0 s1 s2 hf0 hf1 hf2 hfz hX1 hPF hkF HP3 HB3 hT hT1
  (try simp only [Act.put, List.getElem_toArray, List.getElem_cons_succ, List.getElem_cons_zero, List.setIfInBounds_toArray, List.set_cons_succ, List.set_cons_zero])
  refine wpTwo_end (by kernel_rfl) ?_ _
  go_wp2_with fail
  refine (HST.out X1 HP4.out (Nat.le_trans hB HK4.out.size)).mono ?_
  rintro e w3 ⟨rfl, hP3, hk3⟩
  have HF := Lib.hid (show PlayAt w3 B r g ls (turnP ls P i) n ∧ Keeps (fun q => q = r ∨ q = g) W w3 from ⟨by rw [HT.out]; exact hP3, HK4.out.trans hk3⟩)
  clear hP3 hk3 HST HP4 HK4
  go_wp2
  go_end0
  exact ⟨rfl, HF.out⟩
theorem qturn (B r g n i : Nat) (ls : List Bool) (P : PlM) (W : World) (h : PlayAt W B r g ls P n) (hi : i < n) (hn : n ≤ 1099511627776) (hok : PlOk ls P) (hB : B ≤ W.heap.size) :
    Calls Try.prog 44 #[.pointer (some ⟨r, 0, none⟩), .int .i64 (i : Int)] W fun e w' => e = .returned (.tuple #[]) ∧ PlayAt w' B r g ls (turnP ls P i) n ∧ Keeps (fun q => q = r ∨ q = g) W w' := by
  by_cases hp : (P.ss.getD i dS).p = 3
  · exact qturn_yes B r g n i ls P W h hi hn hok hB hp
  · exact qturn_no B r g n i ls P W h hi hn hok hB hp

end Go.Proofs.Ytcledklajcdfiaa
