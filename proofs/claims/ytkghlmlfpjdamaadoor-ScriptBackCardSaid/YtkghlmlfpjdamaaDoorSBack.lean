/-
  ScriptBack returns true for every script, and row of words; what was in memory stays.
  Conditions: the script and the words lie so; the package's table of parts is as it was laid.
-/
import Derived.Test.YtkghlmlfpjdamaaDoorSBack0
namespace Go.Proofs.YtkghlmlfpjdamaaDoor
open Go.RowKit Go.Shelf
attribute [local go_sem] Oper.semAt_some

set_option maxRecDepth 100000 in
set_option maxHeartbeats 8000000 in
theorem scriptBack_walk (v : Value) (s : SM) (p8 : Option Addr) (n8 d8 : Nat) (ws : List Nat) (W : World) (hs : SAt W v s) (hw : WAt W p8 n8 d8 ws) (hn8 : n8 ≤ 9223372036854775807) (hT : Tab W) (hro : RowsOk s.ls)
    (hll : ∀ l ∈ s.ls, l.length ≤ 9223372036854775807) (hln : s.ls.length ≤ 9223372036854775807) (hpn : s.ps.length ≤ 9223372036854775807) :
    Calls Tryd.prog 5 #[v, .slice p8 n8 d8] W fun e w' => e = .returned (.bool true) ∧ Below W.heap.size W w' := by
  obtain ⟨k, hk⟩ : ∃ k, k = min n8 600 := ⟨_, rfl⟩
  have hkn : k ≤ n8 := by omega
  have hk2 : k ≤ 600 := by omega
  have hm : ∀ w, (Builtin.min_ #[3, 3] 3 #[.int .i64 (n8 : Int), .int .i64 600]).run Tryd.prog w = .ok (.int .i64 (k : Int)) w := run_minI n8 k 600 hk
  have hcut := run_cutU p8 n8 d8 k (Nat.le_trans hkn hw.room)
  have HT := Lib.hid hT
  have HWS := Lib.hid hw
  have HSS := Lib.hid (And.intro hll (And.intro hln hpn))
  obtain ⟨p, n, cp, q, m, d, rfl, h1, h2⟩ := hs
  have HS0 := Lib.hid (And.intro h1 h2)
  obtain ⟨w0, hw0⟩ : ∃ X : World, X = W.alloc (.cells #[.int .i64 s.c, .int .i64 s.g, .slice p n cp, .slice q m d] 25) := ⟨_, rfl⟩
  have hb0 : Below W.heap.size W w0 := by rw [hw0]; exact (Below.refl _ _).alloc (Nat.le_refl _) _
  obtain ⟨y, hy⟩ : ∃ y, y = W.heap.size := ⟨_, rfl⟩
  have hbx : SBlk w0 y s.c s.g p n cp q m d := by rw [hw0, hy]; exact SBlk.new _ _ _ _ _ _ _ _ _
  have HWK := Lib.hid (wakes_c w0 (hT.below hb0))
  have HE := Lib.hid (And.intro hw0 hy)
  have HB0 := Lib.hid hb0
  have HBX0 := Lib.hid hbx
  clear h1 h2 hT hw hll hln hpn hk hw0 hy hb0 hbx
  go_enter Tryd.func5, Tryd.ntmps5
  go_upto_region 1 with (fail)
  rw [← HE.out.1, ← HE.out.2]
  go_wp2_with fail
  refine HWK.out.mono ?_
  rintro e w1 ⟨rfl, hb1⟩
  have HB1 := Lib.hid (below_then HB0.out HB0.out.size hb1)
  have hw1s := HB1.out.size
  obtain ⟨ha0, ha1, ha2, ha3⟩ := (HBX0.out.below hb1).cells
  have HOW := Lib.hid (own_c (.agg #[.int .i64 s.c, .int .i64 s.g, .slice p n cp, .slice q m d]) s w1 ⟨_, _, _, _, _, _, rfl, HS0.out.1.below HB1.out, HS0.out.2.below HB1.out⟩ HSS.out.1 HSS.out.2.1 HSS.out.2.2)
  clear hb1 HWK HBX0 HB0 HE
  go_wp2_with fail
  refine HOW.out.mono ?_
  rintro e w2 ⟨⟨v', rfl, hS⟩, hb2⟩
  obtain ⟨p2, n2, c2, q2, m2, d2, rfl, h1, h2⟩ := hS
  obtain ⟨a, ha⟩ : ∃ a, a = ownS s := ⟨_, rfl⟩
  rw [← ha] at h1 h2
  rw [← ha]
  have hfew : Few a := by rw [ha]; exact ownS_few s
  have HFA := Lib.hid hfew
  have HAO := Lib.hid (show RowsOk a.ls by rw [ha]; exact ownS_rows hro)
  have HB2 := Lib.hid (below_then HB1.out hw1s hb2)
  have hw2s := HB2.out.size
  obtain ⟨w3, hw3⟩ : ∃ X : World, X = w2.alloc (.cells #[.int .i64 a.c, .int .i64 a.g, .slice p2 n2 c2, .slice q2 m2 d2] 25) := ⟨_, rfl⟩
  have hb3 : Below w2.heap.size w2 w3 := by rw [hw3]; exact (Below.refl _ _).alloc (Nat.le_refl _) _
  obtain ⟨y3, hy3⟩ : ∃ y, y = w2.heap.size := ⟨_, rfl⟩
  have hbx : SBlk w3 y3 a.c a.g p2 n2 c2 q2 m2 d2 := by rw [hw3, hy3]; exact SBlk.new _ _ _ _ _ _ _ _ _
  have HBX3 := Lib.hid hbx
  have HLA := Lib.hid (And.intro (h1.below hb3) (h2.below hb3))
  have HB3 := Lib.hid (below_then HB2.out hw2s hb3)
  have hw3s := HB3.out.size
  have HOF := Lib.hid (ofAny_c _ a w3 ⟨_, _, _, _, _, _, rfl, HLA.out.1, HLA.out.2⟩ (HT.out.below HB3.out) hfew)
  have HE := Lib.hid (And.intro hw3 hy3)
  clear hw3 hy3 hbx hb3 hb2 h1 h2 hfew ha hro ha0 ha1 ha2 ha3 HOW
  obtain ⟨hc0, hc1, hc2, hc3⟩ := HBX3.out.cells
  go_upto_region 4 with (fail)
  rw [← HE.out.1, ← HE.out.2]
  go_wp2_with fail
  refine HOF.out.mono ?_
  rintro e w4 ⟨hO, hb4⟩
  have HB4 := Lib.hid (below_then HB3.out hw3s hb4)
  have hw4s := HB4.out.size
  unfold OfPost at hO
  cases hsb : scriptB a.c a.g (a.ls.map List.length) a.ps with
  | false =>
    rw [hsb, if_neg (by decide)] at hO
    subst hO
    clear hc0 hc1 hc2 hc3 hb4 hsb HOF HE
    go_upto_region 5 with (fail)
    go_quiet (fail)
    all_goals go_upto_region 7 with (fail)
    obtain ⟨x0, hx0⟩ : ∃ X : World, X = w4.drewN nq := ⟨_, rfl⟩
    have HBX := Lib.hid (show Below W.heap.size W x0 by rw [hx0]; exact below_drewN HB4.out _)
    rw [← hx0]
    clear hx0
    have HXT := Lib.hid (HT.out.below HBX.out)
    have HRD := Lib.hid (read_c p8 k d8 (ws.take k) x0 ((HWS.out.below HBX.out).take k hkn) HXT.out)
    obtain ⟨r, hr⟩ : ∃ r, r = readL (ws.take k) := ⟨_, rfl⟩
    have hok : okS r := by rw [hr]; exact read_ok _
    have HRO := Lib.hid (show RowsOk r.ls by rw [hr]; exact readL_rows (fun x hx => HWS.out.big x (List.mem_of_mem_take hx)))
    rw [← hr] at HRD
    have HOK := Lib.hid hok
    have HFW := Lib.hid (okS_few hok)
    have HSB := Lib.hid ((okS_iff r).2 hok)
    clear hr hok
    go_wp2_with fail
    refine HRD.out.mono ?_
    rintro e x1 ⟨hG, hb⟩
    obtain ⟨p1, n1, c1, q1, m1, d1, rfl, hl1, hp1⟩ := hG.sat
    have HB1 := Lib.hid (below_then HBX.out HBX.out.size hb)
    have hxs := HB1.out.size
    obtain ⟨x2, hx2⟩ : ∃ X : World, X = x1.alloc (.cells #[.int .i64 r.c, .int .i64 r.g, .slice p1 n1 c1, .slice q1 m1 d1] 25) := ⟨_, rfl⟩
    have hb2 : Below x1.heap.size x1 x2 := by rw [hx2]; exact (Below.refl _ _).alloc (Nat.le_refl _) _
    obtain ⟨yb, hyb⟩ : ∃ y, y = x1.heap.size := ⟨_, rfl⟩
    have hbx : SBlk x2 yb r.c r.g p1 n1 c1 q1 m1 d1 := by rw [hx2, hyb]; exact SBlk.new _ _ _ _ _ _ _ _ _
    have HBX2 := Lib.hid hbx
    have HLP := Lib.hid (And.intro (hl1.below hb2) (hp1.below hb2))
    have HB2 := Lib.hid (below_then HB1.out hxs hb2)
    have hx2s := HB2.out.size
    have HOF := Lib.hid (ofAny_c _ r x2 ⟨_, _, _, _, _, _, rfl, HLP.out.1, HLP.out.2⟩ (HT.out.below HB2.out) HFW.out)
    rw [HSB.out] at HOF
    have HE := Lib.hid (And.intro hx2 hyb)
    clear hx2 hyb hbx hb hb2 hl1 hp1 hG HRD
    obtain ⟨hc0, hc1, hc2, hc3⟩ := HBX2.out.cells
    go_upto_region 8 with (fail)
    rw [← HE.out.1, ← HE.out.2]
    go_wp2_with fail
    refine HOF.out.mono ?_
    rintro e x3 ⟨hO, hb3⟩
    unfold OfPost at hO
    rw [if_pos rfl] at hO
    obtain ⟨p5, c5, rfl, hO5⟩ := hO
    obtain ⟨wl, hwl⟩ : ∃ l, l = wordsL r := ⟨_, rfl⟩
    rw [← hwl] at hO5
    rw [← hwl]
    obtain ⟨nw, hnw⟩ : ∃ n, n = wl.length := ⟨_, rfl⟩
    rw [← hnw] at hO5
    rw [← hnw]
    have HWL := Lib.hid (And.intro hwl hnw)
    have HB3 := Lib.hid (below_then HB2.out hx2s hb3)
    have hx3s := HB3.out.size
    have HBX3 := Lib.hid (HBX2.out.below hb3)
    have HLP3 := Lib.hid (And.intro (HLP.out.1.below hb3) (HLP.out.2.below hb3))
    have HO5 := Lib.hid hO5
    clear hc0 hc1 hc2 hc3 hO5 hb3 hwl hnw HBX2 HLP HOF HE
    go_upto_region 9 with (fail)
    refine wpTwo_begin (T := fun w' => SBlk w' yb r.c r.g p1 n1 c1 q1 m1 d1) (S := fun _ => True) (late := fun _ => false) (by kernel_rfl) ?_
    obtain ⟨x4, hx4⟩ : ∃ X : World, X = x3.drew := ⟨_, rfl⟩
    have hd4 : Below x3.heap.size x3 x4 := by rw [hx4]; exact (Below.refl _ _).drew
    have HB4 := Lib.hid (below_then HB3.out hx3s hd4)
    have hx4s := HB4.out.size
    have hT4 := HBX3.out.below hd4
    have HLP4 := Lib.hid (And.intro (HLP3.out.1.below hd4) (HLP3.out.2.below hd4))
    have HO6 := Lib.hid (owns_below HO5.out hd4)
    rw [← hx4]
    clear hx4 hd4 HBX3 HLP3 HO5
    refine wpTwo_takeT (i := 0) (v := .agg #[.int .i64 r.c, .int .i64 r.g, .slice p1 n1 c1, .slice q1 m1 d1]) rfl (by kernel_rfl) (by kernel_rfl) (by kernel_rfl) (fun _ _ _ h => h) ⟨by rfl, ?_⟩ hT4 ?_
    · intro w hTw
      obtain ⟨hl0, hl1, hl2, hl3⟩ := SBlk.cells hTw
      clear hTw
      go_simp
    (try simp only [Act.put, List.getElem_toArray, List.getElem_cons_zero, List.setIfInBounds_toArray, List.set_cons_succ, List.set_cons_zero])
    refine wpTwo_ready (rs := [1]) (by kernel_rfl) (by simp) ?_
    refine (AllTwo.cons rfl (fun K hK => ?_) AllTwo.nil)
    go_simp
    refine (check3_c r.c r.g _ _ _ _ x4 HLP4.out.1.lens HLP4.out.2.nums (by have := HFW.out.ls; simpa using this) (fun n hn => by obtain ⟨l, hl, rfl⟩ := List.mem_map.1 hn; exact HFW.out.calls l hl) HFW.out.ps).mono ?_
    rw [HSB.out]
    rintro e x5 ⟨rfl, hb5⟩
    have hT5 := hT4.below hb5
    have HB5 := Lib.hid (below_then HB4.out hx4s hb5)
    have hx5s := HB5.out.size
    have HLP5 := Lib.hid (And.intro (HLP4.out.1.below hb5) (HLP4.out.2.below hb5))
    have HO7 := Lib.hid (owns_below HO6.out hb5)
    go_wp2_with fail
    refine hK.out _ _ ⟨hT5, fun _ _ => trivial⟩ ?_
    clear hK K hb5 hT4 HLP4 HO6
    (try simp only [Act.put, List.getElem_toArray, List.getElem_cons_succ, List.getElem_cons_zero, List.setIfInBounds_toArray, List.set_cons_succ, List.set_cons_zero])
    refine wpTwo_takeT (i := 2) (v := .bool true) rfl (by kernel_rfl) (by kernel_rfl) (by kernel_rfl) (fun _ _ _ h => h) ⟨by rfl, ?_⟩ hT5 ?_
    · intro w _
      go_simp
    (try simp only [Act.put, List.getElem_toArray, List.getElem_cons_succ, List.getElem_cons_zero, List.setIfInBounds_toArray, List.set_cons_succ, List.set_cons_zero])
    refine wpTwo_takeT (i := 3) (v := .bool true) rfl (by kernel_rfl) (by kernel_rfl) (by kernel_rfl) (fun _ _ _ h => h) ⟨by rfl, ?_⟩ hT5 ?_
    · intro w _
      go_simp
    (try simp only [Act.put, List.getElem_toArray, List.getElem_cons_succ, List.getElem_cons_zero, List.setIfInBounds_toArray, List.set_cons_succ, List.set_cons_zero])
    refine wpTwo_takeT (i := 4) (v := .int .i64 0) rfl (by kernel_rfl) (by kernel_rfl) (by kernel_rfl) (fun _ _ _ h => h) ⟨by rfl, ?_⟩ hT5 ?_
    · intro w _
      go_simp
    (try simp only [Act.put, List.getElem_toArray, List.getElem_cons_succ, List.getElem_cons_zero, List.setIfInBounds_toArray, List.set_cons_succ, List.set_cons_zero])
    refine wpTwo_takeT (i := 5) (v := .bool true) rfl (by kernel_rfl) (by kernel_rfl) (by kernel_rfl) (fun _ _ _ h => h) ⟨by rfl, ?_⟩ hT5 ?_
    · intro w _
      go_simp
    (try simp only [Act.put, List.getElem_toArray, List.getElem_cons_succ, List.getElem_cons_zero, List.setIfInBounds_toArray, List.set_cons_succ, List.set_cons_zero])
    refine wpTwo_takeT (i := 6) (v := .bool true) rfl (by kernel_rfl) (by kernel_rfl) (by kernel_rfl) (fun _ _ _ h => h) ⟨by rfl, ?_⟩ hT5 ?_
    · intro w _
      go_simp
    (try simp only [Act.put, List.getElem_toArray, List.getElem_cons_succ, List.getElem_cons_zero, List.setIfInBounds_toArray, List.set_cons_succ, List.set_cons_zero])
    refine wpTwo_takeT (i := 7) (v := .bool true) rfl (by kernel_rfl) (by kernel_rfl) (by kernel_rfl) (fun _ _ _ h => h) ⟨by rfl, ?_⟩ hT5 ?_
    · intro w _
      go_simp
    (try simp only [Act.put, List.getElem_toArray, List.getElem_cons_succ, List.getElem_cons_zero, List.setIfInBounds_toArray, List.set_cons_succ, List.set_cons_zero])
    refine wpTwo_takeT (i := 8) (v := .slice p5 nw c5) rfl (by kernel_rfl) (by kernel_rfl) (by kernel_rfl) (fun _ _ _ h => h) ⟨by rfl, ?_⟩ hT5 ?_
    · intro w _
      go_simp
    (try simp only [Act.put, List.getElem_toArray, List.getElem_cons_succ, List.getElem_cons_zero, List.setIfInBounds_toArray, List.set_cons_succ, List.set_cons_zero])
    refine wpTwo_takeT (i := 10) (v := .agg #[.int .i64 r.c, .int .i64 r.g, .slice p1 n1 c1, .slice q1 m1 d1]) rfl (by kernel_rfl) (by kernel_rfl) (by kernel_rfl) (fun _ _ _ h => h) ⟨by rfl, ?_⟩ hT5 ?_
    · intro w hTw
      obtain ⟨hl0, hl1, hl2, hl3⟩ := SBlk.cells hTw
      clear hTw
      go_simp
    (try simp only [Act.put, List.getElem_toArray, List.getElem_cons_succ, List.getElem_cons_zero, List.setIfInBounds_toArray, List.set_cons_succ, List.set_cons_zero])
    refine wpTwo_ready (rs := [9]) (by kernel_rfl) (by simp) ?_
    refine (AllTwo.cons rfl (fun K hK => ?_) AllTwo.nil)
    have hnum : WAt x5 p5 nw c5 wl := ⟨nums_nv HWL.out.2.symm HO7.out, HWL.out.2, (owns_room HO7.out).2.1, fun x hx => by rw [HWL.out.1] at hx; exact words_lt HOK.out HRO.out x hx⟩
    have HR9 := Lib.hid (read_c p5 nw c5 wl x5 hnum (HT.out.below HB5.out))
    have hrw : readL wl = r := by rw [HWL.out.1]; exact read_words HOK.out
    rw [hrw] at HR9
    clear hnum hrw
    go_simp
    refine HR9.out.mono ?_
    rintro e x6 ⟨hG, hb6⟩
    obtain ⟨p7, n7, c7, q7, m7, d7, rfl, hl7, hp7⟩ := hG.sat
    have hT6 := hT5.below hb6
    have HB6 := Lib.hid (below_then HB5.out hx5s hb6)
    have hx6s := HB6.out.size
    have HSM := Lib.hid (same_c _ _ r r x6 ⟨_, _, _, _, _, _, rfl, hl7, hp7⟩ ⟨_, _, _, _, _, _, rfl, HLP5.out.1.below hb6, HLP5.out.2.below hb6⟩ HFW.out HFW.out)
    rw [sameB_refl] at HSM
    go_wp2_with fail
    refine hK.out _ _ ⟨hT6, fun _ _ => trivial⟩ ?_
    clear hK K hb6 hT5 hG hl7 hp7 HLP5 HO7 HR9
    (try simp only [Act.put, List.getElem_toArray, List.getElem_cons_succ, List.getElem_cons_zero, List.setIfInBounds_toArray, List.set_cons_succ, List.set_cons_zero])
    refine wpTwo_ready (rs := [11]) (by kernel_rfl) (by simp) ?_
    refine (AllTwo.cons rfl (fun K hK => ?_) AllTwo.nil)
    go_simp
    refine HSM.out.mono ?_
    rintro e x7 ⟨rfl, hb7⟩
    have hT7 := hT6.below hb7
    have HB7 := Lib.hid (below_then HB6.out hx6s hb7)
    go_wp2_with fail
    refine hK.out _ _ ⟨hT7, fun _ _ => trivial⟩ ?_
    clear hK K hb7 hT6 HSM
    (try simp only [Act.put, List.getElem_toArray, List.getElem_cons_succ, List.getElem_cons_zero, List.setIfInBounds_toArray, List.set_cons_succ, List.set_cons_zero])
    refine wpTwo_takeT (i := 12) (v := .bool true) rfl (by kernel_rfl) (by kernel_rfl) (by kernel_rfl) (fun _ _ _ h => h) ⟨by rfl, ?_⟩ hT7 ?_
    · intro w _
      go_simp
    (try simp only [Act.put, List.getElem_toArray, List.getElem_cons_succ, List.getElem_cons_zero, List.setIfInBounds_toArray, List.set_cons_succ, List.set_cons_zero])
    refine wpTwo_takeT (i := 13) (v := .bool true) rfl (by kernel_rfl) (by kernel_rfl) (by kernel_rfl) (fun _ _ _ h => h) ⟨by rfl, ?_⟩ hT7 ?_
    · intro w _
      go_simp
    (try simp only [Act.put, List.getElem_toArray, List.getElem_cons_succ, List.getElem_cons_zero, List.setIfInBounds_toArray, List.set_cons_succ, List.set_cons_zero])
    refine wpTwo_end (by kernel_rfl) ?_ _
    go_wp2
    go_ret
    exact ⟨rfl, HB7.out⟩
  | true =>
    rw [hsb, if_pos rfl] at hO
    obtain ⟨p5, c5, rfl, hO5⟩ := hO
    have HOKA := Lib.hid ((okS_iff a).1 hsb)
    obtain ⟨wl, hwl⟩ : ∃ l, l = wordsL a := ⟨_, rfl⟩
    rw [← hwl] at hO5
    rw [← hwl]
    obtain ⟨nw, hnw⟩ : ∃ n, n = wl.length := ⟨_, rfl⟩
    rw [← hnw] at hO5
    rw [← hnw]
    have HWL := Lib.hid (And.intro hwl hnw)
    have HBX4 := Lib.hid (HBX3.out.below hb4)
    have HLA4 := Lib.hid (And.intro (HLA.out.1.below hb4) (HLA.out.2.below hb4))
    have HO5 := Lib.hid hO5
    clear hc0 hc1 hc2 hc3 hb4 hsb HOF HE hO5 hwl hnw HBX3 HLA
    go_upto_region 5 with (fail)
    refine wpTwo_begin (T := fun w' => SBlk w' y3 a.c a.g p2 n2 c2 q2 m2 d2) (S := fun _ => True) (late := fun _ => false) (by kernel_rfl) ?_
    obtain ⟨w5, hw5⟩ : ∃ X : World, X = w4.drew := ⟨_, rfl⟩
    have hd5 : Below w4.heap.size w4 w5 := by rw [hw5]; exact (Below.refl _ _).drew
    have HB5 := Lib.hid (below_then HB4.out hw4s hd5)
    have hw5s := HB5.out.size
    have hT5 := HBX4.out.below hd5
    have HLA5 := Lib.hid (And.intro (HLA4.out.1.below hd5) (HLA4.out.2.below hd5))
    have HO7 := Lib.hid (owns_below HO5.out hd5)
    rw [← hw5]
    clear hw5 hd5 HBX4 HLA4 HO5
    refine wpTwo_takeT (i := 0) (v := .int .i64 0) rfl (by kernel_rfl) (by kernel_rfl) (by kernel_rfl) (fun _ _ _ h => h) ⟨by rfl, ?_⟩ hT5 ?_
    · intro w _
      go_simp
    (try simp only [Act.put, List.getElem_toArray, List.getElem_cons_zero, List.setIfInBounds_toArray, List.set_cons_succ, List.set_cons_zero])
    refine wpTwo_takeT (i := 1) (v := .bool true) rfl (by kernel_rfl) (by kernel_rfl) (by kernel_rfl) (fun _ _ _ h => h) ⟨by rfl, ?_⟩ hT5 ?_
    · intro w _
      go_simp
    (try simp only [Act.put, List.getElem_toArray, List.getElem_cons_succ, List.getElem_cons_zero, List.setIfInBounds_toArray, List.set_cons_succ, List.set_cons_zero])
    refine wpTwo_takeT (i := 2) (v := .bool true) rfl (by kernel_rfl) (by kernel_rfl) (by kernel_rfl) (fun _ _ _ h => h) ⟨by rfl, ?_⟩ hT5 ?_
    · intro w _
      go_simp
    (try simp only [Act.put, List.getElem_toArray, List.getElem_cons_succ, List.getElem_cons_zero, List.setIfInBounds_toArray, List.set_cons_succ, List.set_cons_zero])
    refine wpTwo_takeT (i := 3) (v := .slice p5 nw c5) rfl (by kernel_rfl) (by kernel_rfl) (by kernel_rfl) (fun _ _ _ h => h) ⟨by rfl, ?_⟩ hT5 ?_
    · intro w _
      go_simp
    (try simp only [Act.put, List.getElem_toArray, List.getElem_cons_succ, List.getElem_cons_zero, List.setIfInBounds_toArray, List.set_cons_succ, List.set_cons_zero])
    refine wpTwo_takeT (i := 5) (v := .agg #[.int .i64 a.c, .int .i64 a.g, .slice p2 n2 c2, .slice q2 m2 d2]) rfl (by kernel_rfl) (by kernel_rfl) (by kernel_rfl) (fun _ _ _ h => h) ⟨by rfl, ?_⟩ hT5 ?_
    · intro w hTw
      obtain ⟨hl0, hl1, hl2, hl3⟩ := SBlk.cells hTw
      clear hTw
      go_simp
    (try simp only [Act.put, List.getElem_toArray, List.getElem_cons_succ, List.getElem_cons_zero, List.setIfInBounds_toArray, List.set_cons_succ, List.set_cons_zero])
    refine wpTwo_ready (rs := [4]) (by kernel_rfl) (by simp) ?_
    refine (AllTwo.cons rfl (fun K hK => ?_) AllTwo.nil)
    have hnum : WAt w5 p5 nw c5 wl := ⟨nums_nv HWL.out.2.symm HO7.out, HWL.out.2, (owns_room HO7.out).2.1, fun x hx => by rw [HWL.out.1] at hx; exact words_lt HOKA.out HAO.out x hx⟩
    have HR9 := Lib.hid (read_c p5 nw c5 wl w5 hnum (HT.out.below HB5.out))
    have hrw : readL wl = a := by rw [HWL.out.1]; exact read_words HOKA.out
    rw [hrw] at HR9
    clear hnum hrw
    go_simp
    refine HR9.out.mono ?_
    rintro e w6 ⟨hG, hb6⟩
    obtain ⟨p7, n7, c7, q7, m7, d7, rfl, hl7, hp7⟩ := hG.sat
    have hT6 := hT5.below hb6
    have HB6 := Lib.hid (below_then HB5.out hw5s hb6)
    have hw6s := HB6.out.size
    have HSM := Lib.hid (same_c _ _ a a w6 ⟨_, _, _, _, _, _, rfl, hl7, hp7⟩ ⟨_, _, _, _, _, _, rfl, HLA5.out.1.below hb6, HLA5.out.2.below hb6⟩ HFA.out HFA.out)
    rw [sameB_refl] at HSM
    go_wp2_with fail
    refine hK.out _ _ ⟨hT6, fun _ _ => trivial⟩ ?_
    clear hK K hb6 hT5 hG hl7 hp7 HLA5 HO7 HR9
    (try simp only [Act.put, List.getElem_toArray, List.getElem_cons_succ, List.getElem_cons_zero, List.setIfInBounds_toArray, List.set_cons_succ, List.set_cons_zero])
    refine wpTwo_ready (rs := [6]) (by kernel_rfl) (by simp) ?_
    refine (AllTwo.cons rfl (fun K hK => ?_) AllTwo.nil)
    go_simp
    refine HSM.out.mono ?_
    rintro e w7 ⟨rfl, hb7⟩
    have hT7 := hT6.below hb7
    have HBX := Lib.hid (below_then HB6.out hw6s hb7)
    go_wp2_with fail
    refine hK.out _ _ ⟨hT7, fun _ _ => trivial⟩ ?_
    clear hK K hb7 hT6 HSM
    (try simp only [Act.put, List.getElem_toArray, List.getElem_cons_succ, List.getElem_cons_zero, List.setIfInBounds_toArray, List.set_cons_succ, List.set_cons_zero])
    refine wpTwo_takeT (i := 7) (v := .bool false) rfl (by kernel_rfl) (by kernel_rfl) (by kernel_rfl) (fun _ _ _ h => h) ⟨by rfl, ?_⟩ hT7 ?_
    · intro w _
      go_simp
    (try simp only [Act.put, List.getElem_toArray, List.getElem_cons_succ, List.getElem_cons_zero, List.setIfInBounds_toArray, List.set_cons_succ, List.set_cons_zero])
    refine wpTwo_takeT (i := 8) (v := .bool false) rfl (by kernel_rfl) (by kernel_rfl) (by kernel_rfl) (fun _ _ _ h => h) ⟨by rfl, ?_⟩ hT7 ?_
    · intro w _
      go_simp
    (try simp only [Act.put, List.getElem_toArray, List.getElem_cons_succ, List.getElem_cons_zero, List.setIfInBounds_toArray, List.set_cons_succ, List.set_cons_zero])
    refine wpTwo_end (by kernel_rfl) ?_ _
    go_upto_region 7 with (fail)
    clear hT7
    have HXT := Lib.hid (HT.out.below HBX.out)
    have HRD := Lib.hid (read_c p8 k d8 (ws.take k) w7 ((HWS.out.below HBX.out).take k hkn) HXT.out)
    obtain ⟨r, hr⟩ : ∃ r, r = readL (ws.take k) := ⟨_, rfl⟩
    have hok : okS r := by rw [hr]; exact read_ok _
    have HRO := Lib.hid (show RowsOk r.ls by rw [hr]; exact readL_rows (fun x hx => HWS.out.big x (List.mem_of_mem_take hx)))
    rw [← hr] at HRD
    have HOK := Lib.hid hok
    have HFW := Lib.hid (okS_few hok)
    have HSB := Lib.hid ((okS_iff r).2 hok)
    clear hr hok
    go_wp2_with fail
    refine HRD.out.mono ?_
    rintro e x1 ⟨hG, hb⟩
    obtain ⟨p1, n1, c1, q1, m1, d1, rfl, hl1, hp1⟩ := hG.sat
    have HB1 := Lib.hid (below_then HBX.out HBX.out.size hb)
    have hxs := HB1.out.size
    obtain ⟨x2, hx2⟩ : ∃ X : World, X = x1.alloc (.cells #[.int .i64 r.c, .int .i64 r.g, .slice p1 n1 c1, .slice q1 m1 d1] 25) := ⟨_, rfl⟩
    have hb2 : Below x1.heap.size x1 x2 := by rw [hx2]; exact (Below.refl _ _).alloc (Nat.le_refl _) _
    obtain ⟨yb, hyb⟩ : ∃ y, y = x1.heap.size := ⟨_, rfl⟩
    have hbx : SBlk x2 yb r.c r.g p1 n1 c1 q1 m1 d1 := by rw [hx2, hyb]; exact SBlk.new _ _ _ _ _ _ _ _ _
    have HBX2 := Lib.hid hbx
    have HLP := Lib.hid (And.intro (hl1.below hb2) (hp1.below hb2))
    have HB2 := Lib.hid (below_then HB1.out hxs hb2)
    have hx2s := HB2.out.size
    have HOF := Lib.hid (ofAny_c _ r x2 ⟨_, _, _, _, _, _, rfl, HLP.out.1, HLP.out.2⟩ (HT.out.below HB2.out) HFW.out)
    rw [HSB.out] at HOF
    have HE := Lib.hid (And.intro hx2 hyb)
    clear hx2 hyb hbx hb hb2 hl1 hp1 hG HRD
    obtain ⟨hc0, hc1, hc2, hc3⟩ := HBX2.out.cells
    go_upto_region 8 with (fail)
    rw [← HE.out.1, ← HE.out.2]
    go_wp2_with fail
    refine HOF.out.mono ?_
    rintro e x3 ⟨hO, hb3⟩
    unfold OfPost at hO
    rw [if_pos rfl] at hO
    obtain ⟨p5, c5, rfl, hO5⟩ := hO
    obtain ⟨wl, hwl⟩ : ∃ l, l = wordsL r := ⟨_, rfl⟩
    rw [← hwl] at hO5
    rw [← hwl]
    obtain ⟨nw, hnw⟩ : ∃ n, n = wl.length := ⟨_, rfl⟩
    rw [← hnw] at hO5
    rw [← hnw]
    have HWL := Lib.hid (And.intro hwl hnw)
    have HB3 := Lib.hid (below_then HB2.out hx2s hb3)
    have hx3s := HB3.out.size
    have HBX3 := Lib.hid (HBX2.out.below hb3)
    have HLP3 := Lib.hid (And.intro (HLP.out.1.below hb3) (HLP.out.2.below hb3))
    have HO5 := Lib.hid hO5
    clear hc0 hc1 hc2 hc3 hO5 hb3 hwl hnw HBX2 HLP HOF HE
    go_upto_region 9 with (fail)
    refine wpTwo_begin (T := fun w' => SBlk w' yb r.c r.g p1 n1 c1 q1 m1 d1) (S := fun _ => True) (late := fun _ => false) (by kernel_rfl) ?_
    obtain ⟨x4, hx4⟩ : ∃ X : World, X = x3.drew := ⟨_, rfl⟩
    have hd4 : Below x3.heap.size x3 x4 := by rw [hx4]; exact (Below.refl _ _).drew
    have HB4 := Lib.hid (below_then HB3.out hx3s hd4)
    have hx4s := HB4.out.size
    have hT4 := HBX3.out.below hd4
    have HLP4 := Lib.hid (And.intro (HLP3.out.1.below hd4) (HLP3.out.2.below hd4))
    have HO6 := Lib.hid (owns_below HO5.out hd4)
    rw [← hx4]
    clear hx4 hd4 HBX3 HLP3 HO5
    refine wpTwo_takeT (i := 0) (v := .agg #[.int .i64 r.c, .int .i64 r.g, .slice p1 n1 c1, .slice q1 m1 d1]) rfl (by kernel_rfl) (by kernel_rfl) (by kernel_rfl) (fun _ _ _ h => h) ⟨by rfl, ?_⟩ hT4 ?_
    · intro w hTw
      obtain ⟨hl0, hl1, hl2, hl3⟩ := SBlk.cells hTw
      clear hTw
      go_simp
    (try simp only [Act.put, List.getElem_toArray, List.getElem_cons_zero, List.setIfInBounds_toArray, List.set_cons_succ, List.set_cons_zero])
    refine wpTwo_ready (rs := [1]) (by kernel_rfl) (by simp) ?_
    refine (AllTwo.cons rfl (fun K hK => ?_) AllTwo.nil)
    go_simp
    refine (check3_c r.c r.g _ _ _ _ x4 HLP4.out.1.lens HLP4.out.2.nums (by have := HFW.out.ls; simpa using this) (fun n hn => by obtain ⟨l, hl, rfl⟩ := List.mem_map.1 hn; exact HFW.out.calls l hl) HFW.out.ps).mono ?_
    rw [HSB.out]
    rintro e x5 ⟨rfl, hb5⟩
    have hT5 := hT4.below hb5
    have HB5 := Lib.hid (below_then HB4.out hx4s hb5)
    have hx5s := HB5.out.size
    have HLP5 := Lib.hid (And.intro (HLP4.out.1.below hb5) (HLP4.out.2.below hb5))
    have HO7 := Lib.hid (owns_below HO6.out hb5)
    go_wp2_with fail
    refine hK.out _ _ ⟨hT5, fun _ _ => trivial⟩ ?_
    clear hK K hb5 hT4 HLP4 HO6
    (try simp only [Act.put, List.getElem_toArray, List.getElem_cons_succ, List.getElem_cons_zero, List.setIfInBounds_toArray, List.set_cons_succ, List.set_cons_zero])
    refine wpTwo_takeT (i := 2) (v := .bool true) rfl (by kernel_rfl) (by kernel_rfl) (by kernel_rfl) (fun _ _ _ h => h) ⟨by rfl, ?_⟩ hT5 ?_
    · intro w _
      go_simp
    (try simp only [Act.put, List.getElem_toArray, List.getElem_cons_succ, List.getElem_cons_zero, List.setIfInBounds_toArray, List.set_cons_succ, List.set_cons_zero])
    refine wpTwo_takeT (i := 3) (v := .bool true) rfl (by kernel_rfl) (by kernel_rfl) (by kernel_rfl) (fun _ _ _ h => h) ⟨by rfl, ?_⟩ hT5 ?_
    · intro w _
      go_simp
    (try simp only [Act.put, List.getElem_toArray, List.getElem_cons_succ, List.getElem_cons_zero, List.setIfInBounds_toArray, List.set_cons_succ, List.set_cons_zero])
    refine wpTwo_takeT (i := 4) (v := .int .i64 0) rfl (by kernel_rfl) (by kernel_rfl) (by kernel_rfl) (fun _ _ _ h => h) ⟨by rfl, ?_⟩ hT5 ?_
    · intro w _
      go_simp
    (try simp only [Act.put, List.getElem_toArray, List.getElem_cons_succ, List.getElem_cons_zero, List.setIfInBounds_toArray, List.set_cons_succ, List.set_cons_zero])
    refine wpTwo_takeT (i := 5) (v := .bool true) rfl (by kernel_rfl) (by kernel_rfl) (by kernel_rfl) (fun _ _ _ h => h) ⟨by rfl, ?_⟩ hT5 ?_
    · intro w _
      go_simp
    (try simp only [Act.put, List.getElem_toArray, List.getElem_cons_succ, List.getElem_cons_zero, List.setIfInBounds_toArray, List.set_cons_succ, List.set_cons_zero])
    refine wpTwo_takeT (i := 6) (v := .bool true) rfl (by kernel_rfl) (by kernel_rfl) (by kernel_rfl) (fun _ _ _ h => h) ⟨by rfl, ?_⟩ hT5 ?_
    · intro w _
      go_simp
    (try simp only [Act.put, List.getElem_toArray, List.getElem_cons_succ, List.getElem_cons_zero, List.setIfInBounds_toArray, List.set_cons_succ, List.set_cons_zero])
    refine wpTwo_takeT (i := 7) (v := .bool true) rfl (by kernel_rfl) (by kernel_rfl) (by kernel_rfl) (fun _ _ _ h => h) ⟨by rfl, ?_⟩ hT5 ?_
    · intro w _
      go_simp
    (try simp only [Act.put, List.getElem_toArray, List.getElem_cons_succ, List.getElem_cons_zero, List.setIfInBounds_toArray, List.set_cons_succ, List.set_cons_zero])
    refine wpTwo_takeT (i := 8) (v := .slice p5 nw c5) rfl (by kernel_rfl) (by kernel_rfl) (by kernel_rfl) (fun _ _ _ h => h) ⟨by rfl, ?_⟩ hT5 ?_
    · intro w _
      go_simp
    (try simp only [Act.put, List.getElem_toArray, List.getElem_cons_succ, List.getElem_cons_zero, List.setIfInBounds_toArray, List.set_cons_succ, List.set_cons_zero])
    refine wpTwo_takeT (i := 10) (v := .agg #[.int .i64 r.c, .int .i64 r.g, .slice p1 n1 c1, .slice q1 m1 d1]) rfl (by kernel_rfl) (by kernel_rfl) (by kernel_rfl) (fun _ _ _ h => h) ⟨by rfl, ?_⟩ hT5 ?_
    · intro w hTw
      obtain ⟨hl0, hl1, hl2, hl3⟩ := SBlk.cells hTw
      clear hTw
      go_simp
    (try simp only [Act.put, List.getElem_toArray, List.getElem_cons_succ, List.getElem_cons_zero, List.setIfInBounds_toArray, List.set_cons_succ, List.set_cons_zero])
    refine wpTwo_ready (rs := [9]) (by kernel_rfl) (by simp) ?_
    refine (AllTwo.cons rfl (fun K hK => ?_) AllTwo.nil)
    have hnum : WAt x5 p5 nw c5 wl := ⟨nums_nv HWL.out.2.symm HO7.out, HWL.out.2, (owns_room HO7.out).2.1, fun x hx => by rw [HWL.out.1] at hx; exact words_lt HOK.out HRO.out x hx⟩
    have HR9 := Lib.hid (read_c p5 nw c5 wl x5 hnum (HT.out.below HB5.out))
    have hrw : readL wl = r := by rw [HWL.out.1]; exact read_words HOK.out
    rw [hrw] at HR9
    clear hnum hrw
    go_simp
    refine HR9.out.mono ?_
    rintro e x6 ⟨hG, hb6⟩
    obtain ⟨p7, n7, c7, q7, m7, d7, rfl, hl7, hp7⟩ := hG.sat
    have hT6 := hT5.below hb6
    have HB6 := Lib.hid (below_then HB5.out hx5s hb6)
    have hx6s := HB6.out.size
    have HSM := Lib.hid (same_c _ _ r r x6 ⟨_, _, _, _, _, _, rfl, hl7, hp7⟩ ⟨_, _, _, _, _, _, rfl, HLP5.out.1.below hb6, HLP5.out.2.below hb6⟩ HFW.out HFW.out)
    rw [sameB_refl] at HSM
    go_wp2_with fail
    refine hK.out _ _ ⟨hT6, fun _ _ => trivial⟩ ?_
    clear hK K hb6 hT5 hG hl7 hp7 HLP5 HO7 HR9
    (try simp only [Act.put, List.getElem_toArray, List.getElem_cons_succ, List.getElem_cons_zero, List.setIfInBounds_toArray, List.set_cons_succ, List.set_cons_zero])
    refine wpTwo_ready (rs := [11]) (by kernel_rfl) (by simp) ?_
    refine (AllTwo.cons rfl (fun K hK => ?_) AllTwo.nil)
    go_simp
    refine HSM.out.mono ?_
    rintro e x7 ⟨rfl, hb7⟩
    have hT7 := hT6.below hb7
    have HB7 := Lib.hid (below_then HB6.out hx6s hb7)
    go_wp2_with fail
    refine hK.out _ _ ⟨hT7, fun _ _ => trivial⟩ ?_
    clear hK K hb7 hT6 HSM
    (try simp only [Act.put, List.getElem_toArray, List.getElem_cons_succ, List.getElem_cons_zero, List.setIfInBounds_toArray, List.set_cons_succ, List.set_cons_zero])
    refine wpTwo_takeT (i := 12) (v := .bool true) rfl (by kernel_rfl) (by kernel_rfl) (by kernel_rfl) (fun _ _ _ h => h) ⟨by rfl, ?_⟩ hT7 ?_
    · intro w _
      go_simp
    (try simp only [Act.put, List.getElem_toArray, List.getElem_cons_succ, List.getElem_cons_zero, List.setIfInBounds_toArray, List.set_cons_succ, List.set_cons_zero])
    refine wpTwo_takeT (i := 13) (v := .bool true) rfl (by kernel_rfl) (by kernel_rfl) (by kernel_rfl) (fun _ _ _ h => h) ⟨by rfl, ?_⟩ hT7 ?_
    · intro w _
      go_simp
    (try simp only [Act.put, List.getElem_toArray, List.getElem_cons_succ, List.getElem_cons_zero, List.setIfInBounds_toArray, List.set_cons_succ, List.set_cons_zero])
    refine wpTwo_end (by kernel_rfl) ?_ _
    go_wp2
    go_ret
    exact ⟨rfl, HB7.out⟩

end Go.Proofs.YtkghlmlfpjdamaaDoor
