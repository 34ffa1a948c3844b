/-
  SeqWhole: a read that is over has the values of one write, never some of one and some of another.
  Conditions: the ranges of Go's types.
-/
import Derived.Test.YtaljpggajpoalaaSW1
namespace Go.Proofs.Ytaljpggajpoalaa
open Go.RowKit Go.Shelf
attribute [local go_sem] Oper.semAt_some

/-- A slice that reads as these rows of three words. -/
def Rows3At (W : World) (v : Value) (rs : List (Int × Int × Int)) : Prop := ∃ p cap, v = .slice p rs.length cap ∧ (rs ≠ [] → ∃ b off, p = some ⟨b, off, none⟩ ∧ ∀ i (h : i < rs.length), W.cell? ⟨b, off + i * 3, none⟩ = some (.int .u64 rs[i].1) ∧ W.cell? ⟨b, off + i * 3 + 1, none⟩ = some (.int .u64 rs[i].2.1) ∧ W.cell? ⟨b, off + i * 3 + 2, none⟩ = some (.int .u64 rs[i].2.2))
/-- What SeqWhole has made of the first i rows. -/
def WhAt (B : Nat) (w : World) (m : Nat) (i : Nat) (l : List WrX) (hs : List (Value × List Int)) (q : Option Addr) (c : Nat) (q2 : Option Addr) (c2 : Nat) : Prop :=
  (l.length = i ∧ hs.length = i + 1 ∧ hs.map (·.2) = List.replicate m 0 :: l.map (·.vs)) ∧
  w.ownsRow B 34 6 (.slice q i c) i (flatW l) ∧ w.ownsRow B 24 1 (.slice q2 (i + 1) c2) (i + 1) (hs.map (·.1)) ∧
  (∀ x ∈ l, x.s = ⟨9, 2, 0, 0, 0⟩ ∧ x.vs.length = m ∧ WRange x.vs ∧ w.ownsRow B 27 1 x.v m (x.vs.map (Value.int .u64))) ∧
  (∀ x ∈ hs, x.2.length = m ∧ w.ownsRow B 27 1 x.1 m (x.2.map (Value.int .u64)))
theorem WhAt.below {B : Nat} {w w' : World} {m i : Nat} {l : List WrX} {hs : List (Value × List Int)} {q : Option Addr} {c : Nat} {q2 : Option Addr} {c2 : Nat} (h : WhAt B w m i l hs q c q2 c2) (hb : Below w.heap.size w w') : WhAt B w' m i l hs q c q2 c2 :=
  ⟨h.1, owns_below h.2.1 hb, owns_below h.2.2.1 hb, fun x hx => ⟨(h.2.2.2.1 x hx).1, (h.2.2.2.1 x hx).2.1, (h.2.2.2.1 x hx).2.2.1, owns_below (h.2.2.2.1 x hx).2.2.2 hb⟩, fun x hx => ⟨(h.2.2.2.2 x hx).1, owns_below (h.2.2.2.2 x hx).2 hb⟩⟩
/-- The memory and the read. -/
def WmAt (B : Nat) (w : World) (zm zr m : Nat) : Prop := ∃ gw cw gl cl, MBox w zm (.slice (some ⟨gw, 0, none⟩) 12 cw) (.slice (some ⟨gl, 0, none⟩) 12 cl) false ∧ RdBox w zr ⟨9, 2, m, 0, 0, 0⟩ (.slice none 0 0) ∧ w.ownsRow B 27 1 (.slice (some ⟨gw, 0, none⟩) 12 cw) 12 ((List.replicate 12 0 : List Int).map (Value.int .u64)) ∧ w.ownsRow B 4 1 (.slice (some ⟨gl, 0, none⟩) 12 cl) 12 ((List.replicate 12 true).map Value.bool)
theorem WmAt.below {B : Nat} {w w' : World} {zm zr m : Nat} (h : WmAt B w zm zr m) (hb : Below w.heap.size w w') : WmAt B w' zm zr m := by
  obtain ⟨gw, cw, gl, cl, h1, h2, h3, h4⟩ := h
  exact ⟨gw, cw, gl, cl, h1.below hb, h2.below hb, owns_below h3 hb, owns_below h4 hb⟩
theorem argr_pk {W : World} {p : Option Addr} {n c : Nat} {bs : List Bool} (h : ArgR W (.slice p n c) (bs.map Value.bool)) (k : Nat) : PkAt (fun k => W.heap.size ≤ k) W p (bs.take k) := by
  obtain ⟨p', n', c', e, hn, hp⟩ := h
  injection e with e1 e2 e3
  subst e1 e2 e3
  intro hne
  have hpos : 0 < (bs.take k).length := List.length_pos_iff.2 hne
  rw [List.length_take] at hpos
  rcases hp with ⟨rfl, h0, -⟩ | ⟨a, rfl, -, hcs⟩
  · rw [List.length_map] at hn; omega
  · obtain ⟨b, off, spot⟩ := a
    have h0 := hcs 0 (.bool (bs[0]'(by omega))) (by rw [List.getElem?_map, List.getElem?_eq_getElem (by omega)]; rfl)
    have hs : spot = none := by
      cases spot with
      | none => rfl
      | some x => simp [Addr.add, World.cell?] at h0; split at h0 <;> simp at h0
    subst hs
    refine ⟨b, off, rfl, fun hS => ?_, fun i hi => ?_⟩
    · have := World.block_lt_of_cell? W _ h0
      rw [addr_add_off] at this
      have hS' : W.heap.size ≤ b := hS
      have this' : b < W.heap.size := this
      omega
    · have hi' : i < bs.length := by rw [List.length_take] at hi; omega
      have := hcs i (.bool bs[i]) (by rw [List.getElem?_map, List.getElem?_eq_getElem hi']; rfl)
      rw [addr_add_off] at this
      rw [this, List.getElem_take]

theorem wplay_c (B m i : Nat) (hm : 1 ≤ m ∧ m ≤ 3) (hi : i ≤ 4) (l : List WrX) (hs : List (Value × List Int)) (q : Option Addr) (c : Nat) (q2 : Option Addr) (c2 gw cw gl cl : Nat) (p1 : Option Addr) (c1 kb : Nat) (bs : List Bool) (Z : World) (hW : WhAt B Z m i l hs q c q2 c2)
    (h1 : Z.ownsRow B 27 1 (.slice (some ⟨gw, 0, none⟩) 12 cw) 12 ((List.replicate 12 0 : List Int).map (Value.int .u64))) (h2 : Z.ownsRow B 4 1 (.slice (some ⟨gl, 0, none⟩) 12 cl) 12 ((List.replicate 12 true).map Value.bool))
    (hp : PkAt (fun k => Z.heap.size ≤ k) Z p1 bs) (hkb : bs.length = kb) (hc1 : kb ≤ c1 ∧ c1 ≤ 9223372036854775807) :
    Calls Try.prog 32 #[.agg #[.slice (some ⟨gw, 0, none⟩) 12 cw, .slice (some ⟨gl, 0, none⟩) 12 cl, .bool false], rdV ⟨9, 2, m, 0, 0, 0⟩ (.slice none 0 0), .slice q i c, .slice p1 kb c1] Z fun e w' =>
      (∃ gw cw gl cl n p c s vs, e = .returned (.tuple #[.agg #[.slice (some ⟨gw, 0, none⟩) n cw, .slice (some ⟨gl, 0, none⟩) 12 cl, .bool false], rdV s (.slice p vs.length c), .int .i64 0]) ∧ (s.t ≤ i ∧ s.p ≠ 5 ∧ (s.p = 4 → vs ∈ hs.map (·.2))) ∧ w'.ownsRow Z.heap.size 27 1 (.slice p vs.length c) vs.length (vs.map (Value.int .u64))) ∧ Below Z.heap.size Z w' := by
  obtain ⟨⟨e1, e2, e3⟩, ho, -, hl, -⟩ := hW
  subst e1 hkb
  have h := play_c (.agg #[.slice (some ⟨gw, 0, none⟩) 12 cw, .slice (some ⟨gl, 0, none⟩) 12 cl, .bool false]) (List.replicate 12 0) (List.replicate 12 true) false ⟨9, 2, m, 0, 0, 0⟩ none 0 [] q c l p1 c1 bs Z
    ⟨_, _, rfl, nums_of_owns (by simp) h1, bools_of_owns (by simp) h2⟩ (by kernel_rfl) (by intro x hx; have := List.eq_of_mem_replicate hx; omega) (VV.nil _ Z) (by unfold rightRB apartB fitsRB; simp; omega) ⟨Int.le_refl _, by show (0 : Int) ≤ 18446744073709551615; decide⟩
    (wrs_of_owns rfl ho (fun x hx => VV.ownsLt (hl x hx).2.2.2 (hl x hx).2.1.symm)) (by omega) (own_cap ho)
    (by
      unfold wrsRight
      rw [List.all_eq_true]
      intro x hx
      rw [(hl x hx).1, (hl x hx).2.1]
      unfold rightWB apartB fitsWB
      simp
      omega)
    (fun x hx => by rw [(hl x hx).1]; exact ⟨Int.le_refl _, by show (0 : Int) ≤ 18446744073709551615; decide⟩) (fun x hx => (hl x hx).2.2.1) hp hc1
  obtain ⟨fin, hfin⟩ : ∃ f, f = playM (List.replicate 12 true) ⟨List.replicate 12 0, false, ⟨9, 2, m, 0, 0, 0⟩, [], ⟨⟨0, 0, 4, 0, 0⟩, .slice none 0 0, []⟩, l⟩ bs := ⟨_, rfl⟩
  obtain ⟨k1, k2, k3, k4⟩ := whole_math hm (.slice none 0 0) l hi (fun y hy => ⟨(hl y hy).1, (hl y hy).2.1⟩) bs fin hfin
  rw [← e3] at k4
  have h' : Calls Try.prog 32 #[.agg #[.slice (some ⟨gw, 0, none⟩) 12 cw, .slice (some ⟨gl, 0, none⟩) 12 cl, .bool false], rdV ⟨9, 2, m, 0, 0, 0⟩ (.slice none 0 0), .slice q l.length c, .slice p1 bs.length c1] Z fun e w' => PlayOk Z.heap.size (List.replicate 12 true) fin e w' ∧ Below Z.heap.size Z w' := by rw [hfin]; exact h
  refine h'.mono ?_
  rintro e w' ⟨⟨gw, cw, gl, cl, p, c, he, -, -, h3⟩, hb⟩
  rw [k1, List.length_replicate] at he
  exact ⟨⟨gw, cw, gl, cl, _, p, c, fin.s, fin.vs, he, ⟨k2, k3, k4⟩, h3⟩, hb⟩


set_option maxRecDepth 100000 in
set_option maxHeartbeats 8000000 in
theorem whole_law (v0 v1 : Value) (rs : List (Int × Int × Int)) (bs : List Bool) (many : Int) (W : World) (h0 : Rows3At W v0 rs) (h1 : ArgR W v1 (bs.map Value.bool)) (hbl : bs.length ≤ 9223372036854775807) (hrg : ∀ x ∈ rs, (0 ≤ x.1 ∧ x.1 ≤ 18446744073709551615) ∧ (0 ≤ x.2.1 ∧ x.2.1 ≤ 18446744073709551615) ∧ (0 ≤ x.2.2 ∧ x.2.2 ≤ 18446744073709551615)) (hc1 : ∀ p n c, v1 = .slice p n c → n ≤ c ∧ c ≤ 9223372036854775807) (hmy : -9223372036854775808 ≤ many ∧ many ≤ 9223372036854775807) :
    Calls Try.prog 7 #[v0, v1, .int .i64 many] W fun e w' => e = .returned (.bool true) ∧ Below W.heap.size W w' := by
  have HA := Lib.hid (And.intro h0 h1)
  obtain ⟨p0, c0, rfl, -⟩ := h0
  obtain ⟨p1, n1, c1, rfl, hn1, hp1⟩ := h1
  rw [List.length_map] at hn1
  have hnc1 := hc1 _ _ _ rfl
  obtain ⟨kb, hkb⟩ : ∃ k, k = min n1 80 := ⟨_, rfl⟩
  have hs1 : ∀ wx, (Instr.slice 42 (.slice p1 n1 c1) none (some (.int .i64 (kb : Int))) none).run Try.prog wx = .ok (.slice p1 kb c1) wx := run_cut16 Try.underlying42 (fun wx => by go_simp) p1 n1 c1 kb (by omega)
  have hm1 : ∀ wx, (Builtin.min_ #[3, 3] 3 #[.int .i64 (n1 : Int), .int .i64 80]).run Try.prog wx = .ok (.int .i64 (kb : Int)) wx := fun wx => by
    have : (if (80 : Int) < (n1 : Int) then (80 : Int) else n1) = (kb : Int) := by rw [hkb]; split <;> omega
    simp [Builtin.min_, Builtin.min2, this]
  have HPK := Lib.hid (show (bs.take 80).length = kb ∧ kb ≤ c1 ∧ c1 ≤ 9223372036854775807 from ⟨by rw [List.length_take, hkb, hn1]; omega, by omega, hnc1.2⟩)
  have HCUT := Lib.hid (And.intro hs1 hm1)
  have HRG := Lib.hid hrg
  have hn1b : n1 ≤ 9223372036854775807 := by omega
  obtain ⟨nr, hnr⟩ : ∃ n, n = rs.length := ⟨_, rfl⟩
  rw [← hnr]
  have HNR := Lib.hid hnr
  have hmy1 := hmy.1
  have hmy2 := hmy.2
  clear hn1 hp1 hnc1 hkb hs1 hm1 hc1 hbl hrg hnr hmy
  go_enter Try.func7, Try.ntmps7
  go_wp2_with fail
  refine (ewakes W).mono ?_
  rintro e w1 ⟨rfl, hb1⟩
  have HB1 := Lib.hid hb1
  clear hb1
  go_wp2_with fail
  refine (elive12 w1).mono ?_
  rintro e w3 ⟨⟨gw, cw, gl, cl, rfl, how, hol⟩, hb3⟩
  obtain ⟨zm, hzm⟩ : ∃ z, z = w3.heap.size := ⟨_, rfl⟩
  obtain ⟨w4, hw4⟩ : ∃ X : World, X = w3.alloc (.cells #[.slice (some ⟨gw, 0, none⟩) 12 cw, .slice (some ⟨gl, 0, none⟩) 12 cl, .bool false] 44) := ⟨_, rfl⟩
  have hb34 : Below w3.heap.size w3 w4 := by rw [hw4]; exact below1 w3 _
  have hb4 : Below w1.heap.size w1 w4 := hb3.trans (hb34.mono hb3.size)
  have HM4 := Lib.hid (show MBox w4 zm (.slice (some ⟨gw, 0, none⟩) 12 cw) (.slice (some ⟨gl, 0, none⟩) 12 cl) false by rw [hw4, hzm]; exact MBox.new _ _ _ _)
  have HO4 := Lib.hid (And.intro ((owns_below how hb34).mono HB1.out.size) ((owns_below hol hb34).mono HB1.out.size))
  have HB4 := Lib.hid (below_then HB1.out HB1.out.size hb4)
  have HW4 := Lib.hid (And.intro hzm hw4)
  clear HB1 hb3 hb34 hb4 how hol hzm hw4
  go_upto_region 4 with (fail)
  rw [← HW4.out.1, ← HW4.out.2]
  clear HW4
  go_cut [2] (fun s2 wd => ∃ m : Nat, s2 = .int .i64 (m : Int) ∧ 1 ≤ m ∧ m ≤ 3 ∧ wd = w4)
  case first =>
    go_wp2_with fail
    go_meet
    obtain ⟨m, h1, h2, h3⟩ := rem3 many
    exact ⟨m, by rw [h1], h2, h3, rfl⟩
  case rest =>
  obtain ⟨m, rfl, hm1, hm3, rfl⟩ := hcut
  clear hmy1 hmy2
  have HRD := Lib.hid (show ∀ Z : World, Calls Try.prog 12 #[.int .i64 9, .int .i64 2, .int .i64 (m : Int)] Z fun e w' => e = .returned (.tuple #[.agg #[.int .i64 9, .int .i64 2, .int .i64 (m : Int), .int .i64 0, .int .u64 0, .slice none 0 0, .int .i64 0], .int .i64 0]) ∧ Below Z.heap.size Z w' from fun Z => by
    have h := read_c 9 2 (m : Int) Z
    have hx : rightRB ⟨9, 2, (m : Int), 0, 0, 0⟩ 0 = true := by
      unfold rightRB apartB fitsRB
      simp
      omega
    rw [hx] at h
    exact h)
  have HWY := Lib.hid (fun (Z : World) (q : Option Addr) (c : Nat) (vs : List Int) (hv : NumsAt Z .u64 (.slice q m c) vs) => write_yes 9 2 q m c vs (by
    unfold rightWB apartB fitsWB
    simp
    omega) Z hv)
  unfold wrV at HWY
  dsimp only at HWY
  go_wp2_with fail
  refine (HRD.out _).mono ?_
  rintro e w5 ⟨rfl, hb5⟩
  obtain ⟨zr, hzr⟩ : ∃ z, z = w5.heap.size := ⟨_, rfl⟩
  obtain ⟨w6, hw6⟩ : ∃ X : World, X = w5.alloc (.cells #[.int .i64 9, .int .i64 2, .int .i64 (m : Int), .int .i64 0, .int .u64 0, .slice none 0 0, .int .i64 0] 29) := ⟨_, rfl⟩
  have hb56 : Below w5.heap.size w5 w6 := by rw [hw6]; exact below1 w5 _
  have HM6 := Lib.hid (show WmAt W.heap.size w6 zm zr m from by
    have hb6 := hb5.trans (hb56.mono hb5.size)
    exact ⟨gw, cw, gl, cl, HM4.out.below hb6, by rw [hw6, hzr]; exact World.alloc_heap_new _ _, owns_below HO4.out.1 hb6, owns_below HO4.out.2 hb6⟩)
  have HB6 := Lib.hid (below_then (below_then HB4.out HB4.out.size hb5) (Nat.le_trans HB4.out.size hb5.size) hb56)
  have HW6 := Lib.hid (And.intro hzr hw6)
  clear HM4 HO4 HB4 hb5 hb56 hzr hw6 HRD
  go_upto_region 6 with (fail)
  rw [← HW6.out.1, ← HW6.out.2]
  clear HW6
  obtain ⟨w7, hw7⟩ : ∃ X : World, X = (w6.alloc (.cells (Array.replicate m (Value.int .u64 0)) 27)).alloc (.cells #[.slice (some ⟨w6.heap.size, 0, none⟩) m m] 24) := ⟨_, rfl⟩
  have hmk := run_makeW m (by omega)
  have HI := Lib.hid (show ∃ zh, zh = w6.heap.size + 1 ∧ WhAt W.heap.size w7 m 0 [] [(.slice (some ⟨w6.heap.size, 0, none⟩) m m, List.replicate m 0)] none 0 (some ⟨zh, 0, none⟩) 1 ∧ WmAt W.heap.size w7 zm zr m ∧ Below W.heap.size W w7 from by
    have hb7 : Below w6.heap.size w6 w7 := by rw [hw7]; exact below2 _ _ _
    have hb7' := below_then HB6.out HB6.out.size hb7
    refine ⟨_, rfl, ⟨⟨rfl, rfl, rfl⟩, World.ownsRow_nil _ _ _ _, ?_, fun x hx => (by cases hx), fun x hx => ?_⟩, HM6.out.below hb7, hb7'⟩
    · have h := World.ownsRow_lit (base := W.heap.size) (e := 24) (size := 1) (w6.alloc (.cells (Array.replicate m (Value.int .u64 0)) 27)) #[.slice (some ⟨w6.heap.size, 0, none⟩) m m] 1 (by rw [World.size_alloc]; have := HB6.out.size; omega) (by decide) rfl
      rw [← hw7, World.size_alloc] at h
      exact h
    · rw [List.mem_singleton] at hx
      subst hx
      have h := World.ownsRow_lit (base := W.heap.size) (e := 27) (size := 1) w6 (Array.replicate m (Value.int .u64 0)) m HB6.out.size (by unfold maxLen; omega) (by simp)
      have h2 := owns_below h (below1 _ (.cells #[.slice (some ⟨w6.heap.size, 0, none⟩) m m] 24))
      rw [← hw7] at h2
      dsimp only
      rw [Array.toList_replicate] at h2
      exact ⟨by simp, by rw [List.map_replicate]; exact h2⟩)
  have HW7 := Lib.hid hw7
  clear HM6 HB6 hw7
  go_upto_region 10 with (fail)
  rw [← HW7.out]
  obtain ⟨zh, hzh, HI⟩ := HI.out
  rw [← hzh]
  have HI := Lib.hid HI
  clear HW7 hzh hmk
  go_upto_block 0 with (fail)
  go_cut [11, 12] (fun s11 s12 wc => ∃ (i : Nat) (l : List WrX) (hs : List (Value × List Int)) (q : Option Addr) (c : Nat) (q2 : Option Addr) (c2 : Nat), s11 = .slice q i c ∧ s12 = .slice q2 (i + 1) c2 ∧ i ≤ 4 ∧ Hid (WhAt W.heap.size wc m i l hs q c q2 c2 ∧ WmAt W.heap.size wc zm zr m ∧ Below W.heap.size W wc))
  case first =>
    go_wp2
    go_loopw [11, 12, 46] (fun lv hv iv wr => ∃ (i : Nat) (l : List WrX) (hs : List (Value × List Int)) (q : Option Addr) (c : Nat) (q2 : Option Addr) (c2 : Nat), lv = .slice q i c ∧ hv = .slice q2 (i + 1) c2 ∧ i ≤ nr ∧ i ≤ 4 ∧ iv = .int .i64 (i : Int) ∧ Hid (WhAt W.heap.size wr m i l hs q c q2 c2 ∧ WmAt W.heap.size wr zm zr m ∧ Below W.heap.size W wr)) (fun _ _ iv _ => nr - (pIntOf iv).toNat)
    case atStart => exact ⟨0, [], _, none, 0, _, 1, rfl, rfl, Nat.zero_le _, Nat.zero_le _, rfl, HI⟩
    case round =>
      clear HI
      obtain ⟨i, l, hs, q, c, q2, c2, rfl, rfl, hi, hi4, rfl, HI⟩ := hrel
      by_cases hlt : i < nr
      · by_cases h4 : i = 4
        · have hlr : i < rs.length := by rw [← HNR.out]; exact hlt
          obtain ⟨p0', c0', e, hrows⟩ := HA.out.1
          injection e with e1 e2 e3
          subst e1
          obtain ⟨rb, ro, rfl, hrc⟩ := hrows (by intro e; rw [e] at hlr; exact absurd hlr (Nat.not_lt_zero _))
          obtain ⟨r0, r1, r2⟩ := hrc i hlr
          have hrg := HRG.out rs[i] (List.getElem_mem hlr)
          obtain ⟨⟨ra, rbb, rcc⟩, hre⟩ : ∃ x, x = rs[i] := ⟨_, rfl⟩
          rw [← hre] at r0 r1 r2 hrg
          dsimp only at r0 r1 r2 hrg
          replace r0 := below_cell HI.out.2.2 r0
          replace r1 := below_cell HI.out.2.2 r1
          replace r2 := below_cell HI.out.2.2 r2
          obtain ⟨za, hza⟩ : ∃ z, z = wr.heap.size := ⟨_, rfl⟩
          have HQB := Lib.hid (show ∀ g, (Value.slice q i c).ownBlock = some g → g < za from fun g hg => by rw [hza]; exact (HI.out.1.2.1.lt g hg).2)
          obtain ⟨wa, hwa⟩ : ∃ X : World, X = wr.alloc (.cells #[.int .u64 ra, .int .u64 rbb, .int .u64 rcc] 76) := ⟨_, rfl⟩
          have hba : Below wr.heap.size wr wa := by rw [hwa]; exact below1 _ _
          have hAa : A3Box wa za ra rbb rcc := by rw [hwa, hza]; exact World.alloc_heap_new _ _
          have HIa := Lib.hid (show WhAt W.heap.size wa m i l hs q c q2 c2 ∧ WmAt W.heap.size wa zm zr m ∧ Below W.heap.size W wa from ⟨HI.out.1.below hba, HI.out.2.1.below hba, below_then HI.out.2.2 HI.out.2.2.size hba⟩)
          have HWA := Lib.hid (And.intro hza hwa)
          have hi5 : ((i : Int) == 4) = true := by rw [h4]; rfl
          clear hrc hre hrg hba hAa hza hwa hlr e2 e3 HI h4 HQB
          go_wp2_with fail
          go_meet
          refine ⟨i, l, hs, q, c, q2, c2, rfl, rfl, hi4, ?_⟩
          rw [← HWA.out.2]
          exact HIa
        · have hi3 : i ≤ 3 := by omega
          have hlr : i < rs.length := by rw [← HNR.out]; exact hlt
          obtain ⟨p0', c0', e, hrows⟩ := HA.out.1
          injection e with e1 e2 e3
          subst e1
          obtain ⟨rb, ro, rfl, hrc⟩ := hrows (by intro e; rw [e] at hlr; exact absurd hlr (Nat.not_lt_zero _))
          obtain ⟨r0, r1, r2⟩ := hrc i hlr
          have hrg := HRG.out rs[i] (List.getElem_mem hlr)
          obtain ⟨⟨ra, rbb, rcc⟩, hre⟩ : ∃ x, x = rs[i] := ⟨_, rfl⟩
          rw [← hre] at r0 r1 r2 hrg
          dsimp only at r0 r1 r2 hrg
          replace r0 := below_cell HI.out.2.2 r0
          replace r1 := below_cell HI.out.2.2 r1
          replace r2 := below_cell HI.out.2.2 r2
          obtain ⟨za, hza⟩ : ∃ z, z = wr.heap.size := ⟨_, rfl⟩
          have HQB := Lib.hid (show ∀ g, (Value.slice q i c).ownBlock = some g → g < za from fun g hg => by rw [hza]; exact (HI.out.1.2.1.lt g hg).2)
          obtain ⟨wa, hwa⟩ : ∃ X : World, X = wr.alloc (.cells #[.int .u64 ra, .int .u64 rbb, .int .u64 rcc] 76) := ⟨_, rfl⟩
          have hba : Below wr.heap.size wr wa := by rw [hwa]; exact below1 _ _
          have hAa : A3Box wa za ra rbb rcc := by rw [hwa, hza]; exact World.alloc_heap_new _ _
          obtain ⟨ws, hws⟩ : ∃ x, x = ([ra, rbb, rcc] : List Int).take m := ⟨_, rfl⟩
          have HWS := Lib.hid (show ws.length = m ∧ WRange ws from ⟨by rw [hws]; simp; omega, fun x hx => by
            have hx' := List.mem_of_mem_take (hws ▸ hx)
            simp at hx'
            rcases hx' with rfl | rfl | rfl
            · exact hrg.1
            · exact hrg.2.1
            · exact hrg.2.2⟩)
          have HAN := Lib.hid (show ∀ Z : World, A3Box Z za ra rbb rcc → NumsAt Z .u64 (.slice (some ⟨za, 0, none⟩) m 3) ws ∧ ValsAt Z (.slice (some ⟨za, 0, none⟩) m 3) 1 m (ws.map (Value.int .u64)) from fun Z h => by rw [hws]; exact ⟨h.nums m ⟨hm1, hm3⟩, h.vals m ⟨hm1, hm3⟩⟩)
          have HIa := Lib.hid (show WhAt W.heap.size wa m i l hs q c q2 c2 ∧ WmAt W.heap.size wa zm zr m ∧ Below W.heap.size W wa from ⟨HI.out.1.below hba, HI.out.2.1.below hba, below_then HI.out.2.2 HI.out.2.2.size hba⟩)
          have HWR := Lib.hid (HWY.out wa (some ⟨za, 0, none⟩) 3 ws (HAN.out wa hAa).1)
          have HAa := Lib.hid hAa
          have HWA := Lib.hid (And.intro hza hwa)
          have hsl := cut3 za m hm3
          have hi5 : ((i : Int) == 4) = false := by rw [beq_eq_false_iff_ne]; omega
          clear hrc hre hrg hws hba hAa hza hwa hlr e2 e3 HI h4
          go_upto_region 14 with fail
          rw [← HWA.out.1, ← HWA.out.2]
          clear HWA r0 r1 r2
          go_wp2_with fail
          refine HWR.out.mono ?_
          rintro e w5 ⟨⟨q5, c5, rfl, ho5⟩, hb5⟩
          obtain ⟨zw, hzw⟩ : ∃ z, z = w5.heap.size := ⟨_, rfl⟩
          obtain ⟨w6, hw6⟩ : ∃ X : World, X = w5.alloc (.cells #[.int .i64 9, .int .i64 2, .slice q5 m c5, .int .i64 0, .int .u64 0, .int .i64 0] 34) := ⟨_, rfl⟩
          have hb56 : Below w5.heap.size w5 w6 := by rw [hw6]; exact below1 w5 _
          have hb6 := hb5.trans (hb56.mono hb5.size)
          have HZW := Lib.hid (show za < zw from by have h1 := HAa.out; have h2 := (Array.getElem?_eq_some_iff.1 (show wa.heap[za]? = _ from h1)).1; have := hb5.size; omega)
          have HV6 := Lib.hid (show WrBox w6 zw ⟨9, 2, 0, 0, 0⟩ (.slice q5 m c5) by rw [hw6, hzw]; exact World.alloc_heap_new _ _)
          have HO6 := Lib.hid ((owns_below ho5 hb56).mono HIa.out.2.2.size)
          have HA6 := Lib.hid (HAa.out.below hb6)
          have HI6 := Lib.hid (show WhAt W.heap.size w6 m i l hs q c q2 c2 ∧ WmAt W.heap.size w6 zm zr m ∧ Below W.heap.size W w6 from ⟨HIa.out.1.below hb6, HIa.out.2.1.below hb6, below_then HIa.out.2.2 HIa.out.2.2.size hb6⟩)
          have HW6 := Lib.hid (And.intro hzw hw6)
          clear hzw hw6 hb5 hb56 hb6 ho5 HIa HAa HWR
          go_upto_region 17 with (fail)
          rw [← HW6.out.1, ← HW6.out.2]
          clear HW6
          refine wpTwo_begin (T := fun w' => WrBox w' zw ⟨9, 2, 0, 0, 0⟩ (.slice q5 m c5)) (S := fun _ => True) (late := fun _ => false) (by kernel_rfl) ?_
          obtain ⟨X0, hX0⟩ : ∃ X : World, X = w6.drew := ⟨_, rfl⟩
          rw [← hX0]
          have hb : Below w6.heap.size w6 X0 := by rw [hX0]; exact (Below.refl _ _).drew
          have hT0 := HV6.out.below hb
          have HO0 := Lib.hid (owns_below HO6.out hb)
          have HA0 := Lib.hid (HA6.out.below hb)
          have HI0 := Lib.hid (show WhAt W.heap.size X0 m i l hs q c q2 c2 ∧ WmAt W.heap.size X0 zm zr m ∧ Below W.heap.size W X0 from ⟨HI6.out.1.below hb, HI6.out.2.1.below hb, below_then HI6.out.2.2 HI6.out.2.2.size hb⟩)
          clear hX0 hb HV6 HO6 HA6 HI6
          refine wpTwo_takeT (i := 0) (v := .slice q i c) rfl (by kernel_rfl) (by kernel_rfl) (by kernel_rfl) (fun _ _ _ h => h) ⟨by rfl, ?_⟩ hT0 ?_
          · rintro w hTw
            go_simp
          (try simp only [Act.put, List.getElem_toArray, List.getElem_cons_zero, List.setIfInBounds_toArray, List.set_cons_succ, List.set_cons_zero])
          refine wpTwo_takeT (i := 1) (v := .agg #[.int .i64 9, .int .i64 2, .slice q5 m c5, .int .i64 0, .int .u64 0, .int .i64 0]) rfl (by kernel_rfl) (by kernel_rfl) (by kernel_rfl) (fun _ _ _ h => h) ⟨by rfl, ?_⟩ hT0 ?_
          · rintro w hTw
            obtain ⟨t1, t2, t3, t4, t5, t6⟩ := hTw.cells
            go_simp
          (try simp only [Act.put, List.getElem_toArray, List.getElem_cons_succ, List.getElem_cons_zero, List.setIfInBounds_toArray, List.set_cons_succ, List.set_cons_zero])
          refine wpTwo_takeT (i := 4) (v := .slice q2 (i + 1) c2) rfl (by kernel_rfl) (by kernel_rfl) (by kernel_rfl) (fun _ _ _ h => h) ⟨by rfl, ?_⟩ hT0 ?_
          · rintro w hTw
            go_simp
          (try simp only [Act.put, List.getElem_toArray, List.getElem_cons_succ, List.getElem_cons_zero, List.setIfInBounds_toArray, List.set_cons_succ, List.set_cons_zero])
          refine wpTwo_takeT (i := 5) (v := .int .i64 (m : Int)) rfl (by kernel_rfl) (by kernel_rfl) (by kernel_rfl) (fun _ _ _ h => h) ⟨by rfl, ?_⟩ hT0 ?_
          · rintro w hTw
            go_simp
          (try simp only [Act.put, List.getElem_toArray, List.getElem_cons_succ, List.getElem_cons_zero, List.setIfInBounds_toArray, List.set_cons_succ, List.set_cons_zero])
          refine wpTwo_takeT (i := 6) (v := .slice (some ⟨za, 0, none⟩) m 3) rfl (by kernel_rfl) (by kernel_rfl) (by kernel_rfl) (fun _ _ _ h => h) ⟨by rfl, ?_⟩ hT0 ?_
          · rintro w hTw
            have hsl' := hsl w
            go_simp
          (try simp only [Act.put, List.getElem_toArray, List.getElem_cons_succ, List.getElem_cons_zero, List.setIfInBounds_toArray, List.set_cons_succ, List.set_cons_zero])
          refine wpTwo_ready (rs := [2]) (by kernel_rfl) (by simp) ?_
          refine (AllTwo.cons rfl (fun K hK => ?_) AllTwo.nil)
          go_simp
          obtain ⟨zl, hzl⟩ : ∃ z, z = X0.heap.size := ⟨_, rfl⟩
          obtain ⟨X1, hX1⟩ : ∃ X : World, X = X0.alloc (.cells #[.int .i64 9, .int .i64 2, .slice q5 m c5, .int .i64 0, .int .u64 0, .int .i64 0] 34) := ⟨_, rfl⟩
          rw [← hX1, ← hzl]
          have hb : Below X0.heap.size X0 X1 := by rw [hX1]; exact below1 _ _
          have hT1 := hT0.below hb
          have HL1 := Lib.hid (show WrBox X1 zl ⟨9, 2, 0, 0, 0⟩ (.slice q5 m c5) by rw [hX1, hzl]; exact World.alloc_heap_new _ _)
          have HO1 := Lib.hid (owns_below HO0.out hb)
          have HA1 := Lib.hid (HA0.out.below hb)
          have HI1 := Lib.hid (show WhAt W.heap.size X1 m i l hs q c q2 c2 ∧ WmAt W.heap.size X1 zm zr m ∧ Below W.heap.size W X1 from ⟨HI0.out.1.below hb, HI0.out.2.1.below hb, below_then HI0.out.2.2 HI0.out.2.2.size hb⟩)
          clear hb hX1 hzl HO0 HA0 HI0
          refine hK.out _ _ ⟨hT1, fun _ _ => trivial⟩ ?_
          clear hK K hT0
          (try simp only [Act.put, List.getElem_toArray, List.getElem_cons_succ, List.getElem_cons_zero, List.setIfInBounds_toArray, List.set_cons_succ, List.set_cons_zero])
          refine wpTwo_ready (rs := [3]) (by kernel_rfl) (by simp) ?_
          refine (AllTwo.cons rfl (fun K hK => ?_) AllTwo.nil)
          obtain ⟨iw, hiw, hw0, hw1, hw2⟩ := info_parts wrinfo
          refine step_appG (by rfl) _ _ (by rfl) Try.underlying64 hiw hw0 hw1 hw2 (by decide) (by decide) (by rfl) HI1.out.1.2.1 (by rfl) (news := wcells ⟨⟨9, 2, 0, 0, 0⟩, .slice q5 m c5, ws⟩) (by rfl) (fun j u hj => ?wnews) (by intro u hu; simp only [wcells, List.mem_cons, List.not_mem_nil, or_false] at hu; rcases hu with rfl | rfl | rfl | rfl | rfl | rfl <;> rfl) HI1.out.2.2.size (by omega) (by decide) ?wgo
          case wnews =>
            obtain ⟨t1, t2, t3, t4, t5, t6⟩ := HL1.out.cells
            rw [addr_add_off, Nat.zero_add]
            simp only [wcells] at hj
            have hj6 : j < 6 := by have := (List.getElem?_eq_some_iff.1 hj).1; simpa using this
            rcases (by omega : j = 0 ∨ j = 1 ∨ j = 2 ∨ j = 3 ∨ j = 4 ∨ j = 5) with rfl | rfl | rfl | rfl | rfl | rfl <;> (simp at hj; subst hj; assumption)
          case wgo =>
          intro q7 c7 X2 ho7 hb7 hg7
          have hk7 := keeps_grown hg7
          have hT2 : WrBox X2 zw ⟨9, 2, 0, 0, 0⟩ (.slice q5 m c5) := (hk7.block zw hT1.lt (fun e => by have h1 := HQB.out _ e; have h2 := HZW.out; omega)).trans hT1
          have HO2 := Lib.hid (hk7.row HO1.out (fun g hg e => owns_ne HO1.out HI1.out.1.2.1 (by decide) hg e rfl))
          have HA2 := Lib.hid (show A3Box X2 za ra rbb rcc from (hk7.block za (Array.getElem?_eq_some_iff.1 (show X1.heap[za]? = _ from HA1.out)).1 (fun e => by have h1 := HQB.out _ e; omega)).trans HA1.out)
          have HL2 := Lib.hid (show X2.ownsRow W.heap.size 34 6 (.slice q7 (i + 1) c7) (i + 1) (flatW (l ++ [⟨⟨9, 2, 0, 0, 0⟩, .slice q5 m c5, ws⟩])) from by rw [flatW_snoc]; exact ho7)
          have HH2 := Lib.hid (show X2.ownsRow W.heap.size 24 1 (.slice q2 (i + 1) c2) (i + 1) (hs.map (·.1)) ∧ (∀ x ∈ l, x.s = ⟨9, 2, 0, 0, 0⟩ ∧ x.vs.length = m ∧ WRange x.vs ∧ X2.ownsRow W.heap.size 27 1 x.v m (x.vs.map (Value.int .u64))) ∧ (∀ x ∈ hs, x.2.length = m ∧ X2.ownsRow W.heap.size 27 1 x.1 m (x.2.map (Value.int .u64))) from
            ⟨hk7.row HI1.out.1.2.2.1 (fun g hg e => owns_ne HI1.out.1.2.2.1 HI1.out.1.2.1 (by decide) hg e rfl),
             fun x hx => ⟨(HI1.out.1.2.2.2.1 x hx).1, (HI1.out.1.2.2.2.1 x hx).2.1, (HI1.out.1.2.2.2.1 x hx).2.2.1, hk7.row (HI1.out.1.2.2.2.1 x hx).2.2.2 (fun g hg e => owns_ne (HI1.out.1.2.2.2.1 x hx).2.2.2 HI1.out.1.2.1 (by decide) hg e rfl)⟩,
             fun x hx => ⟨(HI1.out.1.2.2.2.2 x hx).1, hk7.row (HI1.out.1.2.2.2.2 x hx).2 (fun g hg e => owns_ne (HI1.out.1.2.2.2.2 x hx).2 HI1.out.1.2.1 (by decide) hg e rfl)⟩⟩)
          have HM2 := Lib.hid (show WmAt W.heap.size X2 zm zr m from by
            obtain ⟨gw, cw, gl, cl, k1, k2, k3, k4⟩ := HI1.out.2.1
            exact ⟨gw, cw, gl, cl, k1.keeps hk7 (fun e => k1.row HI1.out.1.2.1 (by decide) e rfl), (hk7.block zr k2.lt (fun e => RdBox.row k2 HI1.out.1.2.1 (by decide) e rfl)).trans k2, hk7.row k3 (fun g hg e => owns_ne k3 HI1.out.1.2.1 (by decide) hg e rfl), hk7.row k4 (fun g hg e => owns_ne k4 HI1.out.1.2.1 (by decide) hg e rfl)⟩)
          have HE2 := Lib.hid HI1.out.1.1
          have HB2 := Lib.hid (HI1.out.2.2.trans hb7)
          clear hk7 hg7 hb7 ho7 HL1 HI1 HO1 HA1 hiw hw0 hw1 hw2 iw
          refine hK.out _ _ ⟨hT2, fun _ _ => trivial⟩ ?_
          clear hK K hT1
          (try simp only [Act.put, List.getElem_toArray, List.getElem_cons_succ, List.getElem_cons_zero, List.setIfInBounds_toArray, List.set_cons_succ, List.set_cons_zero])
          refine wpTwo_ready (rs := [7]) (by kernel_rfl) (by simp) ?_
          refine (AllTwo.cons rfl (fun K hK => ?_) AllTwo.nil)
          go_simp
          refine (cloneW (.slice (some ⟨za, 0, none⟩) m 3) m (ws.map (Value.int .u64)) X2 (HAN.out X2 HA2.out).2 (fun u hu => by obtain ⟨x, _, rfl⟩ := List.mem_map.1 hu; rfl) (by omega)).mono ?_
          rintro e X3 ⟨⟨v8, rfl, ho8⟩, hb⟩
          obtain ⟨q8, c8, rfl⟩ := own_slice ho8
          have hT3 := hT2.below hb
          have HO3 := Lib.hid (owns_below HO2.out hb)
          have HL3 := Lib.hid (owns_below HL2.out hb)
          have HH3 := Lib.hid (And.intro (owns_below HH2.out.1 hb) (And.intro (fun x hx => And.intro (HH2.out.2.1 x hx).1 (And.intro (HH2.out.2.1 x hx).2.1 (And.intro (HH2.out.2.1 x hx).2.2.1 (owns_below (HH2.out.2.1 x hx).2.2.2 hb)))) (fun x hx => And.intro (HH2.out.2.2 x hx).1 (owns_below (HH2.out.2.2 x hx).2 hb))))
          have HM3 := Lib.hid (HM2.out.below hb)
          have HC3 := Lib.hid (ho8.mono HB2.out.size)
          have HB3 := Lib.hid (below_then HB2.out HB2.out.size hb)
          clear hb ho8 HO2 HL2 HH2 HM2 HA2 HB2
          go_wp2_with fail
          refine hK.out _ _ ⟨hT3, fun _ _ => trivial⟩ ?_
          clear hK K hT2
          (try simp only [Act.put, List.getElem_toArray, List.getElem_cons_succ, List.getElem_cons_zero, List.setIfInBounds_toArray, List.set_cons_succ, List.set_cons_zero])
          refine wpTwo_ready (rs := [8]) (by kernel_rfl) (by simp) ?_
          refine (AllTwo.cons rfl (fun K hK => ?_) AllTwo.nil)
          go_simp
          obtain ⟨zs, hzs⟩ : ∃ z, z = X3.heap.size := ⟨_, rfl⟩
          obtain ⟨X4, hX4⟩ : ∃ X : World, X = X3.alloc (.cells #[.slice q8 m c8] 24) := ⟨_, rfl⟩
          rw [← hX4, ← hzs]
          have hb : Below X3.heap.size X3 X4 := by rw [hX4]; exact below1 _ _
          have hT4 := hT3.below hb
          have HS4 := Lib.hid (show X4.cell? ⟨zs, 0, none⟩ = some (.slice q8 m c8) from by
            have h := World.alloc_heap_new X3 (.cells #[.slice q8 m c8] 24)
            rw [← hX4, ← hzs] at h
            simp [World.cell?, h])
          have HO4 := Lib.hid (owns_below HO3.out hb)
          have HL4 := Lib.hid (owns_below HL3.out hb)
          have HH4 := Lib.hid (And.intro (owns_below HH3.out.1 hb) (And.intro (fun x hx => And.intro (HH3.out.2.1 x hx).1 (And.intro (HH3.out.2.1 x hx).2.1 (And.intro (HH3.out.2.1 x hx).2.2.1 (owns_below (HH3.out.2.1 x hx).2.2.2 hb)))) (fun x hx => And.intro (HH3.out.2.2 x hx).1 (owns_below (HH3.out.2.2 x hx).2 hb))))
          have HM4 := Lib.hid (HM3.out.below hb)
          have HC4 := Lib.hid (owns_below HC3.out hb)
          have HB4 := Lib.hid (below_then HB3.out HB3.out.size hb)
          clear hb hX4 hzs HO3 HL3 HH3 HM3 HC3 HB3
          refine hK.out _ _ ⟨hT4, fun _ _ => trivial⟩ ?_
          clear hK K hT3
          (try simp only [Act.put, List.getElem_toArray, List.getElem_cons_succ, List.getElem_cons_zero, List.setIfInBounds_toArray, List.set_cons_succ, List.set_cons_zero])
          refine wpTwo_ready (rs := [9]) (by kernel_rfl) (by simp) ?_
          refine (AllTwo.cons rfl (fun K hK => ?_) AllTwo.nil)
          obtain ⟨iw, hiw, hw0, hw1, hw2⟩ := info_parts slinfo
          refine step_appG (by rfl) _ _ (by rfl) Try.underlying75 hiw hw0 hw1 hw2 (by decide) (by decide) (by rfl) HH4.out.1 (by rfl) (news := [.slice q8 m c8]) (by rfl) (fun j u hj => ?hnews) (by intro u hu; simp at hu; subst hu; rfl) HB4.out.size (by omega) (by decide) ?hgo
          case hnews =>
            rw [addr_add_off, Nat.zero_add]
            have hj0 : j = 0 := by have := (List.getElem?_eq_some_iff.1 hj).1; simp at this; exact this
            subst hj0
            simp at hj
            subst hj
            exact HS4.out
          case hgo =>
          intro q9 c9 X5 ho9 hb9 hg9
          have hk9 := keeps_grown hg9
          have hT5 : WrBox X5 zw ⟨9, 2, 0, 0, 0⟩ (.slice q5 m c5) := (hk9.block zw hT4.lt (fun e => hT4.row' HH4.out.1 (by decide) e rfl)).trans hT4
          have HF := Lib.hid (show WhAt W.heap.size X5 m (i + 1) (l ++ [⟨⟨9, 2, 0, 0, 0⟩, .slice q5 m c5, ws⟩]) (hs ++ [(.slice q8 m c8, ws)]) q7 c7 q9 c9 from by
            obtain ⟨e1, e2, e3⟩ := HE2.out
            refine ⟨⟨by simp [e1], by simp [e2], by rw [List.map_append, List.map_append, e3]; rfl⟩, hk9.row HL4.out (fun g hg e => owns_ne HL4.out HH4.out.1 (by decide) hg e rfl), by rw [List.map_append]; exact ho9, fun x hx => ?_, fun x hx => ?_⟩
            · rcases List.mem_append.1 hx with hx | hx
              · obtain ⟨d1, d2, d3, d4⟩ := HH4.out.2.1 x hx
                exact ⟨d1, d2, d3, hk9.row d4 (fun g hg e => owns_ne d4 HH4.out.1 (by decide) hg e rfl)⟩
              · rw [List.mem_singleton] at hx
                subst hx
                exact ⟨rfl, HWS.out.1, HWS.out.2, hk9.row HO4.out (fun g hg e => owns_ne HO4.out HH4.out.1 (by decide) hg e rfl)⟩
            · rcases List.mem_append.1 hx with hx | hx
              · obtain ⟨d1, d4⟩ := HH4.out.2.2 x hx
                exact ⟨d1, hk9.row d4 (fun g hg e => owns_ne d4 HH4.out.1 (by decide) hg e rfl)⟩
              · rw [List.mem_singleton] at hx
                subst hx
                exact ⟨HWS.out.1, hk9.row HC4.out (fun g hg e => owns_ne HC4.out HH4.out.1 (by decide) hg e rfl)⟩)
          have HMF := Lib.hid (show WmAt W.heap.size X5 zm zr m from by
            obtain ⟨gw, cw, gl, cl, k1, k2, k3, k4⟩ := HM4.out
            exact ⟨gw, cw, gl, cl, k1.keeps hk9 (fun e => k1.row HH4.out.1 (by decide) e rfl), (hk9.block zr k2.lt (fun e => RdBox.row k2 HH4.out.1 (by decide) e rfl)).trans k2, hk9.row k3 (fun g hg e => owns_ne k3 HH4.out.1 (by decide) hg e rfl), hk9.row k4 (fun g hg e => owns_ne k4 HH4.out.1 (by decide) hg e rfl)⟩)
          have HBF := Lib.hid (HB4.out.trans hb9)
          clear hk9 hg9 hb9 ho9 HS4 HO4 HL4 HH4 HM4 HC4 HB4 hiw hw0 hw1 hw2 iw HE2
          refine hK.out _ _ ⟨hT5, fun _ _ => trivial⟩ ?_
          clear hK K hT4
          (try simp only [Act.put, List.getElem_toArray, List.getElem_cons_succ, List.getElem_cons_zero, List.setIfInBounds_toArray, List.set_cons_succ, List.set_cons_zero])
          refine wpTwo_takeT (i := 10) (v := .slice q7 (i + 1) c7) rfl (by kernel_rfl) (by kernel_rfl) (by kernel_rfl) (fun _ _ _ h => h) ⟨by rfl, ?_⟩ hT5 ?_
          · rintro w hTw
            go_simp
          (try simp only [Act.put, List.getElem_toArray, List.getElem_cons_succ, List.getElem_cons_zero, List.setIfInBounds_toArray, List.set_cons_succ, List.set_cons_zero])
          refine wpTwo_takeT (i := 11) (v := .slice q9 (i + 1 + 1) c9) rfl (by kernel_rfl) (by kernel_rfl) (by kernel_rfl) (fun _ _ _ h => h) ⟨by rfl, ?_⟩ hT5 ?_
          · rintro w hTw
            go_simp
          (try simp only [Act.put, List.getElem_toArray, List.getElem_cons_succ, List.getElem_cons_zero, List.setIfInBounds_toArray, List.set_cons_succ, List.set_cons_zero])
          refine wpTwo_end (by kernel_rfl) ?_ _
          clear hsl hi5
          go_wp2
          go_roundw
          case rel => exact ⟨i + 1, _, _, q7, c7, q9, c9, rfl, rfl, by omega, by omega, by go_num, Lib.hid ⟨HF.out, HMF.out, HBF.out⟩⟩
          case measure => simp [pIntOf]; omega
      · go_wp2_with fail
        go_meet
        exact ⟨i, l, hs, q, c, q2, c2, rfl, rfl, hi4, HI⟩
  case rest =>
  obtain ⟨i, l, hs, q, c, q2, c2, rfl, rfl, hi4, HI⟩ := hcut
  clear HWY
  obtain ⟨w8, hw8⟩ : ∃ X : World, X = wc := ⟨_, rfl⟩
  rw [← hw8] at HI ⊢
  clear hw8
  go_upto_region 19 with (fail)
  go_cut [10, 17, 18] (fun s10 s17 s18 wc => ∃ (y7 y8 : Nat) (a g m' ph b t0 : Int) (vs : List Int) (pv : Option Addr) (cv gw2 cw2 gl2 cl2 n : Nat), s10 = .int .i64 0 ∧ s17 = .pointer (some ⟨y7, 0, none⟩) ∧ s18 = .pointer (some ⟨y8, 0, none⟩) ∧ Hid ((t0 ≤ i ∧ ph ≠ 5 ∧ (ph = 4 → vs ∈ hs.map (·.2))) ∧ (l.length = i ∧ hs.length = i + 1 ∧ hs.map (·.2) = List.replicate m 0 :: l.map (·.vs)) ∧ (MBox wc y7 (.slice (some ⟨gw2, 0, none⟩) n cw2) (.slice (some ⟨gl2, 0, none⟩) 12 cl2) false ∧ RdBox wc y8 ⟨a, g, m', ph, b, t0⟩ (.slice pv vs.length cv) ∧ wc.ownsRow W.heap.size 27 1 (.slice pv vs.length cv) vs.length (vs.map (Value.int .u64)) ∧ wc.ownsRow W.heap.size 24 1 (.slice q2 (i + 1) c2) (i + 1) (hs.map (·.1)) ∧ (∀ x ∈ hs, x.2.length = m ∧ wc.ownsRow W.heap.size 27 1 x.1 m (x.2.map (Value.int .u64)))) ∧ Below W.heap.size W wc))
  case first =>
    obtain ⟨hWh, ⟨gw, cw, gl, cl, k1, k2, k3, k4⟩, hB8⟩ := HI.out
    refine wpTwo_begin (T := fun w' => MBox w' zm (.slice (some ⟨gw, 0, none⟩) 12 cw) (.slice (some ⟨gl, 0, none⟩) 12 cl) false ∧ RdBox w' zr ⟨9, 2, m, 0, 0, 0⟩ (.slice none 0 0)) (S := fun _ => True) (late := fun _ => false) (by kernel_rfl) ?_
    obtain ⟨X0, hX0⟩ : ∃ X : World, X = w8.drew := ⟨_, rfl⟩
    rw [← hX0]
    have hb : Below w8.heap.size w8 X0 := by rw [hX0]; exact (Below.refl _ _).drew
    have hT0 := And.intro (k1.below hb) (k2.below hb)
    have HI0 := Lib.hid (And.intro (hWh.below hb) (And.intro (owns_below k3 hb) (owns_below k4 hb)))
    have HB0 := Lib.hid (below_then hB8 hB8.size hb)
    clear hX0 hb hWh k1 k2 k3 k4 hB8 HI
    refine wpTwo_takeT (i := 0) (v := .agg #[.slice (some ⟨gw, 0, none⟩) 12 cw, .slice (some ⟨gl, 0, none⟩) 12 cl, .bool false]) rfl (by kernel_rfl) (by kernel_rfl) (by kernel_rfl) (fun _ _ _ h => h) ⟨by rfl, ?_⟩ hT0 ?_
    · rintro w hTw
      obtain ⟨⟨t1, t2, t3⟩, _⟩ := mbox_cells hTw.1
      go_simp
    (try simp only [Act.put, List.getElem_toArray, List.getElem_cons_zero, List.setIfInBounds_toArray, List.set_cons_succ, List.set_cons_zero])
    refine wpTwo_takeT (i := 1) (v := .agg #[.int .i64 9, .int .i64 2, .int .i64 (m : Int), .int .i64 0, .int .u64 0, .slice none 0 0, .int .i64 0]) rfl (by kernel_rfl) (by kernel_rfl) (by kernel_rfl) (fun _ _ _ h => h) ⟨by rfl, ?_⟩ hT0 ?_
    · rintro w hTw
      obtain ⟨t1, t2, t3, t4, t5, t6, t7⟩ := hTw.2.cells
      go_simp
    (try simp only [Act.put, List.getElem_toArray, List.getElem_cons_succ, List.getElem_cons_zero, List.setIfInBounds_toArray, List.set_cons_succ, List.set_cons_zero])
    refine wpTwo_takeT (i := 2) (v := .slice q i c) rfl (by kernel_rfl) (by kernel_rfl) (by kernel_rfl) (fun _ _ _ h => h) ⟨by rfl, ?_⟩ hT0 ?_
    · rintro w hTw
      go_simp
    (try simp only [Act.put, List.getElem_toArray, List.getElem_cons_succ, List.getElem_cons_zero, List.setIfInBounds_toArray, List.set_cons_succ, List.set_cons_zero])
    refine wpTwo_takeT (i := 3) (v := .slice p1 n1 c1) rfl (by kernel_rfl) (by kernel_rfl) (by kernel_rfl) (fun _ _ _ h => h) ⟨by rfl, ?_⟩ hT0 ?_
    · rintro w hTw
      go_simp
    (try simp only [Act.put, List.getElem_toArray, List.getElem_cons_succ, List.getElem_cons_zero, List.setIfInBounds_toArray, List.set_cons_succ, List.set_cons_zero])
    refine wpTwo_takeT (i := 4) (v := .slice p1 n1 c1) rfl (by kernel_rfl) (by kernel_rfl) (by kernel_rfl) (fun _ _ _ h => h) ⟨by rfl, ?_⟩ hT0 ?_
    · rintro w hTw
      go_simp
    (try simp only [Act.put, List.getElem_toArray, List.getElem_cons_succ, List.getElem_cons_zero, List.setIfInBounds_toArray, List.set_cons_succ, List.set_cons_zero])
    refine wpTwo_takeT (i := 5) (v := .int .i64 (n1 : Int)) rfl (by kernel_rfl) (by kernel_rfl) (by kernel_rfl) (fun _ _ _ h => h) ⟨by rfl, ?_⟩ hT0 ?_
    · rintro w hTw
      go_simp
    (try simp only [Act.put, List.getElem_toArray, List.getElem_cons_succ, List.getElem_cons_zero, List.setIfInBounds_toArray, List.set_cons_succ, List.set_cons_zero])
    refine wpTwo_takeT (i := 6) (v := .int .i64 (kb : Int)) rfl (by kernel_rfl) (by kernel_rfl) (by kernel_rfl) (fun _ _ _ h => h) ⟨by rfl, ?_⟩ hT0 ?_
    · rintro w hTw
      have hx := HCUT.out.2 w
      go_simp
    (try simp only [Act.put, List.getElem_toArray, List.getElem_cons_succ, List.getElem_cons_zero, List.setIfInBounds_toArray, List.set_cons_succ, List.set_cons_zero])
    refine wpTwo_takeT (i := 7) (v := .slice p1 kb c1) rfl (by kernel_rfl) (by kernel_rfl) (by kernel_rfl) (fun _ _ _ h => h) ⟨by rfl, ?_⟩ hT0 ?_
    · rintro w hTw
      have hx := HCUT.out.1 w
      go_simp
    (try simp only [Act.put, List.getElem_toArray, List.getElem_cons_succ, List.getElem_cons_zero, List.setIfInBounds_toArray, List.set_cons_succ, List.set_cons_zero])
    refine wpTwo_ready (rs := [8, 13, 14]) (by kernel_rfl) (by simp) ?_
    refine (AllTwo.cons rfl (fun K hK => ?_) (AllTwo.cons rfl (fun K hK => ?_) (AllTwo.cons rfl (fun K hK => ?_) AllTwo.nil)))
    · go_simp
      refine (wplay_c W.heap.size m i ⟨hm1, hm3⟩ hi4 l hs q c q2 c2 gw cw gl cl p1 c1 kb (bs.take 80) X0 HI0.out.1 HI0.out.2.1 HI0.out.2.2 (argr_pk (HA.out.2.below HB0.out) 80) HPK.out.1 HPK.out.2).mono ?_
      rintro e X1 ⟨⟨gw2, cw2, gl2, cl2, n, pv, cv, ⟨a, g, m', ph, b, t0⟩, vs, rfl, hfs, ho⟩, hb⟩
      dsimp only at hfs
      have hT1 := And.intro (hT0.1.below hb) (hT0.2.below hb)
      have HI1 := Lib.hid (And.intro (HI0.out.1.below hb) (And.intro (owns_below HI0.out.2.1 hb) (owns_below HI0.out.2.2 hb)))
      have HB1 := Lib.hid (below_then HB0.out HB0.out.size hb)
      have HO1 := Lib.hid (And.intro hfs (ho.mono HB0.out.size))
      clear hb ho hfs
      unfold rdV
      dsimp only
      go_wp2_with fail
      refine hK.out _ _ ⟨hT1, fun _ _ => trivial⟩ ?_
      clear hK K
      (try simp only [Act.put, List.getElem_toArray, List.getElem_cons_succ, List.getElem_cons_zero, List.setIfInBounds_toArray, List.set_cons_succ, List.set_cons_zero])
      refine wpTwo_takeT (i := 9) (v := .tuple #[.agg #[.slice (some ⟨gw2, 0, none⟩) n cw2, .slice (some ⟨gl2, 0, none⟩) 12 cl2, .bool false], .agg #[.int .i64 a, .int .i64 g, .int .i64 m', .int .i64 ph, .int .u64 b, .slice pv vs.length cv, .int .i64 t0], .int .i64 0]) rfl (by kernel_rfl) (by kernel_rfl) (by kernel_rfl) (fun _ _ _ h => h) ⟨by rfl, ?_⟩ hT1 ?_
      · rintro w hTw
        go_simp
      (try simp only [Act.put, List.getElem_toArray, List.getElem_cons_succ, List.getElem_cons_zero, List.setIfInBounds_toArray, List.set_cons_succ, List.set_cons_zero])
      refine wpTwo_takeT (i := 10) (v := .agg #[.slice (some ⟨gw2, 0, none⟩) n cw2, .slice (some ⟨gl2, 0, none⟩) 12 cl2, .bool false]) rfl (by kernel_rfl) (by kernel_rfl) (by kernel_rfl) (fun _ _ _ h => h) ⟨by rfl, ?_⟩ hT1 ?_
      · rintro w hTw
        go_simp
      (try simp only [Act.put, List.getElem_toArray, List.getElem_cons_succ, List.getElem_cons_zero, List.setIfInBounds_toArray, List.set_cons_succ, List.set_cons_zero])
      refine wpTwo_takeT (i := 11) (v := .agg #[.int .i64 a, .int .i64 g, .int .i64 m', .int .i64 ph, .int .u64 b, .slice pv vs.length cv, .int .i64 t0]) rfl (by kernel_rfl) (by kernel_rfl) (by kernel_rfl) (fun _ _ _ h => h) ⟨by rfl, ?_⟩ hT1 ?_
      · rintro w hTw
        go_simp
      (try simp only [Act.put, List.getElem_toArray, List.getElem_cons_succ, List.getElem_cons_zero, List.setIfInBounds_toArray, List.set_cons_succ, List.set_cons_zero])
      refine wpTwo_takeT (i := 12) (v := .int .i64 0) rfl (by kernel_rfl) (by kernel_rfl) (by kernel_rfl) (fun _ _ _ h => h) ⟨by rfl, ?_⟩ hT1 ?_
      · rintro w hTw
        go_simp
      (try simp only [Act.put, List.getElem_toArray, List.getElem_cons_succ, List.getElem_cons_zero, List.setIfInBounds_toArray, List.set_cons_succ, List.set_cons_zero])
      refine wpTwo_ready (rs := [13, 14]) (by kernel_rfl) (by simp) ?_
      refine (AllTwo.cons rfl (fun K hK => ?_) (AllTwo.cons rfl (fun K hK => ?_) AllTwo.nil))
      · go_simp
        obtain ⟨y7, hy⟩ : ∃ q, q = X1.heap.size := ⟨_, rfl⟩
        obtain ⟨X2, hX⟩ : ∃ X : World, X = X1.alloc (.cells #[.slice none 0 0, .slice none 0 0, .bool false] 44) := ⟨_, rfl⟩
        rw [← hX, ← hy]
        have hb : Below X1.heap.size X1 X2 := by rw [hX]; exact below1 _ _
        have hl7 : zm < y7 ∧ zr < y7 ∧ W.heap.size ≤ y7 := by rw [hy]; exact ⟨hT1.1.lt, hT1.2.lt, HB1.out.size⟩
        have hT2 := And.intro (hT1.1.below hb) (hT1.2.below hb)
        have HI2 := Lib.hid (And.intro (HI1.out.1.below hb) (And.intro (owns_below HI1.out.2.1 hb) (owns_below HI1.out.2.2 hb)))
        have HO2 := Lib.hid (And.intro HO1.out.1 (owns_below HO1.out.2 hb))
        have HB2 := Lib.hid (below_then HB1.out HB1.out.size hb)
        have HA_2 := Lib.hid (show MBox X2 y7 (.slice none 0 0) (.slice none 0 0) false by rw [hX, hy]; exact MBox.new _ _ _ _)
        clear hb hX hy
        refine hK.out _ _ ⟨hT2, fun _ _ => trivial⟩ ?_
        clear hK K
        (try simp only [Act.put, List.getElem_toArray, List.getElem_cons_succ, List.getElem_cons_zero, List.setIfInBounds_toArray, List.set_cons_succ, List.set_cons_zero])
        refine wpTwo_ready (rs := [14]) (by kernel_rfl) (by simp) ?_
        refine (AllTwo.cons rfl (fun K hK => ?_) AllTwo.nil)
        · go_simp
          obtain ⟨y8, hy⟩ : ∃ q, q = X2.heap.size := ⟨_, rfl⟩
          obtain ⟨X3, hX⟩ : ∃ X : World, X = X2.alloc (.cells #[.int .i64 0, .int .i64 0, .int .i64 0, .int .i64 0, .int .u64 0, .slice none 0 0, .int .i64 0] 29) := ⟨_, rfl⟩
          rw [← hX, ← hy]
          have hb : Below X2.heap.size X2 X3 := by rw [hX]; exact below1 _ _
          have hl8 : zm < y8 ∧ zr < y8 ∧ W.heap.size ≤ y8 := by rw [hy]; exact ⟨hT2.1.lt, hT2.2.lt, HB2.out.size⟩
          have hT3 := And.intro (hT2.1.below hb) (hT2.2.below hb)
          have HI3 := Lib.hid (And.intro (HI2.out.1.below hb) (And.intro (owns_below HI2.out.2.1 hb) (owns_below HI2.out.2.2 hb)))
          have HO3 := Lib.hid (And.intro HO2.out.1 (owns_below HO2.out.2 hb))
          have HA_3 := Lib.hid (HA_2.out.below hb)
          have HB3 := Lib.hid (below_then HB2.out HB2.out.size hb)
          have HG3 := Lib.hid (show RdBox X3 y8 ⟨0, 0, 0, 0, 0, 0⟩ (.slice none 0 0) by rw [hX, hy]; exact World.alloc_heap_new _ _)
          clear hb hX hy
          refine hK.out _ _ ⟨hT3, fun _ _ => trivial⟩ ?_
          clear hK K
          (try simp only [Act.put, List.getElem_toArray, List.getElem_cons_succ, List.getElem_cons_zero, List.setIfInBounds_toArray, List.set_cons_succ, List.set_cons_zero])
          refine wpTwo_ready (rs := [15]) (by kernel_rfl) (by simp) ?_
          refine (AllTwo.cons rfl (fun K hK => ?_) AllTwo.nil)
          obtain ⟨⟨d0, d1, d2⟩, e0, e1, e2⟩ := mbox_cells HA_3.out
          have hn1 : y7 ≠ y8 := mbox_rdbox HA_3.out HG3.out
          obtain ⟨Xa, hXa⟩ : ∃ X : World, X = ((X3.setCell ⟨y7, 0, none⟩ (.slice (some ⟨gw2, 0, none⟩) n cw2)).setCell ⟨y7, 1, none⟩ (.slice (some ⟨gl2, 0, none⟩) 12 cl2)).setCell ⟨y7, 2, none⟩ (.bool false) := ⟨_, rfl⟩
          have hka : Keeps (fun q => q = y7) X3 Xa := by rw [hXa]; exact ((Keeps.setCell X3 (S := fun q => q = y7) (p := ⟨y7, 0, none⟩) rfl _).trans (Keeps.setCell _ (S := fun q => q = y7) (p := ⟨y7, 1, none⟩) rfl _)).trans (Keeps.setCell _ (S := fun q => q = y7) (p := ⟨y7, 2, none⟩) rfl _)
          have hTa := And.intro (hT3.1.keeps hka (by intro e; have e : zm = y7 := e; omega)) (show RdBox Xa zr ⟨9, 2, m, 0, 0, 0⟩ (.slice none 0 0) from (hka.block zr hT3.2.lt (by intro e; have e : zr = y7 := e; omega)).trans hT3.2)
          have HAa := Lib.hid (show MBox Xa y7 (.slice (some ⟨gw2, 0, none⟩) n cw2) (.slice (some ⟨gl2, 0, none⟩) 12 cl2) false by rw [hXa]; exact HA_3.out.set _ _ _)
          have HGa := Lib.hid (show RdBox Xa y8 ⟨0, 0, 0, 0, 0, 0⟩ (.slice none 0 0) from (hka.block y8 HG3.out.lt (fun e => hn1 e.symm)).trans HG3.out)
          have HOa := Lib.hid (And.intro HO3.out.1 (hka.row HO3.out.2 (fun g hg e => HA_3.out.row HO3.out.2 (by decide) hg e.symm)))
          have HIa := Lib.hid (And.intro HI3.out.1.1 (And.intro (hka.row HI3.out.1.2.2.1 (fun g hg e => HA_3.out.row HI3.out.1.2.2.1 (by decide) hg e.symm)) (fun x hx => And.intro (HI3.out.1.2.2.2.2 x hx).1 (hka.row (HI3.out.1.2.2.2.2 x hx).2 (fun g hg e => HA_3.out.row (HI3.out.1.2.2.2.2 x hx).2 (by decide) hg e.symm)))))
          have HBa := Lib.hid (HB3.out.trans (hka.below HB3.out.size (fun q hq => by have e : q = y7 := hq; omega)))
          go_simp
          rw [← hXa]
          refine hK.out _ _ ⟨hTa, fun _ _ => trivial⟩ ?_
          clear hK K d0 d1 d2 e0 e1 e2 hXa hka
          (try simp only [Act.put, List.getElem_toArray, List.getElem_cons_succ, List.getElem_cons_zero, List.setIfInBounds_toArray, List.set_cons_succ, List.set_cons_zero])
          refine wpTwo_ready (rs := [16]) (by kernel_rfl) (by simp) ?_
          refine (AllTwo.cons rfl (fun K hK => ?_) AllTwo.nil)
          obtain ⟨d0, d1, d2, d3, d4, d5, d6⟩ := HGa.out.cells
          dsimp only at d0 d1 d2 d3 d4 d6
          have v0 := HGa.out.marks 0
          have v1 := HGa.out.marks 1
          have v2 := HGa.out.marks 2
          have v3 := HGa.out.marks 3
          have v4 := HGa.out.marks 4
          have v5 := HGa.out.marks 5
          have v6 := HGa.out.marks 6
          obtain ⟨Xb, hXb⟩ : ∃ X : World, X = ((((((Xa.setCell ⟨y8, 0, none⟩ (.int .i64 a)).setCell ⟨y8, 1, none⟩ (.int .i64 g)).setCell ⟨y8, 2, none⟩ (.int .i64 m')).setCell ⟨y8, 3, none⟩ (.int .i64 ph)).setCell ⟨y8, 4, none⟩ (.int .u64 b)).setCell ⟨y8, 5, none⟩ (.slice pv vs.length cv)).setCell ⟨y8, 6, none⟩ (.int .i64 t0) := ⟨_, rfl⟩
          have hkb : Keeps (fun q => q = y8) Xa Xb := by rw [hXb]; exact RdBox.putK Xa y8 ⟨a, g, m', ph, b, t0⟩ (.slice pv vs.length cv)
          have hTb := And.intro (hTa.1.keeps hkb (by intro e; have e : zm = y8 := e; omega)) (show RdBox Xb zr ⟨9, 2, m, 0, 0, 0⟩ (.slice none 0 0) from (hkb.block zr hTa.2.lt (by intro e; have e : zr = y8 := e; omega)).trans hTa.2)
          have HF := Lib.hid (show MBox Xb y7 (.slice (some ⟨gw2, 0, none⟩) n cw2) (.slice (some ⟨gl2, 0, none⟩) 12 cl2) false ∧ RdBox Xb y8 ⟨a, g, m', ph, b, t0⟩ (.slice pv vs.length cv) ∧ Xb.ownsRow W.heap.size 27 1 (.slice pv vs.length cv) vs.length (vs.map (Value.int .u64)) ∧ Xb.ownsRow W.heap.size 24 1 (.slice q2 (i + 1) c2) (i + 1) (hs.map (·.1)) ∧ (∀ x ∈ hs, x.2.length = m ∧ Xb.ownsRow W.heap.size 27 1 x.1 m (x.2.map (Value.int .u64))) from
            ⟨HAa.out.keeps hkb hn1, by rw [hXb]; exact HGa.out.put ⟨a, g, m', ph, b, t0⟩ (.slice pv vs.length cv), hkb.row HOa.out.2 (fun g hg e => RdBox.row HGa.out HOa.out.2 (by decide) hg e.symm), hkb.row HIa.out.2.1 (fun g hg e => RdBox.row HGa.out HIa.out.2.1 (by decide) hg e.symm), fun x hx => ⟨(HIa.out.2.2 x hx).1, hkb.row (HIa.out.2.2 x hx).2 (fun g hg e => RdBox.row HGa.out (HIa.out.2.2 x hx).2 (by decide) hg e.symm)⟩⟩)
          have HBb := Lib.hid (HBa.out.trans (hkb.below HBa.out.size (fun q hq => by have e : q = y8 := hq; omega)))
          go_simp
          rw [← hXb]
          refine hK.out _ _ ⟨hTb, fun _ _ => trivial⟩ ?_
          clear hK K d0 d1 d2 d3 d4 d5 d6 v0 v1 v2 v3 v4 v5 v6 hXb hkb
          (try simp only [Act.put, List.getElem_toArray, List.getElem_cons_succ, List.getElem_cons_zero, List.setIfInBounds_toArray, List.set_cons_succ, List.set_cons_zero])
          refine wpTwo_takeT (i := 17) (v := .int .i64 0) rfl (by kernel_rfl) (by kernel_rfl) (by kernel_rfl) (fun _ _ _ h => h) ⟨by rfl, ?_⟩ hTb ?_
          · rintro w hTw
            go_simp
          (try simp only [Act.put, List.getElem_toArray, List.getElem_cons_succ, List.getElem_cons_zero, List.setIfInBounds_toArray, List.set_cons_succ, List.set_cons_zero])
          refine wpTwo_end (by kernel_rfl) ?_ _
          go_wp2
          go_meet
          exact ⟨y7, y8, a, g, m', ph, b, t0, vs, pv, cv, gw2, cw2, gl2, cl2, n, rfl, rfl, rfl, Lib.hid ⟨HOa.out.1, HIa.out.1, HF.out, HBb.out⟩⟩
      · go_simp
        obtain ⟨y8, hy⟩ : ∃ q, q = X1.heap.size := ⟨_, rfl⟩
        obtain ⟨X2, hX⟩ : ∃ X : World, X = X1.alloc (.cells #[.int .i64 0, .int .i64 0, .int .i64 0, .int .i64 0, .int .u64 0, .slice none 0 0, .int .i64 0] 29) := ⟨_, rfl⟩
        rw [← hX, ← hy]
        have hb : Below X1.heap.size X1 X2 := by rw [hX]; exact below1 _ _
        have hl8 : zm < y8 ∧ zr < y8 ∧ W.heap.size ≤ y8 := by rw [hy]; exact ⟨hT1.1.lt, hT1.2.lt, HB1.out.size⟩
        have hT2 := And.intro (hT1.1.below hb) (hT1.2.below hb)
        have HI2 := Lib.hid (And.intro (HI1.out.1.below hb) (And.intro (owns_below HI1.out.2.1 hb) (owns_below HI1.out.2.2 hb)))
        have HO2 := Lib.hid (And.intro HO1.out.1 (owns_below HO1.out.2 hb))
        have HB2 := Lib.hid (below_then HB1.out HB1.out.size hb)
        have HG2 := Lib.hid (show RdBox X2 y8 ⟨0, 0, 0, 0, 0, 0⟩ (.slice none 0 0) by rw [hX, hy]; exact World.alloc_heap_new _ _)
        clear hb hX hy
        refine hK.out _ _ ⟨hT2, fun _ _ => trivial⟩ ?_
        clear hK K
        (try simp only [Act.put, List.getElem_toArray, List.getElem_cons_succ, List.getElem_cons_zero, List.setIfInBounds_toArray, List.set_cons_succ, List.set_cons_zero])
        refine wpTwo_ready (rs := [13]) (by kernel_rfl) (by simp) ?_
        refine (AllTwo.cons rfl (fun K hK => ?_) AllTwo.nil)
        · go_simp
          obtain ⟨y7, hy⟩ : ∃ q, q = X2.heap.size := ⟨_, rfl⟩
          obtain ⟨X3, hX⟩ : ∃ X : World, X = X2.alloc (.cells #[.slice none 0 0, .slice none 0 0, .bool false] 44) := ⟨_, rfl⟩
          rw [← hX, ← hy]
          have hb : Below X2.heap.size X2 X3 := by rw [hX]; exact below1 _ _
          have hl7 : zm < y7 ∧ zr < y7 ∧ W.heap.size ≤ y7 := by rw [hy]; exact ⟨hT2.1.lt, hT2.2.lt, HB2.out.size⟩
          have hT3 := And.intro (hT2.1.below hb) (hT2.2.below hb)
          have HI3 := Lib.hid (And.intro (HI2.out.1.below hb) (And.intro (owns_below HI2.out.2.1 hb) (owns_below HI2.out.2.2 hb)))
          have HO3 := Lib.hid (And.intro HO2.out.1 (owns_below HO2.out.2 hb))
          have HG3 := Lib.hid (HG2.out.below hb)
          have HB3 := Lib.hid (below_then HB2.out HB2.out.size hb)
          have HA_3 := Lib.hid (show MBox X3 y7 (.slice none 0 0) (.slice none 0 0) false by rw [hX, hy]; exact MBox.new _ _ _ _)
          clear hb hX hy
          refine hK.out _ _ ⟨hT3, fun _ _ => trivial⟩ ?_
          clear hK K
          (try simp only [Act.put, List.getElem_toArray, List.getElem_cons_succ, List.getElem_cons_zero, List.setIfInBounds_toArray, List.set_cons_succ, List.set_cons_zero])
          refine wpTwo_ready (rs := [15]) (by kernel_rfl) (by simp) ?_
          refine (AllTwo.cons rfl (fun K hK => ?_) AllTwo.nil)
          obtain ⟨⟨d0, d1, d2⟩, e0, e1, e2⟩ := mbox_cells HA_3.out
          have hn1 : y7 ≠ y8 := mbox_rdbox HA_3.out HG3.out
          obtain ⟨Xa, hXa⟩ : ∃ X : World, X = ((X3.setCell ⟨y7, 0, none⟩ (.slice (some ⟨gw2, 0, none⟩) n cw2)).setCell ⟨y7, 1, none⟩ (.slice (some ⟨gl2, 0, none⟩) 12 cl2)).setCell ⟨y7, 2, none⟩ (.bool false) := ⟨_, rfl⟩
          have hka : Keeps (fun q => q = y7) X3 Xa := by rw [hXa]; exact ((Keeps.setCell X3 (S := fun q => q = y7) (p := ⟨y7, 0, none⟩) rfl _).trans (Keeps.setCell _ (S := fun q => q = y7) (p := ⟨y7, 1, none⟩) rfl _)).trans (Keeps.setCell _ (S := fun q => q = y7) (p := ⟨y7, 2, none⟩) rfl _)
          have hTa := And.intro (hT3.1.keeps hka (by intro e; have e : zm = y7 := e; omega)) (show RdBox Xa zr ⟨9, 2, m, 0, 0, 0⟩ (.slice none 0 0) from (hka.block zr hT3.2.lt (by intro e; have e : zr = y7 := e; omega)).trans hT3.2)
          have HAa := Lib.hid (show MBox Xa y7 (.slice (some ⟨gw2, 0, none⟩) n cw2) (.slice (some ⟨gl2, 0, none⟩) 12 cl2) false by rw [hXa]; exact HA_3.out.set _ _ _)
          have HGa := Lib.hid (show RdBox Xa y8 ⟨0, 0, 0, 0, 0, 0⟩ (.slice none 0 0) from (hka.block y8 HG3.out.lt (fun e => hn1 e.symm)).trans HG3.out)
          have HOa := Lib.hid (And.intro HO3.out.1 (hka.row HO3.out.2 (fun g hg e => HA_3.out.row HO3.out.2 (by decide) hg e.symm)))
          have HIa := Lib.hid (And.intro HI3.out.1.1 (And.intro (hka.row HI3.out.1.2.2.1 (fun g hg e => HA_3.out.row HI3.out.1.2.2.1 (by decide) hg e.symm)) (fun x hx => And.intro (HI3.out.1.2.2.2.2 x hx).1 (hka.row (HI3.out.1.2.2.2.2 x hx).2 (fun g hg e => HA_3.out.row (HI3.out.1.2.2.2.2 x hx).2 (by decide) hg e.symm)))))
          have HBa := Lib.hid (HB3.out.trans (hka.below HB3.out.size (fun q hq => by have e : q = y7 := hq; omega)))
          go_simp
          rw [← hXa]
          refine hK.out _ _ ⟨hTa, fun _ _ => trivial⟩ ?_
          clear hK K d0 d1 d2 e0 e1 e2 hXa hka
          (try simp only [Act.put, List.getElem_toArray, List.getElem_cons_succ, List.getElem_cons_zero, List.setIfInBounds_toArray, List.set_cons_succ, List.set_cons_zero])
          refine wpTwo_ready (rs := [16]) (by kernel_rfl) (by simp) ?_
          refine (AllTwo.cons rfl (fun K hK => ?_) AllTwo.nil)
          obtain ⟨d0, d1, d2, d3, d4, d5, d6⟩ := HGa.out.cells
          dsimp only at d0 d1 d2 d3 d4 d6
          have v0 := HGa.out.marks 0
          have v1 := HGa.out.marks 1
          have v2 := HGa.out.marks 2
          have v3 := HGa.out.marks 3
          have v4 := HGa.out.marks 4
          have v5 := HGa.out.marks 5
          have v6 := HGa.out.marks 6
          obtain ⟨Xb, hXb⟩ : ∃ X : World, X = ((((((Xa.setCell ⟨y8, 0, none⟩ (.int .i64 a)).setCell ⟨y8, 1, none⟩ (.int .i64 g)).setCell ⟨y8, 2, none⟩ (.int .i64 m')).setCell ⟨y8, 3, none⟩ (.int .i64 ph)).setCell ⟨y8, 4, none⟩ (.int .u64 b)).setCell ⟨y8, 5, none⟩ (.slice pv vs.length cv)).setCell ⟨y8, 6, none⟩ (.int .i64 t0) := ⟨_, rfl⟩
          have hkb : Keeps (fun q => q = y8) Xa Xb := by rw [hXb]; exact RdBox.putK Xa y8 ⟨a, g, m', ph, b, t0⟩ (.slice pv vs.length cv)
          have hTb := And.intro (hTa.1.keeps hkb (by intro e; have e : zm = y8 := e; omega)) (show RdBox Xb zr ⟨9, 2, m, 0, 0, 0⟩ (.slice none 0 0) from (hkb.block zr hTa.2.lt (by intro e; have e : zr = y8 := e; omega)).trans hTa.2)
          have HF := Lib.hid (show MBox Xb y7 (.slice (some ⟨gw2, 0, none⟩) n cw2) (.slice (some ⟨gl2, 0, none⟩) 12 cl2) false ∧ RdBox Xb y8 ⟨a, g, m', ph, b, t0⟩ (.slice pv vs.length cv) ∧ Xb.ownsRow W.heap.size 27 1 (.slice pv vs.length cv) vs.length (vs.map (Value.int .u64)) ∧ Xb.ownsRow W.heap.size 24 1 (.slice q2 (i + 1) c2) (i + 1) (hs.map (·.1)) ∧ (∀ x ∈ hs, x.2.length = m ∧ Xb.ownsRow W.heap.size 27 1 x.1 m (x.2.map (Value.int .u64))) from
            ⟨HAa.out.keeps hkb hn1, by rw [hXb]; exact HGa.out.put ⟨a, g, m', ph, b, t0⟩ (.slice pv vs.length cv), hkb.row HOa.out.2 (fun g hg e => RdBox.row HGa.out HOa.out.2 (by decide) hg e.symm), hkb.row HIa.out.2.1 (fun g hg e => RdBox.row HGa.out HIa.out.2.1 (by decide) hg e.symm), fun x hx => ⟨(HIa.out.2.2 x hx).1, hkb.row (HIa.out.2.2 x hx).2 (fun g hg e => RdBox.row HGa.out (HIa.out.2.2 x hx).2 (by decide) hg e.symm)⟩⟩)
          have HBb := Lib.hid (HBa.out.trans (hkb.below HBa.out.size (fun q hq => by have e : q = y8 := hq; omega)))
          go_simp
          rw [← hXb]
          refine hK.out _ _ ⟨hTb, fun _ _ => trivial⟩ ?_
          clear hK K d0 d1 d2 d3 d4 d5 d6 v0 v1 v2 v3 v4 v5 v6 hXb hkb
          (try simp only [Act.put, List.getElem_toArray, List.getElem_cons_succ, List.getElem_cons_zero, List.setIfInBounds_toArray, List.set_cons_succ, List.set_cons_zero])
          refine wpTwo_takeT (i := 17) (v := .int .i64 0) rfl (by kernel_rfl) (by kernel_rfl) (by kernel_rfl) (fun _ _ _ h => h) ⟨by rfl, ?_⟩ hTb ?_
          · rintro w hTw
            go_simp
          (try simp only [Act.put, List.getElem_toArray, List.getElem_cons_succ, List.getElem_cons_zero, List.setIfInBounds_toArray, List.set_cons_succ, List.set_cons_zero])
          refine wpTwo_end (by kernel_rfl) ?_ _
          go_wp2
          go_meet
          exact ⟨y7, y8, a, g, m', ph, b, t0, vs, pv, cv, gw2, cw2, gl2, cl2, n, rfl, rfl, rfl, Lib.hid ⟨HOa.out.1, HIa.out.1, HF.out, HBb.out⟩⟩
    · go_simp
      obtain ⟨y7, hy⟩ : ∃ q, q = X0.heap.size := ⟨_, rfl⟩
      obtain ⟨X1, hX⟩ : ∃ X : World, X = X0.alloc (.cells #[.slice none 0 0, .slice none 0 0, .bool false] 44) := ⟨_, rfl⟩
      rw [← hX, ← hy]
      have hb : Below X0.heap.size X0 X1 := by rw [hX]; exact below1 _ _
      have hl7 : zm < y7 ∧ zr < y7 ∧ W.heap.size ≤ y7 := by rw [hy]; exact ⟨hT0.1.lt, hT0.2.lt, HB0.out.size⟩
      have hT1 := And.intro (hT0.1.below hb) (hT0.2.below hb)
      have HI1 := Lib.hid (And.intro (HI0.out.1.below hb) (And.intro (owns_below HI0.out.2.1 hb) (owns_below HI0.out.2.2 hb)))
      have HB1 := Lib.hid (below_then HB0.out HB0.out.size hb)
      have HA_1 := Lib.hid (show MBox X1 y7 (.slice none 0 0) (.slice none 0 0) false by rw [hX, hy]; exact MBox.new _ _ _ _)
      clear hb hX hy
      refine hK.out _ _ ⟨hT1, fun _ _ => trivial⟩ ?_
      clear hK K
      (try simp only [Act.put, List.getElem_toArray, List.getElem_cons_succ, List.getElem_cons_zero, List.setIfInBounds_toArray, List.set_cons_succ, List.set_cons_zero])
      refine wpTwo_ready (rs := [8, 14]) (by kernel_rfl) (by simp) ?_
      refine (AllTwo.cons rfl (fun K hK => ?_) (AllTwo.cons rfl (fun K hK => ?_) AllTwo.nil))
      · go_simp
        refine (wplay_c W.heap.size m i ⟨hm1, hm3⟩ hi4 l hs q c q2 c2 gw cw gl cl p1 c1 kb (bs.take 80) X1 HI1.out.1 HI1.out.2.1 HI1.out.2.2 (argr_pk (HA.out.2.below HB1.out) 80) HPK.out.1 HPK.out.2).mono ?_
        rintro e X2 ⟨⟨gw2, cw2, gl2, cl2, n, pv, cv, ⟨a, g, m', ph, b, t0⟩, vs, rfl, hfs, ho⟩, hb⟩
        dsimp only at hfs
        have hT2 := And.intro (hT1.1.below hb) (hT1.2.below hb)
        have HI2 := Lib.hid (And.intro (HI1.out.1.below hb) (And.intro (owns_below HI1.out.2.1 hb) (owns_below HI1.out.2.2 hb)))
        have HA_2 := Lib.hid (HA_1.out.below hb)
        have HB2 := Lib.hid (below_then HB1.out HB1.out.size hb)
        have HO2 := Lib.hid (And.intro hfs (ho.mono HB1.out.size))
        clear hb ho hfs
        unfold rdV
        dsimp only
        go_wp2_with fail
        refine hK.out _ _ ⟨hT2, fun _ _ => trivial⟩ ?_
        clear hK K
        (try simp only [Act.put, List.getElem_toArray, List.getElem_cons_succ, List.getElem_cons_zero, List.setIfInBounds_toArray, List.set_cons_succ, List.set_cons_zero])
        refine wpTwo_takeT (i := 9) (v := .tuple #[.agg #[.slice (some ⟨gw2, 0, none⟩) n cw2, .slice (some ⟨gl2, 0, none⟩) 12 cl2, .bool false], .agg #[.int .i64 a, .int .i64 g, .int .i64 m', .int .i64 ph, .int .u64 b, .slice pv vs.length cv, .int .i64 t0], .int .i64 0]) rfl (by kernel_rfl) (by kernel_rfl) (by kernel_rfl) (fun _ _ _ h => h) ⟨by rfl, ?_⟩ hT2 ?_
        · rintro w hTw
          go_simp
        (try simp only [Act.put, List.getElem_toArray, List.getElem_cons_succ, List.getElem_cons_zero, List.setIfInBounds_toArray, List.set_cons_succ, List.set_cons_zero])
        refine wpTwo_takeT (i := 10) (v := .agg #[.slice (some ⟨gw2, 0, none⟩) n cw2, .slice (some ⟨gl2, 0, none⟩) 12 cl2, .bool false]) rfl (by kernel_rfl) (by kernel_rfl) (by kernel_rfl) (fun _ _ _ h => h) ⟨by rfl, ?_⟩ hT2 ?_
        · rintro w hTw
          go_simp
        (try simp only [Act.put, List.getElem_toArray, List.getElem_cons_succ, List.getElem_cons_zero, List.setIfInBounds_toArray, List.set_cons_succ, List.set_cons_zero])
        refine wpTwo_takeT (i := 11) (v := .agg #[.int .i64 a, .int .i64 g, .int .i64 m', .int .i64 ph, .int .u64 b, .slice pv vs.length cv, .int .i64 t0]) rfl (by kernel_rfl) (by kernel_rfl) (by kernel_rfl) (fun _ _ _ h => h) ⟨by rfl, ?_⟩ hT2 ?_
        · rintro w hTw
          go_simp
        (try simp only [Act.put, List.getElem_toArray, List.getElem_cons_succ, List.getElem_cons_zero, List.setIfInBounds_toArray, List.set_cons_succ, List.set_cons_zero])
        refine wpTwo_takeT (i := 12) (v := .int .i64 0) rfl (by kernel_rfl) (by kernel_rfl) (by kernel_rfl) (fun _ _ _ h => h) ⟨by rfl, ?_⟩ hT2 ?_
        · rintro w hTw
          go_simp
        (try simp only [Act.put, List.getElem_toArray, List.getElem_cons_succ, List.getElem_cons_zero, List.setIfInBounds_toArray, List.set_cons_succ, List.set_cons_zero])
        refine wpTwo_ready (rs := [14]) (by kernel_rfl) (by simp) ?_
        refine (AllTwo.cons rfl (fun K hK => ?_) AllTwo.nil)
        · go_simp
          obtain ⟨y8, hy⟩ : ∃ q, q = X2.heap.size := ⟨_, rfl⟩
          obtain ⟨X3, hX⟩ : ∃ X : World, X = X2.alloc (.cells #[.int .i64 0, .int .i64 0, .int .i64 0, .int .i64 0, .int .u64 0, .slice none 0 0, .int .i64 0] 29) := ⟨_, rfl⟩
          rw [← hX, ← hy]
          have hb : Below X2.heap.size X2 X3 := by rw [hX]; exact below1 _ _
          have hl8 : zm < y8 ∧ zr < y8 ∧ W.heap.size ≤ y8 := by rw [hy]; exact ⟨hT2.1.lt, hT2.2.lt, HB2.out.size⟩
          have hT3 := And.intro (hT2.1.below hb) (hT2.2.below hb)
          have HI3 := Lib.hid (And.intro (HI2.out.1.below hb) (And.intro (owns_below HI2.out.2.1 hb) (owns_below HI2.out.2.2 hb)))
          have HA_3 := Lib.hid (HA_2.out.below hb)
          have HO3 := Lib.hid (And.intro HO2.out.1 (owns_below HO2.out.2 hb))
          have HB3 := Lib.hid (below_then HB2.out HB2.out.size hb)
          have HG3 := Lib.hid (show RdBox X3 y8 ⟨0, 0, 0, 0, 0, 0⟩ (.slice none 0 0) by rw [hX, hy]; exact World.alloc_heap_new _ _)
          clear hb hX hy
          refine hK.out _ _ ⟨hT3, fun _ _ => trivial⟩ ?_
          clear hK K
          (try simp only [Act.put, List.getElem_toArray, List.getElem_cons_succ, List.getElem_cons_zero, List.setIfInBounds_toArray, List.set_cons_succ, List.set_cons_zero])
          refine wpTwo_ready (rs := [15]) (by kernel_rfl) (by simp) ?_
          refine (AllTwo.cons rfl (fun K hK => ?_) AllTwo.nil)
          obtain ⟨⟨d0, d1, d2⟩, e0, e1, e2⟩ := mbox_cells HA_3.out
          have hn1 : y7 ≠ y8 := mbox_rdbox HA_3.out HG3.out
          obtain ⟨Xa, hXa⟩ : ∃ X : World, X = ((X3.setCell ⟨y7, 0, none⟩ (.slice (some ⟨gw2, 0, none⟩) n cw2)).setCell ⟨y7, 1, none⟩ (.slice (some ⟨gl2, 0, none⟩) 12 cl2)).setCell ⟨y7, 2, none⟩ (.bool false) := ⟨_, rfl⟩
          have hka : Keeps (fun q => q = y7) X3 Xa := by rw [hXa]; exact ((Keeps.setCell X3 (S := fun q => q = y7) (p := ⟨y7, 0, none⟩) rfl _).trans (Keeps.setCell _ (S := fun q => q = y7) (p := ⟨y7, 1, none⟩) rfl _)).trans (Keeps.setCell _ (S := fun q => q = y7) (p := ⟨y7, 2, none⟩) rfl _)
          have hTa := And.intro (hT3.1.keeps hka (by intro e; have e : zm = y7 := e; omega)) (show RdBox Xa zr ⟨9, 2, m, 0, 0, 0⟩ (.slice none 0 0) from (hka.block zr hT3.2.lt (by intro e; have e : zr = y7 := e; omega)).trans hT3.2)
          have HAa := Lib.hid (show MBox Xa y7 (.slice (some ⟨gw2, 0, none⟩) n cw2) (.slice (some ⟨gl2, 0, none⟩) 12 cl2) false by rw [hXa]; exact HA_3.out.set _ _ _)
          have HGa := Lib.hid (show RdBox Xa y8 ⟨0, 0, 0, 0, 0, 0⟩ (.slice none 0 0) from (hka.block y8 HG3.out.lt (fun e => hn1 e.symm)).trans HG3.out)
          have HOa := Lib.hid (And.intro HO3.out.1 (hka.row HO3.out.2 (fun g hg e => HA_3.out.row HO3.out.2 (by decide) hg e.symm)))
          have HIa := Lib.hid (And.intro HI3.out.1.1 (And.intro (hka.row HI3.out.1.2.2.1 (fun g hg e => HA_3.out.row HI3.out.1.2.2.1 (by decide) hg e.symm)) (fun x hx => And.intro (HI3.out.1.2.2.2.2 x hx).1 (hka.row (HI3.out.1.2.2.2.2 x hx).2 (fun g hg e => HA_3.out.row (HI3.out.1.2.2.2.2 x hx).2 (by decide) hg e.symm)))))
          have HBa := Lib.hid (HB3.out.trans (hka.below HB3.out.size (fun q hq => by have e : q = y7 := hq; omega)))
          go_simp
          rw [← hXa]
          refine hK.out _ _ ⟨hTa, fun _ _ => trivial⟩ ?_
          clear hK K d0 d1 d2 e0 e1 e2 hXa hka
          (try simp only [Act.put, List.getElem_toArray, List.getElem_cons_succ, List.getElem_cons_zero, List.setIfInBounds_toArray, List.set_cons_succ, List.set_cons_zero])
          refine wpTwo_ready (rs := [16]) (by kernel_rfl) (by simp) ?_
          refine (AllTwo.cons rfl (fun K hK => ?_) AllTwo.nil)
          obtain ⟨d0, d1, d2, d3, d4, d5, d6⟩ := HGa.out.cells
          dsimp only at d0 d1 d2 d3 d4 d6
          have v0 := HGa.out.marks 0
          have v1 := HGa.out.marks 1
          have v2 := HGa.out.marks 2
          have v3 := HGa.out.marks 3
          have v4 := HGa.out.marks 4
          have v5 := HGa.out.marks 5
          have v6 := HGa.out.marks 6
          obtain ⟨Xb, hXb⟩ : ∃ X : World, X = ((((((Xa.setCell ⟨y8, 0, none⟩ (.int .i64 a)).setCell ⟨y8, 1, none⟩ (.int .i64 g)).setCell ⟨y8, 2, none⟩ (.int .i64 m')).setCell ⟨y8, 3, none⟩ (.int .i64 ph)).setCell ⟨y8, 4, none⟩ (.int .u64 b)).setCell ⟨y8, 5, none⟩ (.slice pv vs.length cv)).setCell ⟨y8, 6, none⟩ (.int .i64 t0) := ⟨_, rfl⟩
          have hkb : Keeps (fun q => q = y8) Xa Xb := by rw [hXb]; exact RdBox.putK Xa y8 ⟨a, g, m', ph, b, t0⟩ (.slice pv vs.length cv)
          have hTb := And.intro (hTa.1.keeps hkb (by intro e; have e : zm = y8 := e; omega)) (show RdBox Xb zr ⟨9, 2, m, 0, 0, 0⟩ (.slice none 0 0) from (hkb.block zr hTa.2.lt (by intro e; have e : zr = y8 := e; omega)).trans hTa.2)
          have HF := Lib.hid (show MBox Xb y7 (.slice (some ⟨gw2, 0, none⟩) n cw2) (.slice (some ⟨gl2, 0, none⟩) 12 cl2) false ∧ RdBox Xb y8 ⟨a, g, m', ph, b, t0⟩ (.slice pv vs.length cv) ∧ Xb.ownsRow W.heap.size 27 1 (.slice pv vs.length cv) vs.length (vs.map (Value.int .u64)) ∧ Xb.ownsRow W.heap.size 24 1 (.slice q2 (i + 1) c2) (i + 1) (hs.map (·.1)) ∧ (∀ x ∈ hs, x.2.length = m ∧ Xb.ownsRow W.heap.size 27 1 x.1 m (x.2.map (Value.int .u64))) from
            ⟨HAa.out.keeps hkb hn1, by rw [hXb]; exact HGa.out.put ⟨a, g, m', ph, b, t0⟩ (.slice pv vs.length cv), hkb.row HOa.out.2 (fun g hg e => RdBox.row HGa.out HOa.out.2 (by decide) hg e.symm), hkb.row HIa.out.2.1 (fun g hg e => RdBox.row HGa.out HIa.out.2.1 (by decide) hg e.symm), fun x hx => ⟨(HIa.out.2.2 x hx).1, hkb.row (HIa.out.2.2 x hx).2 (fun g hg e => RdBox.row HGa.out (HIa.out.2.2 x hx).2 (by decide) hg e.symm)⟩⟩)
          have HBb := Lib.hid (HBa.out.trans (hkb.below HBa.out.size (fun q hq => by have e : q = y8 := hq; omega)))
          go_simp
          rw [← hXb]
          refine hK.out _ _ ⟨hTb, fun _ _ => trivial⟩ ?_
          clear hK K d0 d1 d2 d3 d4 d5 d6 v0 v1 v2 v3 v4 v5 v6 hXb hkb
          (try simp only [Act.put, List.getElem_toArray, List.getElem_cons_succ, List.getElem_cons_zero, List.setIfInBounds_toArray, List.set_cons_succ, List.set_cons_zero])
          refine wpTwo_takeT (i := 17) (v := .int .i64 0) rfl (by kernel_rfl) (by kernel_rfl) (by kernel_rfl) (fun _ _ _ h => h) ⟨by rfl, ?_⟩ hTb ?_
          · rintro w hTw
            go_simp
          (try simp only [Act.put, List.getElem_toArray, List.getElem_cons_succ, List.getElem_cons_zero, List.setIfInBounds_toArray, List.set_cons_succ, List.set_cons_zero])
          refine wpTwo_end (by kernel_rfl) ?_ _
          go_wp2
          go_meet
          exact ⟨y7, y8, a, g, m', ph, b, t0, vs, pv, cv, gw2, cw2, gl2, cl2, n, rfl, rfl, rfl, Lib.hid ⟨HOa.out.1, HIa.out.1, HF.out, HBb.out⟩⟩
      · go_simp
        obtain ⟨y8, hy⟩ : ∃ q, q = X1.heap.size := ⟨_, rfl⟩
        obtain ⟨X2, hX⟩ : ∃ X : World, X = X1.alloc (.cells #[.int .i64 0, .int .i64 0, .int .i64 0, .int .i64 0, .int .u64 0, .slice none 0 0, .int .i64 0] 29) := ⟨_, rfl⟩
        rw [← hX, ← hy]
        have hb : Below X1.heap.size X1 X2 := by rw [hX]; exact below1 _ _
        have hl8 : zm < y8 ∧ zr < y8 ∧ W.heap.size ≤ y8 := by rw [hy]; exact ⟨hT1.1.lt, hT1.2.lt, HB1.out.size⟩
        have hT2 := And.intro (hT1.1.below hb) (hT1.2.below hb)
        have HI2 := Lib.hid (And.intro (HI1.out.1.below hb) (And.intro (owns_below HI1.out.2.1 hb) (owns_below HI1.out.2.2 hb)))
        have HA_2 := Lib.hid (HA_1.out.below hb)
        have HB2 := Lib.hid (below_then HB1.out HB1.out.size hb)
        have HG2 := Lib.hid (show RdBox X2 y8 ⟨0, 0, 0, 0, 0, 0⟩ (.slice none 0 0) by rw [hX, hy]; exact World.alloc_heap_new _ _)
        clear hb hX hy
        refine hK.out _ _ ⟨hT2, fun _ _ => trivial⟩ ?_
        clear hK K
        (try simp only [Act.put, List.getElem_toArray, List.getElem_cons_succ, List.getElem_cons_zero, List.setIfInBounds_toArray, List.set_cons_succ, List.set_cons_zero])
        refine wpTwo_ready (rs := [8]) (by kernel_rfl) (by simp) ?_
        refine (AllTwo.cons rfl (fun K hK => ?_) AllTwo.nil)
        · go_simp
          refine (wplay_c W.heap.size m i ⟨hm1, hm3⟩ hi4 l hs q c q2 c2 gw cw gl cl p1 c1 kb (bs.take 80) X2 HI2.out.1 HI2.out.2.1 HI2.out.2.2 (argr_pk (HA.out.2.below HB2.out) 80) HPK.out.1 HPK.out.2).mono ?_
          rintro e X3 ⟨⟨gw2, cw2, gl2, cl2, n, pv, cv, ⟨a, g, m', ph, b, t0⟩, vs, rfl, hfs, ho⟩, hb⟩
          dsimp only at hfs
          have hT3 := And.intro (hT2.1.below hb) (hT2.2.below hb)
          have HI3 := Lib.hid (And.intro (HI2.out.1.below hb) (And.intro (owns_below HI2.out.2.1 hb) (owns_below HI2.out.2.2 hb)))
          have HA_3 := Lib.hid (HA_2.out.below hb)
          have HG3 := Lib.hid (HG2.out.below hb)
          have HB3 := Lib.hid (below_then HB2.out HB2.out.size hb)
          have HO3 := Lib.hid (And.intro hfs (ho.mono HB2.out.size))
          clear hb ho hfs
          unfold rdV
          dsimp only
          go_wp2_with fail
          refine hK.out _ _ ⟨hT3, fun _ _ => trivial⟩ ?_
          clear hK K
          (try simp only [Act.put, List.getElem_toArray, List.getElem_cons_succ, List.getElem_cons_zero, List.setIfInBounds_toArray, List.set_cons_succ, List.set_cons_zero])
          refine wpTwo_takeT (i := 9) (v := .tuple #[.agg #[.slice (some ⟨gw2, 0, none⟩) n cw2, .slice (some ⟨gl2, 0, none⟩) 12 cl2, .bool false], .agg #[.int .i64 a, .int .i64 g, .int .i64 m', .int .i64 ph, .int .u64 b, .slice pv vs.length cv, .int .i64 t0], .int .i64 0]) rfl (by kernel_rfl) (by kernel_rfl) (by kernel_rfl) (fun _ _ _ h => h) ⟨by rfl, ?_⟩ hT3 ?_
          · rintro w hTw
            go_simp
          (try simp only [Act.put, List.getElem_toArray, List.getElem_cons_succ, List.getElem_cons_zero, List.setIfInBounds_toArray, List.set_cons_succ, List.set_cons_zero])
          refine wpTwo_takeT (i := 10) (v := .agg #[.slice (some ⟨gw2, 0, none⟩) n cw2, .slice (some ⟨gl2, 0, none⟩) 12 cl2, .bool false]) rfl (by kernel_rfl) (by kernel_rfl) (by kernel_rfl) (fun _ _ _ h => h) ⟨by rfl, ?_⟩ hT3 ?_
          · rintro w hTw
            go_simp
          (try simp only [Act.put, List.getElem_toArray, List.getElem_cons_succ, List.getElem_cons_zero, List.setIfInBounds_toArray, List.set_cons_succ, List.set_cons_zero])
          refine wpTwo_takeT (i := 11) (v := .agg #[.int .i64 a, .int .i64 g, .int .i64 m', .int .i64 ph, .int .u64 b, .slice pv vs.length cv, .int .i64 t0]) rfl (by kernel_rfl) (by kernel_rfl) (by kernel_rfl) (fun _ _ _ h => h) ⟨by rfl, ?_⟩ hT3 ?_
          · rintro w hTw
            go_simp
          (try simp only [Act.put, List.getElem_toArray, List.getElem_cons_succ, List.getElem_cons_zero, List.setIfInBounds_toArray, List.set_cons_succ, List.set_cons_zero])
          refine wpTwo_takeT (i := 12) (v := .int .i64 0) rfl (by kernel_rfl) (by kernel_rfl) (by kernel_rfl) (fun _ _ _ h => h) ⟨by rfl, ?_⟩ hT3 ?_
          · rintro w hTw
            go_simp
          (try simp only [Act.put, List.getElem_toArray, List.getElem_cons_succ, List.getElem_cons_zero, List.setIfInBounds_toArray, List.set_cons_succ, List.set_cons_zero])
          refine wpTwo_ready (rs := [15]) (by kernel_rfl) (by simp) ?_
          refine (AllTwo.cons rfl (fun K hK => ?_) AllTwo.nil)
          obtain ⟨⟨d0, d1, d2⟩, e0, e1, e2⟩ := mbox_cells HA_3.out
          have hn1 : y7 ≠ y8 := mbox_rdbox HA_3.out HG3.out
          obtain ⟨Xa, hXa⟩ : ∃ X : World, X = ((X3.setCell ⟨y7, 0, none⟩ (.slice (some ⟨gw2, 0, none⟩) n cw2)).setCell ⟨y7, 1, none⟩ (.slice (some ⟨gl2, 0, none⟩) 12 cl2)).setCell ⟨y7, 2, none⟩ (.bool false) := ⟨_, rfl⟩
          have hka : Keeps (fun q => q = y7) X3 Xa := by rw [hXa]; exact ((Keeps.setCell X3 (S := fun q => q = y7) (p := ⟨y7, 0, none⟩) rfl _).trans (Keeps.setCell _ (S := fun q => q = y7) (p := ⟨y7, 1, none⟩) rfl _)).trans (Keeps.setCell _ (S := fun q => q = y7) (p := ⟨y7, 2, none⟩) rfl _)
          have hTa := And.intro (hT3.1.keeps hka (by intro e; have e : zm = y7 := e; omega)) (show RdBox Xa zr ⟨9, 2, m, 0, 0, 0⟩ (.slice none 0 0) from (hka.block zr hT3.2.lt (by intro e; have e : zr = y7 := e; omega)).trans hT3.2)
          have HAa := Lib.hid (show MBox Xa y7 (.slice (some ⟨gw2, 0, none⟩) n cw2) (.slice (some ⟨gl2, 0, none⟩) 12 cl2) false by rw [hXa]; exact HA_3.out.set _ _ _)
          have HGa := Lib.hid (show RdBox Xa y8 ⟨0, 0, 0, 0, 0, 0⟩ (.slice none 0 0) from (hka.block y8 HG3.out.lt (fun e => hn1 e.symm)).trans HG3.out)
          have HOa := Lib.hid (And.intro HO3.out.1 (hka.row HO3.out.2 (fun g hg e => HA_3.out.row HO3.out.2 (by decide) hg e.symm)))
          have HIa := Lib.hid (And.intro HI3.out.1.1 (And.intro (hka.row HI3.out.1.2.2.1 (fun g hg e => HA_3.out.row HI3.out.1.2.2.1 (by decide) hg e.symm)) (fun x hx => And.intro (HI3.out.1.2.2.2.2 x hx).1 (hka.row (HI3.out.1.2.2.2.2 x hx).2 (fun g hg e => HA_3.out.row (HI3.out.1.2.2.2.2 x hx).2 (by decide) hg e.symm)))))
          have HBa := Lib.hid (HB3.out.trans (hka.below HB3.out.size (fun q hq => by have e : q = y7 := hq; omega)))
          go_simp
          rw [← hXa]
          refine hK.out _ _ ⟨hTa, fun _ _ => trivial⟩ ?_
          clear hK K d0 d1 d2 e0 e1 e2 hXa hka
          (try simp only [Act.put, List.getElem_toArray, List.getElem_cons_succ, List.getElem_cons_zero, List.setIfInBounds_toArray, List.set_cons_succ, List.set_cons_zero])
          refine wpTwo_ready (rs := [16]) (by kernel_rfl) (by simp) ?_
          refine (AllTwo.cons rfl (fun K hK => ?_) AllTwo.nil)
          obtain ⟨d0, d1, d2, d3, d4, d5, d6⟩ := HGa.out.cells
          dsimp only at d0 d1 d2 d3 d4 d6
          have v0 := HGa.out.marks 0
          have v1 := HGa.out.marks 1
          have v2 := HGa.out.marks 2
          have v3 := HGa.out.marks 3
          have v4 := HGa.out.marks 4
          have v5 := HGa.out.marks 5
          have v6 := HGa.out.marks 6
          obtain ⟨Xb, hXb⟩ : ∃ X : World, X = ((((((Xa.setCell ⟨y8, 0, none⟩ (.int .i64 a)).setCell ⟨y8, 1, none⟩ (.int .i64 g)).setCell ⟨y8, 2, none⟩ (.int .i64 m')).setCell ⟨y8, 3, none⟩ (.int .i64 ph)).setCell ⟨y8, 4, none⟩ (.int .u64 b)).setCell ⟨y8, 5, none⟩ (.slice pv vs.length cv)).setCell ⟨y8, 6, none⟩ (.int .i64 t0) := ⟨_, rfl⟩
          have hkb : Keeps (fun q => q = y8) Xa Xb := by rw [hXb]; exact RdBox.putK Xa y8 ⟨a, g, m', ph, b, t0⟩ (.slice pv vs.length cv)
          have hTb := And.intro (hTa.1.keeps hkb (by intro e; have e : zm = y8 := e; omega)) (show RdBox Xb zr ⟨9, 2, m, 0, 0, 0⟩ (.slice none 0 0) from (hkb.block zr hTa.2.lt (by intro e; have e : zr = y8 := e; omega)).trans hTa.2)
          have HF := Lib.hid (show MBox Xb y7 (.slice (some ⟨gw2, 0, none⟩) n cw2) (.slice (some ⟨gl2, 0, none⟩) 12 cl2) false ∧ RdBox Xb y8 ⟨a, g, m', ph, b, t0⟩ (.slice pv vs.length cv) ∧ Xb.ownsRow W.heap.size 27 1 (.slice pv vs.length cv) vs.length (vs.map (Value.int .u64)) ∧ Xb.ownsRow W.heap.size 24 1 (.slice q2 (i + 1) c2) (i + 1) (hs.map (·.1)) ∧ (∀ x ∈ hs, x.2.length = m ∧ Xb.ownsRow W.heap.size 27 1 x.1 m (x.2.map (Value.int .u64))) from
            ⟨HAa.out.keeps hkb hn1, by rw [hXb]; exact HGa.out.put ⟨a, g, m', ph, b, t0⟩ (.slice pv vs.length cv), hkb.row HOa.out.2 (fun g hg e => RdBox.row HGa.out HOa.out.2 (by decide) hg e.symm), hkb.row HIa.out.2.1 (fun g hg e => RdBox.row HGa.out HIa.out.2.1 (by decide) hg e.symm), fun x hx => ⟨(HIa.out.2.2 x hx).1, hkb.row (HIa.out.2.2 x hx).2 (fun g hg e => RdBox.row HGa.out (HIa.out.2.2 x hx).2 (by decide) hg e.symm)⟩⟩)
          have HBb := Lib.hid (HBa.out.trans (hkb.below HBa.out.size (fun q hq => by have e : q = y8 := hq; omega)))
          go_simp
          rw [← hXb]
          refine hK.out _ _ ⟨hTb, fun _ _ => trivial⟩ ?_
          clear hK K d0 d1 d2 d3 d4 d5 d6 v0 v1 v2 v3 v4 v5 v6 hXb hkb
          (try simp only [Act.put, List.getElem_toArray, List.getElem_cons_succ, List.getElem_cons_zero, List.setIfInBounds_toArray, List.set_cons_succ, List.set_cons_zero])
          refine wpTwo_takeT (i := 17) (v := .int .i64 0) rfl (by kernel_rfl) (by kernel_rfl) (by kernel_rfl) (fun _ _ _ h => h) ⟨by rfl, ?_⟩ hTb ?_
          · rintro w hTw
            go_simp
          (try simp only [Act.put, List.getElem_toArray, List.getElem_cons_succ, List.getElem_cons_zero, List.setIfInBounds_toArray, List.set_cons_succ, List.set_cons_zero])
          refine wpTwo_end (by kernel_rfl) ?_ _
          go_wp2
          go_meet
          exact ⟨y7, y8, a, g, m', ph, b, t0, vs, pv, cv, gw2, cw2, gl2, cl2, n, rfl, rfl, rfl, Lib.hid ⟨HOa.out.1, HIa.out.1, HF.out, HBb.out⟩⟩
    · go_simp
      obtain ⟨y8, hy⟩ : ∃ q, q = X0.heap.size := ⟨_, rfl⟩
      obtain ⟨X1, hX⟩ : ∃ X : World, X = X0.alloc (.cells #[.int .i64 0, .int .i64 0, .int .i64 0, .int .i64 0, .int .u64 0, .slice none 0 0, .int .i64 0] 29) := ⟨_, rfl⟩
      rw [← hX, ← hy]
      have hb : Below X0.heap.size X0 X1 := by rw [hX]; exact below1 _ _
      have hl8 : zm < y8 ∧ zr < y8 ∧ W.heap.size ≤ y8 := by rw [hy]; exact ⟨hT0.1.lt, hT0.2.lt, HB0.out.size⟩
      have hT1 := And.intro (hT0.1.below hb) (hT0.2.below hb)
      have HI1 := Lib.hid (And.intro (HI0.out.1.below hb) (And.intro (owns_below HI0.out.2.1 hb) (owns_below HI0.out.2.2 hb)))
      have HB1 := Lib.hid (below_then HB0.out HB0.out.size hb)
      have HG1 := Lib.hid (show RdBox X1 y8 ⟨0, 0, 0, 0, 0, 0⟩ (.slice none 0 0) by rw [hX, hy]; exact World.alloc_heap_new _ _)
      clear hb hX hy
      refine hK.out _ _ ⟨hT1, fun _ _ => trivial⟩ ?_
      clear hK K
      (try simp only [Act.put, List.getElem_toArray, List.getElem_cons_succ, List.getElem_cons_zero, List.setIfInBounds_toArray, List.set_cons_succ, List.set_cons_zero])
      refine wpTwo_ready (rs := [8, 13]) (by kernel_rfl) (by simp) ?_
      refine (AllTwo.cons rfl (fun K hK => ?_) (AllTwo.cons rfl (fun K hK => ?_) AllTwo.nil))
      · go_simp
        refine (wplay_c W.heap.size m i ⟨hm1, hm3⟩ hi4 l hs q c q2 c2 gw cw gl cl p1 c1 kb (bs.take 80) X1 HI1.out.1 HI1.out.2.1 HI1.out.2.2 (argr_pk (HA.out.2.below HB1.out) 80) HPK.out.1 HPK.out.2).mono ?_
        rintro e X2 ⟨⟨gw2, cw2, gl2, cl2, n, pv, cv, ⟨a, g, m', ph, b, t0⟩, vs, rfl, hfs, ho⟩, hb⟩
        dsimp only at hfs
        have hT2 := And.intro (hT1.1.below hb) (hT1.2.below hb)
        have HI2 := Lib.hid (And.intro (HI1.out.1.below hb) (And.intro (owns_below HI1.out.2.1 hb) (owns_below HI1.out.2.2 hb)))
        have HG2 := Lib.hid (HG1.out.below hb)
        have HB2 := Lib.hid (below_then HB1.out HB1.out.size hb)
        have HO2 := Lib.hid (And.intro hfs (ho.mono HB1.out.size))
        clear hb ho hfs
        unfold rdV
        dsimp only
        go_wp2_with fail
        refine hK.out _ _ ⟨hT2, fun _ _ => trivial⟩ ?_
        clear hK K
        (try simp only [Act.put, List.getElem_toArray, List.getElem_cons_succ, List.getElem_cons_zero, List.setIfInBounds_toArray, List.set_cons_succ, List.set_cons_zero])
        refine wpTwo_takeT (i := 9) (v := .tuple #[.agg #[.slice (some ⟨gw2, 0, none⟩) n cw2, .slice (some ⟨gl2, 0, none⟩) 12 cl2, .bool false], .agg #[.int .i64 a, .int .i64 g, .int .i64 m', .int .i64 ph, .int .u64 b, .slice pv vs.length cv, .int .i64 t0], .int .i64 0]) rfl (by kernel_rfl) (by kernel_rfl) (by kernel_rfl) (fun _ _ _ h => h) ⟨by rfl, ?_⟩ hT2 ?_
        · rintro w hTw
          go_simp
        (try simp only [Act.put, List.getElem_toArray, List.getElem_cons_succ, List.getElem_cons_zero, List.setIfInBounds_toArray, List.set_cons_succ, List.set_cons_zero])
        refine wpTwo_takeT (i := 10) (v := .agg #[.slice (some ⟨gw2, 0, none⟩) n cw2, .slice (some ⟨gl2, 0, none⟩) 12 cl2, .bool false]) rfl (by kernel_rfl) (by kernel_rfl) (by kernel_rfl) (fun _ _ _ h => h) ⟨by rfl, ?_⟩ hT2 ?_
        · rintro w hTw
          go_simp
        (try simp only [Act.put, List.getElem_toArray, List.getElem_cons_succ, List.getElem_cons_zero, List.setIfInBounds_toArray, List.set_cons_succ, List.set_cons_zero])
        refine wpTwo_takeT (i := 11) (v := .agg #[.int .i64 a, .int .i64 g, .int .i64 m', .int .i64 ph, .int .u64 b, .slice pv vs.length cv, .int .i64 t0]) rfl (by kernel_rfl) (by kernel_rfl) (by kernel_rfl) (fun _ _ _ h => h) ⟨by rfl, ?_⟩ hT2 ?_
        · rintro w hTw
          go_simp
        (try simp only [Act.put, List.getElem_toArray, List.getElem_cons_succ, List.getElem_cons_zero, List.setIfInBounds_toArray, List.set_cons_succ, List.set_cons_zero])
        refine wpTwo_takeT (i := 12) (v := .int .i64 0) rfl (by kernel_rfl) (by kernel_rfl) (by kernel_rfl) (fun _ _ _ h => h) ⟨by rfl, ?_⟩ hT2 ?_
        · rintro w hTw
          go_simp
        (try simp only [Act.put, List.getElem_toArray, List.getElem_cons_succ, List.getElem_cons_zero, List.setIfInBounds_toArray, List.set_cons_succ, List.set_cons_zero])
        refine wpTwo_ready (rs := [13]) (by kernel_rfl) (by simp) ?_
        refine (AllTwo.cons rfl (fun K hK => ?_) AllTwo.nil)
        · go_simp
          obtain ⟨y7, hy⟩ : ∃ q, q = X2.heap.size := ⟨_, rfl⟩
          obtain ⟨X3, hX⟩ : ∃ X : World, X = X2.alloc (.cells #[.slice none 0 0, .slice none 0 0, .bool false] 44) := ⟨_, rfl⟩
          rw [← hX, ← hy]
          have hb : Below X2.heap.size X2 X3 := by rw [hX]; exact below1 _ _
          have hl7 : zm < y7 ∧ zr < y7 ∧ W.heap.size ≤ y7 := by rw [hy]; exact ⟨hT2.1.lt, hT2.2.lt, HB2.out.size⟩
          have hT3 := And.intro (hT2.1.below hb) (hT2.2.below hb)
          have HI3 := Lib.hid (And.intro (HI2.out.1.below hb) (And.intro (owns_below HI2.out.2.1 hb) (owns_below HI2.out.2.2 hb)))
          have HG3 := Lib.hid (HG2.out.below hb)
          have HO3 := Lib.hid (And.intro HO2.out.1 (owns_below HO2.out.2 hb))
          have HB3 := Lib.hid (below_then HB2.out HB2.out.size hb)
          have HA_3 := Lib.hid (show MBox X3 y7 (.slice none 0 0) (.slice none 0 0) false by rw [hX, hy]; exact MBox.new _ _ _ _)
          clear hb hX hy
          refine hK.out _ _ ⟨hT3, fun _ _ => trivial⟩ ?_
          clear hK K
          (try simp only [Act.put, List.getElem_toArray, List.getElem_cons_succ, List.getElem_cons_zero, List.setIfInBounds_toArray, List.set_cons_succ, List.set_cons_zero])
          refine wpTwo_ready (rs := [15]) (by kernel_rfl) (by simp) ?_
          refine (AllTwo.cons rfl (fun K hK => ?_) AllTwo.nil)
          obtain ⟨⟨d0, d1, d2⟩, e0, e1, e2⟩ := mbox_cells HA_3.out
          have hn1 : y7 ≠ y8 := mbox_rdbox HA_3.out HG3.out
          obtain ⟨Xa, hXa⟩ : ∃ X : World, X = ((X3.setCell ⟨y7, 0, none⟩ (.slice (some ⟨gw2, 0, none⟩) n cw2)).setCell ⟨y7, 1, none⟩ (.slice (some ⟨gl2, 0, none⟩) 12 cl2)).setCell ⟨y7, 2, none⟩ (.bool false) := ⟨_, rfl⟩
          have hka : Keeps (fun q => q = y7) X3 Xa := by rw [hXa]; exact ((Keeps.setCell X3 (S := fun q => q = y7) (p := ⟨y7, 0, none⟩) rfl _).trans (Keeps.setCell _ (S := fun q => q = y7) (p := ⟨y7, 1, none⟩) rfl _)).trans (Keeps.setCell _ (S := fun q => q = y7) (p := ⟨y7, 2, none⟩) rfl _)
          have hTa := And.intro (hT3.1.keeps hka (by intro e; have e : zm = y7 := e; omega)) (show RdBox Xa zr ⟨9, 2, m, 0, 0, 0⟩ (.slice none 0 0) from (hka.block zr hT3.2.lt (by intro e; have e : zr = y7 := e; omega)).trans hT3.2)
          have HAa := Lib.hid (show MBox Xa y7 (.slice (some ⟨gw2, 0, none⟩) n cw2) (.slice (some ⟨gl2, 0, none⟩) 12 cl2) false by rw [hXa]; exact HA_3.out.set _ _ _)
          have HGa := Lib.hid (show RdBox Xa y8 ⟨0, 0, 0, 0, 0, 0⟩ (.slice none 0 0) from (hka.block y8 HG3.out.lt (fun e => hn1 e.symm)).trans HG3.out)
          have HOa := Lib.hid (And.intro HO3.out.1 (hka.row HO3.out.2 (fun g hg e => HA_3.out.row HO3.out.2 (by decide) hg e.symm)))
          have HIa := Lib.hid (And.intro HI3.out.1.1 (And.intro (hka.row HI3.out.1.2.2.1 (fun g hg e => HA_3.out.row HI3.out.1.2.2.1 (by decide) hg e.symm)) (fun x hx => And.intro (HI3.out.1.2.2.2.2 x hx).1 (hka.row (HI3.out.1.2.2.2.2 x hx).2 (fun g hg e => HA_3.out.row (HI3.out.1.2.2.2.2 x hx).2 (by decide) hg e.symm)))))
          have HBa := Lib.hid (HB3.out.trans (hka.below HB3.out.size (fun q hq => by have e : q = y7 := hq; omega)))
          go_simp
          rw [← hXa]
          refine hK.out _ _ ⟨hTa, fun _ _ => trivial⟩ ?_
          clear hK K d0 d1 d2 e0 e1 e2 hXa hka
          (try simp only [Act.put, List.getElem_toArray, List.getElem_cons_succ, List.getElem_cons_zero, List.setIfInBounds_toArray, List.set_cons_succ, List.set_cons_zero])
          refine wpTwo_ready (rs := [16]) (by kernel_rfl) (by simp) ?_
          refine (AllTwo.cons rfl (fun K hK => ?_) AllTwo.nil)
          obtain ⟨d0, d1, d2, d3, d4, d5, d6⟩ := HGa.out.cells
          dsimp only at d0 d1 d2 d3 d4 d6
          have v0 := HGa.out.marks 0
          have v1 := HGa.out.marks 1
          have v2 := HGa.out.marks 2
          have v3 := HGa.out.marks 3
          have v4 := HGa.out.marks 4
          have v5 := HGa.out.marks 5
          have v6 := HGa.out.marks 6
          obtain ⟨Xb, hXb⟩ : ∃ X : World, X = ((((((Xa.setCell ⟨y8, 0, none⟩ (.int .i64 a)).setCell ⟨y8, 1, none⟩ (.int .i64 g)).setCell ⟨y8, 2, none⟩ (.int .i64 m')).setCell ⟨y8, 3, none⟩ (.int .i64 ph)).setCell ⟨y8, 4, none⟩ (.int .u64 b)).setCell ⟨y8, 5, none⟩ (.slice pv vs.length cv)).setCell ⟨y8, 6, none⟩ (.int .i64 t0) := ⟨_, rfl⟩
          have hkb : Keeps (fun q => q = y8) Xa Xb := by rw [hXb]; exact RdBox.putK Xa y8 ⟨a, g, m', ph, b, t0⟩ (.slice pv vs.length cv)
          have hTb := And.intro (hTa.1.keeps hkb (by intro e; have e : zm = y8 := e; omega)) (show RdBox Xb zr ⟨9, 2, m, 0, 0, 0⟩ (.slice none 0 0) from (hkb.block zr hTa.2.lt (by intro e; have e : zr = y8 := e; omega)).trans hTa.2)
          have HF := Lib.hid (show MBox Xb y7 (.slice (some ⟨gw2, 0, none⟩) n cw2) (.slice (some ⟨gl2, 0, none⟩) 12 cl2) false ∧ RdBox Xb y8 ⟨a, g, m', ph, b, t0⟩ (.slice pv vs.length cv) ∧ Xb.ownsRow W.heap.size 27 1 (.slice pv vs.length cv) vs.length (vs.map (Value.int .u64)) ∧ Xb.ownsRow W.heap.size 24 1 (.slice q2 (i + 1) c2) (i + 1) (hs.map (·.1)) ∧ (∀ x ∈ hs, x.2.length = m ∧ Xb.ownsRow W.heap.size 27 1 x.1 m (x.2.map (Value.int .u64))) from
            ⟨HAa.out.keeps hkb hn1, by rw [hXb]; exact HGa.out.put ⟨a, g, m', ph, b, t0⟩ (.slice pv vs.length cv), hkb.row HOa.out.2 (fun g hg e => RdBox.row HGa.out HOa.out.2 (by decide) hg e.symm), hkb.row HIa.out.2.1 (fun g hg e => RdBox.row HGa.out HIa.out.2.1 (by decide) hg e.symm), fun x hx => ⟨(HIa.out.2.2 x hx).1, hkb.row (HIa.out.2.2 x hx).2 (fun g hg e => RdBox.row HGa.out (HIa.out.2.2 x hx).2 (by decide) hg e.symm)⟩⟩)
          have HBb := Lib.hid (HBa.out.trans (hkb.below HBa.out.size (fun q hq => by have e : q = y8 := hq; omega)))
          go_simp
          rw [← hXb]
          refine hK.out _ _ ⟨hTb, fun _ _ => trivial⟩ ?_
          clear hK K d0 d1 d2 d3 d4 d5 d6 v0 v1 v2 v3 v4 v5 v6 hXb hkb
          (try simp only [Act.put, List.getElem_toArray, List.getElem_cons_succ, List.getElem_cons_zero, List.setIfInBounds_toArray, List.set_cons_succ, List.set_cons_zero])
          refine wpTwo_takeT (i := 17) (v := .int .i64 0) rfl (by kernel_rfl) (by kernel_rfl) (by kernel_rfl) (fun _ _ _ h => h) ⟨by rfl, ?_⟩ hTb ?_
          · rintro w hTw
            go_simp
          (try simp only [Act.put, List.getElem_toArray, List.getElem_cons_succ, List.getElem_cons_zero, List.setIfInBounds_toArray, List.set_cons_succ, List.set_cons_zero])
          refine wpTwo_end (by kernel_rfl) ?_ _
          go_wp2
          go_meet
          exact ⟨y7, y8, a, g, m', ph, b, t0, vs, pv, cv, gw2, cw2, gl2, cl2, n, rfl, rfl, rfl, Lib.hid ⟨HOa.out.1, HIa.out.1, HF.out, HBb.out⟩⟩
      · go_simp
        obtain ⟨y7, hy⟩ : ∃ q, q = X1.heap.size := ⟨_, rfl⟩
        obtain ⟨X2, hX⟩ : ∃ X : World, X = X1.alloc (.cells #[.slice none 0 0, .slice none 0 0, .bool false] 44) := ⟨_, rfl⟩
        rw [← hX, ← hy]
        have hb : Below X1.heap.size X1 X2 := by rw [hX]; exact below1 _ _
        have hl7 : zm < y7 ∧ zr < y7 ∧ W.heap.size ≤ y7 := by rw [hy]; exact ⟨hT1.1.lt, hT1.2.lt, HB1.out.size⟩
        have hT2 := And.intro (hT1.1.below hb) (hT1.2.below hb)
        have HI2 := Lib.hid (And.intro (HI1.out.1.below hb) (And.intro (owns_below HI1.out.2.1 hb) (owns_below HI1.out.2.2 hb)))
        have HG2 := Lib.hid (HG1.out.below hb)
        have HB2 := Lib.hid (below_then HB1.out HB1.out.size hb)
        have HA_2 := Lib.hid (show MBox X2 y7 (.slice none 0 0) (.slice none 0 0) false by rw [hX, hy]; exact MBox.new _ _ _ _)
        clear hb hX hy
        refine hK.out _ _ ⟨hT2, fun _ _ => trivial⟩ ?_
        clear hK K
        (try simp only [Act.put, List.getElem_toArray, List.getElem_cons_succ, List.getElem_cons_zero, List.setIfInBounds_toArray, List.set_cons_succ, List.set_cons_zero])
        refine wpTwo_ready (rs := [8]) (by kernel_rfl) (by simp) ?_
        refine (AllTwo.cons rfl (fun K hK => ?_) AllTwo.nil)
        · go_simp
          refine (wplay_c W.heap.size m i ⟨hm1, hm3⟩ hi4 l hs q c q2 c2 gw cw gl cl p1 c1 kb (bs.take 80) X2 HI2.out.1 HI2.out.2.1 HI2.out.2.2 (argr_pk (HA.out.2.below HB2.out) 80) HPK.out.1 HPK.out.2).mono ?_
          rintro e X3 ⟨⟨gw2, cw2, gl2, cl2, n, pv, cv, ⟨a, g, m', ph, b, t0⟩, vs, rfl, hfs, ho⟩, hb⟩
          dsimp only at hfs
          have hT3 := And.intro (hT2.1.below hb) (hT2.2.below hb)
          have HI3 := Lib.hid (And.intro (HI2.out.1.below hb) (And.intro (owns_below HI2.out.2.1 hb) (owns_below HI2.out.2.2 hb)))
          have HG3 := Lib.hid (HG2.out.below hb)
          have HA_3 := Lib.hid (HA_2.out.below hb)
          have HB3 := Lib.hid (below_then HB2.out HB2.out.size hb)
          have HO3 := Lib.hid (And.intro hfs (ho.mono HB2.out.size))
          clear hb ho hfs
          unfold rdV
          dsimp only
          go_wp2_with fail
          refine hK.out _ _ ⟨hT3, fun _ _ => trivial⟩ ?_
          clear hK K
          (try simp only [Act.put, List.getElem_toArray, List.getElem_cons_succ, List.getElem_cons_zero, List.setIfInBounds_toArray, List.set_cons_succ, List.set_cons_zero])
          refine wpTwo_takeT (i := 9) (v := .tuple #[.agg #[.slice (some ⟨gw2, 0, none⟩) n cw2, .slice (some ⟨gl2, 0, none⟩) 12 cl2, .bool false], .agg #[.int .i64 a, .int .i64 g, .int .i64 m', .int .i64 ph, .int .u64 b, .slice pv vs.length cv, .int .i64 t0], .int .i64 0]) rfl (by kernel_rfl) (by kernel_rfl) (by kernel_rfl) (fun _ _ _ h => h) ⟨by rfl, ?_⟩ hT3 ?_
          · rintro w hTw
            go_simp
          (try simp only [Act.put, List.getElem_toArray, List.getElem_cons_succ, List.getElem_cons_zero, List.setIfInBounds_toArray, List.set_cons_succ, List.set_cons_zero])
          refine wpTwo_takeT (i := 10) (v := .agg #[.slice (some ⟨gw2, 0, none⟩) n cw2, .slice (some ⟨gl2, 0, none⟩) 12 cl2, .bool false]) rfl (by kernel_rfl) (by kernel_rfl) (by kernel_rfl) (fun _ _ _ h => h) ⟨by rfl, ?_⟩ hT3 ?_
          · rintro w hTw
            go_simp
          (try simp only [Act.put, List.getElem_toArray, List.getElem_cons_succ, List.getElem_cons_zero, List.setIfInBounds_toArray, List.set_cons_succ, List.set_cons_zero])
          refine wpTwo_takeT (i := 11) (v := .agg #[.int .i64 a, .int .i64 g, .int .i64 m', .int .i64 ph, .int .u64 b, .slice pv vs.length cv, .int .i64 t0]) rfl (by kernel_rfl) (by kernel_rfl) (by kernel_rfl) (fun _ _ _ h => h) ⟨by rfl, ?_⟩ hT3 ?_
          · rintro w hTw
            go_simp
          (try simp only [Act.put, List.getElem_toArray, List.getElem_cons_succ, List.getElem_cons_zero, List.setIfInBounds_toArray, List.set_cons_succ, List.set_cons_zero])
          refine wpTwo_takeT (i := 12) (v := .int .i64 0) rfl (by kernel_rfl) (by kernel_rfl) (by kernel_rfl) (fun _ _ _ h => h) ⟨by rfl, ?_⟩ hT3 ?_
          · rintro w hTw
            go_simp
          (try simp only [Act.put, List.getElem_toArray, List.getElem_cons_succ, List.getElem_cons_zero, List.setIfInBounds_toArray, List.set_cons_succ, List.set_cons_zero])
          refine wpTwo_ready (rs := [15]) (by kernel_rfl) (by simp) ?_
          refine (AllTwo.cons rfl (fun K hK => ?_) AllTwo.nil)
          obtain ⟨⟨d0, d1, d2⟩, e0, e1, e2⟩ := mbox_cells HA_3.out
          have hn1 : y7 ≠ y8 := mbox_rdbox HA_3.out HG3.out
          obtain ⟨Xa, hXa⟩ : ∃ X : World, X = ((X3.setCell ⟨y7, 0, none⟩ (.slice (some ⟨gw2, 0, none⟩) n cw2)).setCell ⟨y7, 1, none⟩ (.slice (some ⟨gl2, 0, none⟩) 12 cl2)).setCell ⟨y7, 2, none⟩ (.bool false) := ⟨_, rfl⟩
          have hka : Keeps (fun q => q = y7) X3 Xa := by rw [hXa]; exact ((Keeps.setCell X3 (S := fun q => q = y7) (p := ⟨y7, 0, none⟩) rfl _).trans (Keeps.setCell _ (S := fun q => q = y7) (p := ⟨y7, 1, none⟩) rfl _)).trans (Keeps.setCell _ (S := fun q => q = y7) (p := ⟨y7, 2, none⟩) rfl _)
          have hTa := And.intro (hT3.1.keeps hka (by intro e; have e : zm = y7 := e; omega)) (show RdBox Xa zr ⟨9, 2, m, 0, 0, 0⟩ (.slice none 0 0) from (hka.block zr hT3.2.lt (by intro e; have e : zr = y7 := e; omega)).trans hT3.2)
          have HAa := Lib.hid (show MBox Xa y7 (.slice (some ⟨gw2, 0, none⟩) n cw2) (.slice (some ⟨gl2, 0, none⟩) 12 cl2) false by rw [hXa]; exact HA_3.out.set _ _ _)
          have HGa := Lib.hid (show RdBox Xa y8 ⟨0, 0, 0, 0, 0, 0⟩ (.slice none 0 0) from (hka.block y8 HG3.out.lt (fun e => hn1 e.symm)).trans HG3.out)
          have HOa := Lib.hid (And.intro HO3.out.1 (hka.row HO3.out.2 (fun g hg e => HA_3.out.row HO3.out.2 (by decide) hg e.symm)))
          have HIa := Lib.hid (And.intro HI3.out.1.1 (And.intro (hka.row HI3.out.1.2.2.1 (fun g hg e => HA_3.out.row HI3.out.1.2.2.1 (by decide) hg e.symm)) (fun x hx => And.intro (HI3.out.1.2.2.2.2 x hx).1 (hka.row (HI3.out.1.2.2.2.2 x hx).2 (fun g hg e => HA_3.out.row (HI3.out.1.2.2.2.2 x hx).2 (by decide) hg e.symm)))))
          have HBa := Lib.hid (HB3.out.trans (hka.below HB3.out.size (fun q hq => by have e : q = y7 := hq; omega)))
          go_simp
          rw [← hXa]
          refine hK.out _ _ ⟨hTa, fun _ _ => trivial⟩ ?_
          clear hK K d0 d1 d2 e0 e1 e2 hXa hka
          (try simp only [Act.put, List.getElem_toArray, List.getElem_cons_succ, List.getElem_cons_zero, List.setIfInBounds_toArray, List.set_cons_succ, List.set_cons_zero])
          refine wpTwo_ready (rs := [16]) (by kernel_rfl) (by simp) ?_
          refine (AllTwo.cons rfl (fun K hK => ?_) AllTwo.nil)
          obtain ⟨d0, d1, d2, d3, d4, d5, d6⟩ := HGa.out.cells
          dsimp only at d0 d1 d2 d3 d4 d6
          have v0 := HGa.out.marks 0
          have v1 := HGa.out.marks 1
          have v2 := HGa.out.marks 2
          have v3 := HGa.out.marks 3
          have v4 := HGa.out.marks 4
          have v5 := HGa.out.marks 5
          have v6 := HGa.out.marks 6
          obtain ⟨Xb, hXb⟩ : ∃ X : World, X = ((((((Xa.setCell ⟨y8, 0, none⟩ (.int .i64 a)).setCell ⟨y8, 1, none⟩ (.int .i64 g)).setCell ⟨y8, 2, none⟩ (.int .i64 m')).setCell ⟨y8, 3, none⟩ (.int .i64 ph)).setCell ⟨y8, 4, none⟩ (.int .u64 b)).setCell ⟨y8, 5, none⟩ (.slice pv vs.length cv)).setCell ⟨y8, 6, none⟩ (.int .i64 t0) := ⟨_, rfl⟩
          have hkb : Keeps (fun q => q = y8) Xa Xb := by rw [hXb]; exact RdBox.putK Xa y8 ⟨a, g, m', ph, b, t0⟩ (.slice pv vs.length cv)
          have hTb := And.intro (hTa.1.keeps hkb (by intro e; have e : zm = y8 := e; omega)) (show RdBox Xb zr ⟨9, 2, m, 0, 0, 0⟩ (.slice none 0 0) from (hkb.block zr hTa.2.lt (by intro e; have e : zr = y8 := e; omega)).trans hTa.2)
          have HF := Lib.hid (show MBox Xb y7 (.slice (some ⟨gw2, 0, none⟩) n cw2) (.slice (some ⟨gl2, 0, none⟩) 12 cl2) false ∧ RdBox Xb y8 ⟨a, g, m', ph, b, t0⟩ (.slice pv vs.length cv) ∧ Xb.ownsRow W.heap.size 27 1 (.slice pv vs.length cv) vs.length (vs.map (Value.int .u64)) ∧ Xb.ownsRow W.heap.size 24 1 (.slice q2 (i + 1) c2) (i + 1) (hs.map (·.1)) ∧ (∀ x ∈ hs, x.2.length = m ∧ Xb.ownsRow W.heap.size 27 1 x.1 m (x.2.map (Value.int .u64))) from
            ⟨HAa.out.keeps hkb hn1, by rw [hXb]; exact HGa.out.put ⟨a, g, m', ph, b, t0⟩ (.slice pv vs.length cv), hkb.row HOa.out.2 (fun g hg e => RdBox.row HGa.out HOa.out.2 (by decide) hg e.symm), hkb.row HIa.out.2.1 (fun g hg e => RdBox.row HGa.out HIa.out.2.1 (by decide) hg e.symm), fun x hx => ⟨(HIa.out.2.2 x hx).1, hkb.row (HIa.out.2.2 x hx).2 (fun g hg e => RdBox.row HGa.out (HIa.out.2.2 x hx).2 (by decide) hg e.symm)⟩⟩)
          have HBb := Lib.hid (HBa.out.trans (hkb.below HBa.out.size (fun q hq => by have e : q = y8 := hq; omega)))
          go_simp
          rw [← hXb]
          refine hK.out _ _ ⟨hTb, fun _ _ => trivial⟩ ?_
          clear hK K d0 d1 d2 d3 d4 d5 d6 v0 v1 v2 v3 v4 v5 v6 hXb hkb
          (try simp only [Act.put, List.getElem_toArray, List.getElem_cons_succ, List.getElem_cons_zero, List.setIfInBounds_toArray, List.set_cons_succ, List.set_cons_zero])
          refine wpTwo_takeT (i := 17) (v := .int .i64 0) rfl (by kernel_rfl) (by kernel_rfl) (by kernel_rfl) (fun _ _ _ h => h) ⟨by rfl, ?_⟩ hTb ?_
          · rintro w hTw
            go_simp
          (try simp only [Act.put, List.getElem_toArray, List.getElem_cons_succ, List.getElem_cons_zero, List.setIfInBounds_toArray, List.set_cons_succ, List.set_cons_zero])
          refine wpTwo_end (by kernel_rfl) ?_ _
          go_wp2
          go_meet
          exact ⟨y7, y8, a, g, m', ph, b, t0, vs, pv, cv, gw2, cw2, gl2, cl2, n, rfl, rfl, rfl, Lib.hid ⟨HOa.out.1, HIa.out.1, HF.out, HBb.out⟩⟩
  case rest =>
    obtain ⟨y7, y8, a, g, m', ph, b, t0, vs, pv, cv, gw2, cw2, gl2, cl2, n, rfl, rfl, rfl, HX⟩ := hcut
    clear HI
    obtain ⟨w9, hw9⟩ : ∃ X : World, X = wc := ⟨_, rfl⟩
    rw [← hw9] at HX ⊢
    clear hw9
    obtain ⟨⟨d0, d1, d2⟩, -⟩ := mbox_cells HX.out.2.2.1.1
    obtain ⟨x0, x1, x2, x3, x4, x5, x6⟩ := HX.out.2.2.1.2.1.cells
    dsimp only at x0 x1 x2 x3 x4 x6
    have hx1 : ¬ ((i : Int) < t0) := by have := HX.out.1.1; omega
    have hx2 : (ph == 5) = false := by rw [beq_eq_false_iff_ne]; exact HX.out.1.2.1
    by_cases h4 : ph = 4
    · have HC := Lib.hid (show Calls Try.prog 35 #[.slice q2 (i + 1) c2, .func (.func 36) #[] #[.pointer (some ⟨y8, 0, none⟩)]] w9 fun e w' => e = .returned (.bool true) ∧ Below w9.heap.size w9 w' from by
        obtain ⟨⟨-, -, hmem⟩, ⟨e1, e2, e3⟩, ⟨-, k2, k3, k5, k6⟩, -⟩ := HX.out
        have hmem := hmem h4
        have hvl : vs.length = m := by
          obtain ⟨x, hx, rfl⟩ := List.mem_map.1 hmem
          exact (k6 x hx).1
        exact hadContains_c y8 _ _ _ hs vs w9 k2 (had_of_owns e2 k5 (fun x hx => nums_of_owns (k6 x hx).1 (k6 x hx).2)) (nums_of_owns rfl k3) (fun x hx => by rw [(k6 x hx).1]; omega) (by omega) (by omega) hmem)
      subst h4
      have HB9 := Lib.hid HX.out.2.2.2
      clear HX hx2
      go_wp2_with fail
      refine HC.out.mono ?_
      rintro e w10 ⟨rfl, hb10⟩
      have HB := Lib.hid (below_then HB9.out HB9.out.size hb10)
      clear hb10 HC HB9 d0 d1 d2 x0 x1 x2 x3 x4 x5 x6
      go_wp2
      go_ret
      exact ⟨rfl, HB.out⟩
    · have hx3 : (ph == 4) = false := by rw [beq_eq_false_iff_ne]; exact h4
      have hx4 : (ph != 4) = true := by rw [bne_iff_ne]; exact h4
      have hx5 : decide (ph = 4) = false := decide_eq_false h4
      have HB9 := Lib.hid HX.out.2.2.2
      clear HX
      go_wp2
      go_ret
      exact ⟨rfl, HB9.out⟩

end Go.Proofs.Ytaljpggajpoalaa
