/-
  wakes, of the statements of layer 7: it answers true.
  Conditions: none.
-/
import Derived.Test.YthjkaabbbhfjhaaPNew
import Derived.Test.YthjkaabbbhfjhaaPSame
import Derived.Test.YthjkaabbbhfjhaaPOwn
import Derived.Test.YthjkaabbbhfjhaaPRefA
namespace Go.Proofs.Ythjkaabbbhfjhaa
open Go.RowKit Go.Shelf
attribute [local go_sem] Oper.semAt_some

/-- A variable that holds a pool that reads so. -/
def PV (W : World) (z : Nat) (b pg : Int) (p : Option Addr) (n c : Nat) (xs : List Int) : Prop := PBox W z b pg (.slice p n c) ∧ NumsAt W .i64 (.slice p n c) xs ∧ (p = none → c = 0) ∧ xs.length = n ∧ n ≤ c
theorem PV.below {W W' : World} {z : Nat} {b pg : Int} {p : Option Addr} {n c : Nat} {xs : List Int} (h : PV W z b pg p n c xs) (hb : Below W.heap.size W W') : PV W' z b pg p n c xs := ⟨h.1.below hb, nums_below h.2.1 hb, h.2.2⟩
theorem owns_nilcap {W : World} {B : Nat} {E : TypeId} {s n c : Nat} {p : Option Addr} {xs : List Value} (h : W.ownsRow B E s (.slice p n c) n xs) : p = none → c = 0 := fun e => by
  rcases h.2 with ⟨e1, h0⟩ | ⟨g, cap, cur, e1, _⟩
  · injection e1
  · rw [e] at e1; injection e1 with e1; cases e1
theorem PV.of_owns {w : World} {b pg : Int} {p : Option Addr} {n c B : Nat} {xs : List Int} (h : w.ownsRow B 3 1 (.slice p n c) n (xs.map (Value.int .i64))) (hl : xs.length = n) : PV (w.alloc (.cells #[.int .i64 b, .int .i64 pg, .slice p n c] 24)) w.heap.size b pg p n c xs :=
  ⟨PBox.new _ _ _ _, nums_below (nums_of_owns hl h) (below1 _ _), owns_nilcap h, hl, owns_cap h⟩
theorem PV.of_rowS {w : World} {b pg : Int} {p : Option Addr} {n c B : Nat} {xs : List Int} (h : RowS w B p n c xs) : PV (w.alloc (.cells #[.int .i64 b, .int .i64 pg, .slice p n c] 24)) w.heap.size b pg p n c xs :=
  ⟨PBox.new _ _ _ _, nums_below h.nums (below1 _ _), h.nil_cap, h.1, by rcases h.2 with ⟨_, h1, h2⟩ | ⟨_, _, _, _, _, h1, _⟩ <;> omega⟩

theorem take_known (b pg x : Int) (p : Option Addr) (n c : Nat) (l : List Int) (W : World) (hn : n = l.length + 1) (hn64 : n ≤ 64) (hl : NumsAt W .i64 (.slice p n c) (l ++ [x])) (hv : p = none → c = 0) (hr : rightP b pg (l ++ [x]) = true) :
    Calls Try.prog 10 #[.agg #[.int .i64 b, .int .i64 pg, .slice p n c]] W fun e w' => (∃ p', e = .returned (.tuple #[.agg #[.int .i64 b, .int .i64 pg, .slice p' l.length l.length], .int .i64 x, .int .i64 0]) ∧ RowS w' W.heap.size p' l.length l.length l) ∧ Below W.heap.size W w' := by
  have e : n = (l ++ [x]).length := by simp [hn]
  rw [e] at hl ⊢
  refine (take_yes b pg p c (l ++ [x]) W (by omega) hl hv hr).mono ?_
  rintro e w' ⟨⟨h, _⟩ | ⟨gs, y, p', h, rfl, hR⟩, hB⟩
  · simp at h
  · obtain ⟨h1, h2⟩ := List.append_inj' h rfl
    injection h2 with h2 _
    subst h1 h2
    exact ⟨⟨p', rfl, hR⟩, hB⟩
theorem give_known (b pg : Int) (p : Option Addr) (n c : Nat) (fs ps : List Int) (q : Option Addr) (m c2 : Nat) (W : World) (hn : n = fs.length) (hm : m = ps.length) (hn64 : n ≤ 64) (hm64 : m ≤ 64) (hl : NumsAt W .i64 (.slice p n c) fs) (hv : p = none → c = 0) (hr : rightP b pg fs = true) (hps : NumsAt W .i64 (.slice q m c2) ps) (gs : List Int) (hg : giveR pg fs ps = (0, gs)) :
    Calls Try.prog 12 #[.agg #[.int .i64 b, .int .i64 pg, .slice p n c], .slice q m c2] W fun e w' => (∃ p' c', e = .returned (.tuple #[.agg #[.int .i64 b, .int .i64 pg, .slice p' gs.length c'], .int .i64 0]) ∧ w'.ownsRow W.heap.size 3 1 (.slice p' gs.length c') gs.length (gs.map (Value.int .i64)) ∧ okP pg gs) ∧ Below W.heap.size W w' := by
  subst hn hm
  refine (give_yes b pg p c fs ps q c2 W (by omega) (by omega) hl hv hr hps).mono ?_
  rw [hg]
  rintro e w' ⟨⟨h, _⟩ | ⟨_, p', c', rfl, h1, h2⟩, hB⟩
  · exact absurd rfl h
  · exact ⟨⟨p', c', rfl, h1, h2⟩, hB⟩
theorem give_err (b pg : Int) (p : Option Addr) (n c : Nat) (fs ps : List Int) (q : Option Addr) (m c2 : Nat) (W : World) (hn : n = fs.length) (hm : m = ps.length) (hn64 : n ≤ 64) (hm64 : m ≤ 64) (hl : NumsAt W .i64 (.slice p n c) fs) (hv : p = none → c = 0) (hr : rightP b pg fs = true) (hps : NumsAt W .i64 (.slice q m c2) ps) (er : Int) (he : er ≠ 0) (hg : (giveR pg fs ps).1 = er) :
    Calls Try.prog 12 #[.agg #[.int .i64 b, .int .i64 pg, .slice p n c], .slice q m c2] W fun e w' => e = .returned (.tuple #[zeroP, .int .i64 er]) ∧ Below W.heap.size W w' := by
  subst hn hm
  refine (give_yes b pg p c fs ps q c2 W (by omega) (by omega) hl hv hr hps).mono ?_
  rw [hg]
  rintro e w' ⟨⟨h, rfl⟩ | ⟨h, _⟩, hB⟩
  · exact ⟨rfl, hB⟩
  · exact absurd h he
theorem lit1 (w : World) (x : Int) : NumsAt (w.alloc (.cells #[.int .i64 x] 3)) .i64 (.slice (some ⟨w.heap.size, 0, none⟩) 1 1) [x] :=
  ⟨some ⟨w.heap.size, 0, none⟩, 1, rfl, fun _ => ⟨w.heap.size, 0, rfl, fun i hi => by
    have h := World.alloc_heap_new w (.cells #[.int .i64 x] 3)
    match i, hi with
    | 0, _ => unfold World.cell?; simp only [h]; rfl⟩⟩
theorem lit2 (w : World) (x y : Int) : NumsAt (w.alloc (.cells #[.int .i64 x, .int .i64 y] 3)) .i64 (.slice (some ⟨w.heap.size, 0, none⟩) 2 2) [x, y] :=
  ⟨some ⟨w.heap.size, 0, none⟩, 2, rfl, fun _ => ⟨w.heap.size, 0, rfl, fun i hi => by
    have h := World.alloc_heap_new w (.cells #[.int .i64 x, .int .i64 y] 3)
    match i, hi with
    | 0, _ => unfold World.cell?; simp only [h]; rfl
    | 1, _ => unfold World.cell?; simp only [h]; rfl⟩⟩

set_option maxRecDepth 100000 in
set_option maxHeartbeats 8000000 in
theorem wakes7 (W : World) : Calls Try.prog 7 #[] W fun e w' => e = .returned (.bool true) ∧ Below W.heap.size W w' := by
  have HNEW := Lib.hid (new_yes 32 3 W (by decide))
  rw [show (3 : Int).toNat = 3 from rfl, show newL 3 = [2, 1, 0] by decide] at HNEW
  go_enter Try.func7, Try.ntmps7
  go_wp2_with fail
  refine HNEW.out.mono ?_
  rintro e w1 ⟨⟨p1, c1, rfl, ho1⟩, hb1⟩
  clear HNEW
  have hv1 := PV.of_owns (b := 32) (pg := 3) ho1 rfl
  obtain ⟨x1, hx1⟩ : ∃ X : World, X = w1.alloc (.cells #[.int .i64 32, .int .i64 3, .slice p1 3 c1] 24) := ⟨_, rfl⟩
  have hbx1 : Below w1.heap.size w1 x1 := by rw [hx1]; exact below1 _ _
  have HV1 := Lib.hid (show PV x1 w1.heap.size 32 3 p1 3 c1 [2, 1, 0] by rw [hx1]; exact hv1)
  have HB1 := Lib.hid (below_then hb1 hb1.size hbx1)
  have d1 := HV1.out.1.cells
  have HX1 := Lib.hid hx1
  rw [hx1] at d1
  obtain ⟨d10, d11, d12⟩ := d1
  clear hx1 hbx1 hb1 ho1 hv1
  have HT1 := Lib.hid (take_known 32 3 0 p1 3 c1 [2, 1] x1 rfl (by decide) HV1.out.2.1 HV1.out.2.2.1 (by decide))
  go_wp2_with fail
  rw [← HX1.out]
  clear d10 d11 d12 HX1
  refine HT1.out.mono ?_
  rintro e w2 ⟨⟨p2, rfl, hr2⟩, hb2⟩
  dsimp only [List.length_cons, List.length_nil] at hr2 ⊢
  have hv2 := PV.of_rowS (b := 32) (pg := 3) hr2
  obtain ⟨x2, hx2⟩ : ∃ X : World, X = w2.alloc (.cells #[.int .i64 32, .int .i64 3, .slice p2 2 2] 24) := ⟨_, rfl⟩
  have hbx2 : Below w2.heap.size w2 x2 := by rw [hx2]; exact below1 _ _
  have HV2 := Lib.hid (show PV x2 w2.heap.size 32 3 p2 2 2 [2, 1] by rw [hx2]; exact hv2)
  have HB2 := Lib.hid (below_then (below_then HB1.out HB1.out.size hb2) (below_then HB1.out HB1.out.size hb2).size hbx2)
  have HV1 := Lib.hid ((HV1.out.below hb2).below hbx2)
  have d2 := HV2.out.1.cells
  have HX2 := Lib.hid hx2
  rw [hx2] at d2
  obtain ⟨d20, d21, d22⟩ := d2
  clear hx2 hbx2 hb2 hr2 hv2 HT1 HB1
  have HT2 := Lib.hid (take_known 32 3 1 p2 2 2 [2] x2 rfl (by decide) HV2.out.2.1 HV2.out.2.2.1 (by decide))
  go_wp2_with fail
  rw [← HX2.out]
  clear d20 d21 d22 HX2
  refine HT2.out.mono ?_
  rintro e w3 ⟨⟨p3, rfl, hr3⟩, hb3⟩
  dsimp only [List.length_cons, List.length_nil] at hr3 ⊢
  have hv3 := PV.of_rowS (b := 32) (pg := 3) hr3
  obtain ⟨x3, hx3⟩ : ∃ X : World, X = w3.alloc (.cells #[.int .i64 32, .int .i64 3, .slice p3 1 1] 24) := ⟨_, rfl⟩
  have hbx3 : Below w3.heap.size w3 x3 := by rw [hx3]; exact below1 _ _
  have HV3 := Lib.hid (show PV x3 w3.heap.size 32 3 p3 1 1 [2] by rw [hx3]; exact hv3)
  have HB3 := Lib.hid (below_then (below_then HB2.out HB2.out.size hb3) (below_then HB2.out HB2.out.size hb3).size hbx3)
  have HV1 := Lib.hid ((HV1.out.below hb3).below hbx3)
  obtain ⟨y3, hy3⟩ : ∃ X : World, X = x3.alloc (.cells #[.int .i64 0] 3) := ⟨_, rfl⟩
  have hby3 : Below x3.heap.size x3 y3 := by rw [hy3]; exact below1 _ _
  have HB3 := Lib.hid (below_then HB3.out HB3.out.size hby3)
  have HV1 := Lib.hid (HV1.out.below hby3)
  have HL3 := Lib.hid (show NumsAt y3 .i64 (.slice (some ⟨x3.heap.size, 0, none⟩) 1 1) [0] by rw [hy3]; exact lit1 _ _)
  have d3 := HV3.out.1.cells
  have HX3 := Lib.hid hx3
  have HY3 := Lib.hid hy3
  have hz3 : x3.heap.size = w3.heap.size + 1 := by rw [hx3]; simp
  have HZ3 := Lib.hid hz3
  rw [hx3] at d3
  have HV3 := Lib.hid (HV3.out.below hby3)
  have HT3 := Lib.hid (give_known 32 3 p3 1 1 [2] [0] (some ⟨x3.heap.size, 0, none⟩) 1 1 y3 rfl rfl (by decide) (by decide) HV3.out.2.1 HV3.out.2.2.1 (by decide) HL3.out [2, 0] (by decide))
  rw [hz3] at HT3
  obtain ⟨d30, d31, d32⟩ := d3
  clear hx3 hbx3 hb3 hr3 hv3 HT2 HB2 hy3 hby3 hz3
  go_wp2_with fail
  rw [← HX3.out, ← HY3.out]
  clear d30 d31 d32 HX3 HY3
  refine HT3.out.mono ?_
  rintro e w4 ⟨⟨p4, c4, rfl, ho4, -⟩, hb4⟩
  dsimp only [List.length_cons, List.length_nil] at ho4 ⊢
  have hv4 := PV.of_owns (b := 32) (pg := 3) ho4 rfl
  obtain ⟨x4, hx4⟩ : ∃ X : World, X = w4.alloc (.cells #[.int .i64 32, .int .i64 3, .slice p4 2 c4] 24) := ⟨_, rfl⟩
  have hbx4 : Below w4.heap.size w4 x4 := by rw [hx4]; exact below1 _ _
  have HV4 := Lib.hid (show PV x4 w4.heap.size 32 3 p4 2 c4 [2, 0] by rw [hx4]; exact hv4)
  have HB4 := Lib.hid (below_then (below_then HB3.out HB3.out.size hb4) (below_then HB3.out HB3.out.size hb4).size hbx4)
  have HV1 := Lib.hid ((HV1.out.below hb4).below hbx4)
  have HV3 := Lib.hid ((HV3.out.below hb4).below hbx4)
  have d4 := HV4.out.1.cells
  have HX4 := Lib.hid hx4
  rw [hx4] at d4
  obtain ⟨d40, d41, d42⟩ := d4
  clear hx4 hbx4 hb4 ho4 hv4 HT3 HB3 HL3
  have HT4 := Lib.hid (take_known 32 3 0 p4 2 c4 [2] x4 rfl (by decide) HV4.out.2.1 HV4.out.2.2.1 (by decide))
  go_wp2_with fail
  rw [← HX4.out]
  clear d40 d41 d42 HX4
  refine HT4.out.mono ?_
  rintro e w5 ⟨⟨p5, rfl, hr5⟩, hb5⟩
  dsimp only [List.length_cons, List.length_nil] at hr5 ⊢
  obtain ⟨x5, hx5⟩ : ∃ X : World, X = w5.alloc (.cells #[.int .i64 32, .int .i64 3, .slice p5 1 1] 24) := ⟨_, rfl⟩
  have hbx5 : Below w5.heap.size w5 x5 := by rw [hx5]; exact below1 _ _
  have HB5 := Lib.hid (below_then (below_then HB4.out HB4.out.size hb5) (below_then HB4.out HB4.out.size hb5).size hbx5)
  have HV1 := Lib.hid ((HV1.out.below hb5).below hbx5)
  have HV3 := Lib.hid ((HV3.out.below hb5).below hbx5)
  have HX5 := Lib.hid hx5
  have d5 := HV1.out.1.cells
  rw [hx5] at d5
  obtain ⟨d50, d51, d52⟩ := d5
  have HW := Lib.hid (word_c 32 3 2 p1 c1 [2, 1, 0] x5 (by decide) HV1.out.2.1)
  rw [show wordM 32 3 [2, 1, 0] 2 = (64, 0) by decide] at HW
  clear hx5 hbx5 hb5 hr5 HT4 HB4
  go_wp2_with fail
  rw [← HX5.out]
  clear d50 d51 d52 HX5
  refine HW.out.mono ?_
  rintro e w6 ⟨rfl, hb6⟩
  obtain ⟨y6, hy6⟩ : ∃ X : World, X = w6.alloc (.cells #[.int .i64 1] 3) := ⟨_, rfl⟩
  have hby6 : Below w6.heap.size w6 y6 := by rw [hy6]; exact below1 _ _
  have HB6 := Lib.hid (below_then (below_then HB5.out HB5.out.size hb6) (below_then HB5.out HB5.out.size hb6).size hby6)
  have HV16 := Lib.hid (HV1.out.below hb6)
  have HV1 := Lib.hid (HV16.out.below hby6)
  have HV3 := Lib.hid ((HV3.out.below hb6).below hby6)
  have HL6 := Lib.hid (show NumsAt y6 .i64 (.slice (some ⟨w6.heap.size, 0, none⟩) 1 1) [1] by rw [hy6]; exact lit1 _ _)
  have HY6 := Lib.hid hy6
  obtain ⟨d60, d61, d62⟩ := HV16.out.1.cells
  have HT6 := Lib.hid (give_err 32 3 p1 3 c1 [2, 1, 0] [1] (some ⟨w6.heap.size, 0, none⟩) 1 1 y6 rfl rfl (by decide) (by decide) HV1.out.2.1 HV1.out.2.2.1 (by decide) HL6.out 5 (by decide) (by decide))
  clear hy6 hby6 hb6 HW HB5
  go_wp2_with fail
  rw [← HY6.out]
  clear d60 d61 d62 HY6 HV16
  refine HT6.out.mono ?_
  rintro e w7 ⟨rfl, hb7⟩
  unfold zeroP
  obtain ⟨x7, hx7⟩ : ∃ X : World, X = w7.alloc (.cells #[.int .i64 0, .int .i64 0, .slice none 0 0] 24) := ⟨_, rfl⟩
  have hbx7 : Below w7.heap.size w7 x7 := by rw [hx7]; exact below1 _ _
  have HB7 := Lib.hid (below_then (below_then HB6.out HB6.out.size hb7) (below_then HB6.out HB6.out.size hb7).size hbx7)
  have HV3 := Lib.hid ((HV3.out.below hb7).below hbx7)
  have HX7 := Lib.hid hx7
  have d7 := HV3.out.1.cells
  rw [hx7] at d7
  obtain ⟨d70, d71, d72⟩ := d7
  have HTK := Lib.hid (taken_yes 32 3 p3 1 [2] x7 (by decide) HV3.out.2.1 (by decide))
  rw [show takenT (3 : Int).toNat [2] = [0, 1] by decide] at HTK
  clear hx7 hbx7 hb7 HT6 HB6 HL6
  go_wp2_with fail
  rw [← HX7.out]
  clear d70 d71 d72 HX7
  refine HTK.out.mono ?_
  rintro e w8 ⟨⟨v8, rfl, ho8⟩, hb8⟩
  have HN8 := Lib.hid (nums_of_owns rfl ho8)
  obtain ⟨p8, c8, rfl⟩ := owns_slice ho8
  have HB8 := Lib.hid (below_then HB7.out HB7.out.size hb8)
  obtain ⟨y8, hy8⟩ : ∃ X : World, X = w8.alloc (.cells #[.int .i64 0, .int .i64 1] 3) := ⟨_, rfl⟩
  have hby8 : Below w8.heap.size w8 y8 := by rw [hy8]; exact below1 _ _
  have HE8 := Lib.hid (equalI_c _ _ [0, 1] [0, 1] y8 (nums_below HN8.out hby8) (show NumsAt y8 .i64 (.slice (some ⟨w8.heap.size, 0, none⟩) 2 2) [0, 1] by rw [hy8]; exact lit2 _ _ _) (by decide) (by decide))
  have HB9 := Lib.hid (below_then HB8.out HB8.out.size hby8)
  have HY8 := Lib.hid hy8
  clear ho8 hb8 hy8 hby8 HTK HB7 HN8
  go_wp2_with fail
  rw [← HY8.out]
  refine HE8.out.mono ?_
  rintro e w9 ⟨rfl, hb9⟩
  have HBF := Lib.hid (below_then HB9.out HB9.out.size hb9)
  clear hb9 HE8 HY8
  simp only [decide_true]
  go_wp2
  go_ret
  exact ⟨rfl, HBF.out⟩

end Go.Proofs.Ythjkaabbbhfjhaa
