/-
  Step, of the document's answers of layer 5: one step of one who wants a lock.
  Conditions: the memory may be, and lies in rows of its own.
-/
import Derived.Test.YtcnpmkigiklnnaaKS9
import Derived.Test.YtcnpmkigiklnnaaKS15
namespace Go.Proofs.Ytcnpmkigiklnnaa
open Go.RowKit Go.Shelf
attribute [local go_sem] Oper.semAt_some

theorem rows_offT {X Y : World} {B y : Nat} {c : Array Value} {T : TypeId} {f : Nat × Nat} {u v : Value} {n m : Nat} {xs ys : List Value} (hT1 : T ≠ 22) (hT2 : T ≠ 4) (h : X.ownsRow B 22 1 u n xs ∧ X.ownsRow B 4 1 v m ys) (hy : X.heap[y]? = some (.cells c T f)) (hk : Keeps (fun q => q = y) X Y) : Y.ownsRow B 22 1 u n xs ∧ Y.ownsRow B 4 1 v m ys := by
  refine ⟨hk.row h.1 fun q hq e => ?_, hk.row h.2 fun q hq e => ?_⟩
  · have e : q = y := e
    subst e
    obtain ⟨c', f', h1⟩ := Lib.ownsRow_kind h.1 _ hq
    rw [hy] at h1
    injection h1 with h1
    injection h1 with _ h2
    exact hT1 h2
  · have e : q = y := e
    subst e
    obtain ⟨c', f', h1⟩ := Lib.ownsRow_kind h.2 _ hq
    rw [hy] at h1
    injection h1 with h1
    injection h1 with _ h2
    exact hT2 h2
theorem rows_off {X Y : World} {B y : Nat} {a b : Value} {f : Bool} {u v : Value} {n m : Nat} {xs ys : List Value} (h : X.ownsRow B 22 1 u n xs ∧ X.ownsRow B 4 1 v m ys) (hy : MBox X y a b f) (hk : Keeps (fun q => q = y) X Y) : Y.ownsRow B 22 1 u n xs ∧ Y.ownsRow B 4 1 v m ys :=
  rows_offT (by decide) (by decide) h hy hk
theorem rows_offG {X Y : World} {B y : Nat} {g : Int} {d : Bool} {u v : Value} {n m : Nat} {xs ys : List Value} (h : X.ownsRow B 22 1 u n xs ∧ X.ownsRow B 4 1 v m ys) (hy : GBox X y g d) (hk : Keeps (fun q => q = y) X Y) : Y.ownsRow B 22 1 u n xs ∧ Y.ownsRow B 4 1 v m ys :=
  rows_offT (by decide) (by decide) h hy hk
theorem rows_offS {X Y : World} {B y : Nat} {a p t : Int} {u v : Value} {n m : Nat} {xs ys : List Value} (h : X.ownsRow B 22 1 u n xs ∧ X.ownsRow B 4 1 v m ys) (hy : SpBox X y a p t) (hk : Keeps (fun q => q = y) X Y) : Y.ownsRow B 22 1 u n xs ∧ Y.ownsRow B 4 1 v m ys :=
  rows_offT (by decide) (by decide) h hy hk
/-- The worlds ahead of it: what lies in them. -/
theorem rstep_new (W : World) (x y : Value) (f : Bool) (a p t : Int) : let Z := (((W.alloc (.cells #[x, y, .bool f] 46)).alloc (.cells #[.int .i64 a, .int .i64 p, .int .u64 t] 24)).alloc (.cells #[.slice none 0 0, .slice none 0 0, .bool false] 46)).alloc (.cells #[.int .i64 0, .int .i64 0, .int .u64 0] 24)
    Z.heap.size = W.heap.size + 4 ∧ Below W.heap.size W Z ∧ MBox Z W.heap.size x y f ∧ SpBox Z (W.heap.size + 1) a p t ∧ MBox Z (W.heap.size + 2) (.slice none 0 0) (.slice none 0 0) false ∧ SpBox Z (W.heap.size + 3) 0 0 0 := by
  intro Z
  have hz : Z.heap.size = W.heap.size + 4 := by simp only [Z, World.size_alloc]
  have h0 : MBox Z W.heap.size x y f := ((((MBox.new W x y f).alloc (.cells #[.int .i64 a, .int .i64 p, .int .u64 t] 24)).alloc (.cells #[.slice none 0 0, .slice none 0 0, .bool false] 46)).alloc (.cells #[.int .i64 0, .int .i64 0, .int .u64 0] 24))
  have h1 : SpBox Z (W.heap.size + 1) a p t := by
    have h := World.alloc_heap_new (W.alloc (.cells #[x, y, .bool f] 46)) (.cells #[.int .i64 a, .int .i64 p, .int .u64 t] 24)
    have h' := ((below2 ((W.alloc (.cells #[x, y, .bool f] 46)).alloc (.cells #[.int .i64 a, .int .i64 p, .int .u64 t] 24)) (.cells #[.slice none 0 0, .slice none 0 0, .bool false] 46) (.cells #[.int .i64 0, .int .i64 0, .int .u64 0] 24)).block (W.alloc (.cells #[x, y, .bool f] 46)).heap.size (by simp)).trans h
    rw [World.size_alloc] at h'
    exact h'
  have h2 : MBox Z (W.heap.size + 2) (.slice none 0 0) (.slice none 0 0) false := by
    have := (MBox.new ((W.alloc (.cells #[x, y, .bool f] 46)).alloc (.cells #[.int .i64 a, .int .i64 p, .int .u64 t] 24)) (.slice none 0 0) (.slice none 0 0) false).alloc (.cells #[.int .i64 0, .int .i64 0, .int .u64 0] 24)
    rw [World.size_alloc, World.size_alloc] at this
    exact this
  have h3 : SpBox Z (W.heap.size + 3) 0 0 0 := by
    have h := World.alloc_heap_new (((W.alloc (.cells #[x, y, .bool f] 46)).alloc (.cells #[.int .i64 a, .int .i64 p, .int .u64 t] 24)).alloc (.cells #[.slice none 0 0, .slice none 0 0, .bool false] 46)) (.cells #[.int .i64 0, .int .i64 0, .int .u64 0] 24)
    rw [World.size_alloc, World.size_alloc, World.size_alloc] at h
    exact h
  exact ⟨hz, below4 W _ _ _ _, h0, h1, h2, h3⟩

set_option maxRecDepth 100000 in
set_option maxHeartbeats 40000000 in
theorem rstep_yes (B : Nat) (vx vy : Value) (us : List Int) (ms : List Bool) (f : Bool) (a p t : Int) (W : World) (h0 : W.ownsRow B 22 1 vx us.length (us.map (Value.int .u64))) (h1 : W.ownsRow B 4 1 vy ms.length (ms.map Value.bool)) (hB : B ≤ W.heap.size) (hr : rightB us ms = true) (hh : hasS ⟨a, p, t⟩ = true) :
    Calls Try.prog 23 #[.agg #[vx, vy, .bool f], .agg #[.int .i64 a, .int .i64 p, .int .u64 t]] W fun e w' => (∃ x y, e = .returned (.tuple #[.agg #[x, y, .bool (stepP ms ⟨us, f, [⟨a, p, t⟩]⟩ 0).f], spV ((stepP ms ⟨us, f, [⟨a, p, t⟩]⟩ 0).ss.getD 0 dS)]) ∧
      w'.ownsRow B 22 1 x (stepP ms ⟨us, f, [⟨a, p, t⟩]⟩ 0).ws.length ((stepP ms ⟨us, f, [⟨a, p, t⟩]⟩ 0).ws.map (Value.int .u64)) ∧ w'.ownsRow B 4 1 y ms.length (ms.map Value.bool)) ∧ Below W.heap.size W w' := by
  obtain ⟨hn1, hn2, hlen, -⟩ := rightB_iff.1 hr
  obtain ⟨gw, cw, rfl, hgw, _⟩ := own_form h0 (by omega)
  obtain ⟨gl, cl, rfl, hgl, _⟩ := own_form h1 (by omega)
  obtain ⟨⟨k, x, o, m⟩, hnd⟩ : ∃ nd, nd = needS ⟨a, p, t⟩ := ⟨_, rfl⟩
  have hkk := (needS_rng ⟨a, p, t⟩).1
  rw [← hnd] at hkk
  have hkk := kindB_iff.1 hkk
  simp only at hkk
  obtain ⟨⟨us2, f2, gv, gd⟩, hR⟩ : ∃ R, R = accM us ms f k x o m := ⟨_, rfl⟩
  obtain ⟨⟨a2, p2, t2⟩, hs2⟩ : ∃ s, s = takeS ⟨a, p, t⟩ gv gd := ⟨_, rfl⟩
  have hl2 : us2.length = us.length := by
    have := accM_length us ms f k x o m
    rw [← hR] at this
    exact this
  have hPP : stepP ms ⟨us, f, [⟨a, p, t⟩]⟩ 0 = ⟨us2, f2, [⟨a2, p2, t2⟩]⟩ := by
    unfold stepP stepM
    simp only [List.getD_cons_zero]
    rw [hh, if_pos rfl, ← hnd]
    simp only
    rw [← hR, hs2]
    rfl
  rw [hPP]
  simp only [List.getD_cons_zero]
  have HHS := Lib.hid (show ∀ Z : World, Calls Try.prog 12 #[.agg #[.int .i64 a, .int .i64 p, .int .u64 t]] Z fun e w' => e = .returned (.bool true) ∧ Below Z.heap.size Z w' from fun Z => by
    have := qrhas ⟨a, p, t⟩ Z
    rwa [hh] at this)
  have HRN := Lib.hid (show ∀ Z : World, Calls Try.prog 13 #[.agg #[.int .i64 a, .int .i64 p, .int .u64 t]] Z fun e w' => e = .returned (.agg #[.int .i64 k, .int .i64 x, .int .u64 o, .int .u64 m]) ∧ Below Z.heap.size Z w' from fun Z => by
    have := qrneed ⟨a, p, t⟩ Z
    rwa [← hnd] at this)
  have HTK := Lib.hid (show ∀ Z : World, Calls Try.prog 15 #[.agg #[.int .i64 a, .int .i64 p, .int .u64 t], .agg #[.int .u64 gv, .bool gd]] Z fun e w' => e = .returned (.agg #[.int .i64 a2, .int .i64 p2, .int .u64 t2]) ∧ Below Z.heap.size Z w' from fun Z => by
    have := qrtake ⟨a, p, t⟩ gv gd Z
    rwa [← hs2] at this)
  obtain ⟨nu, hnu⟩ : ∃ nu, nu = us.length := ⟨_, rfl⟩
  obtain ⟨nl, hnl⟩ : ∃ nl, nl = ms.length := ⟨_, rfl⟩
  rw [hl2]
  rw [← hnu] at hl2
  rw [← hnu, ← hnl]
  rw [← hnu] at h0
  rw [← hnl] at h1
  have HSTP := Lib.hid (show ∀ Z : World, (Z.ownsRow B 22 1 (.slice (some ⟨gw, 0, none⟩) nu cw) nu (us.map (Value.int .u64)) ∧ Z.ownsRow B 4 1 (.slice (some ⟨gl, 0, none⟩) nl cl) nl (ms.map Value.bool)) → B ≤ Z.heap.size →
      Calls Try.prog 41 #[.agg #[.slice (some ⟨gw, 0, none⟩) nu cw, .slice (some ⟨gl, 0, none⟩) nl cl, .bool f], .agg #[.int .i64 k, .int .i64 x, .int .u64 o, .int .u64 m]] Z fun e w' => (∃ gw2 cw2 gl2 cl2, e = .returned (.tuple #[.agg #[.slice (some ⟨gw2, 0, none⟩) nu cw2, .slice (some ⟨gl2, 0, none⟩) nl cl2, .bool f2], .agg #[.int .u64 gv, .bool gd]]) ∧ w'.ownsRow B 22 1 (.slice (some ⟨gw2, 0, none⟩) nu cw2) nu (us2.map (Value.int .u64)) ∧ w'.ownsRow B 4 1 (.slice (some ⟨gl2, 0, none⟩) nl cl2) nl (ms.map Value.bool)) ∧ Below Z.heap.size Z w' from fun Z hZ hBZ => by
    rw [hnu, hnl] at hZ ⊢
    refine (refStep_c B _ _ us ms f k x o m Z hZ.1 hZ.2 hBZ hkk.1 hkk.2 hr).mono fun e w' h => ?_
    rw [← hR] at h
    obtain ⟨⟨_, he, vw, vl, rfl, e1, e2⟩, h3⟩ := h
    simp only at e1 e2 he
    rw [hl2, hnu] at e1
    obtain ⟨gw2, cw2, rfl, _⟩ := own_form e1 (by omega)
    obtain ⟨gl2, cl2, rfl, _⟩ := own_form e2 (by omega)
    exact ⟨⟨gw2, cw2, gl2, cl2, he, e1, e2⟩, h3⟩)
  obtain ⟨hzs, hbZ, n0, n1, n2, n3⟩ := rstep_new W (.slice (some ⟨gw, 0, none⟩) nu cw) (.slice (some ⟨gl, 0, none⟩) nl cl) f a p t
  obtain ⟨z, hz⟩ : ∃ z, z = W.heap.size := ⟨_, rfl⟩
  obtain ⟨Zz, hZz⟩ : ∃ Z : World, Z = (((W.alloc (.cells #[.slice (some ⟨gw, 0, none⟩) nu cw, .slice (some ⟨gl, 0, none⟩) nl cl, .bool f] 46)).alloc (.cells #[.int .i64 a, .int .i64 p, .int .u64 t] 24)).alloc (.cells #[.slice none 0 0, .slice none 0 0, .bool false] 46)).alloc (.cells #[.int .i64 0, .int .i64 0, .int .u64 0] 24) := ⟨_, rfl⟩
  rw [← hZz] at hzs hbZ n0 n1 n2 n3
  rw [← hz] at hzs n0 n1 n2 n3
  have HR0 := Lib.hid (And.intro (owns_below h0 (hbZ)) (owns_below h1 hbZ))
  have HZW := Lib.hid hz
  have HBZ := Lib.hid hbZ
  have HN := Lib.hid (And.intro n0 (And.intro n1 (And.intro n2 n3)))
  have HZE := Lib.hid (And.intro hZz hz)
  obtain ⟨s0, s1, s2⟩ := n1.cells
  clear hn1 hn2 hlen hgw hgl hnd hkk hR hs2 hl2 hPP hnu hnl hh hr h0 h1 hzs hbZ n0 n1 n2 n3 hZz hz
  go_enter Try.func23, Try.ntmps23
  go_upto_region 1 with (fail)
  rw [← HZE.out.1, ← HZE.out.2]
  go_wp2_with fail
  refine (HHS.out _).mono ?_
  rintro e w1 ⟨rfl, hb⟩
  have HM1 := Lib.hid (HN.out.2.2.1.below hb)
  have HS1 := Lib.hid (HN.out.2.2.2.below hb)
  have hm1 := HN.out.1.below hb
  have hs1 := HN.out.2.1.below hb
  have HB1 := Lib.hid (below_then HBZ.out HBZ.out.size hb)
  have HR1 := Lib.hid (And.intro (owns_below HR0.out.1 hb) (owns_below HR0.out.2 hb))
  have HTT := Lib.hid (And.intro hm1 hs1)
  clear hb s0 s1 s2 hm1 hs1 HN HBZ HR0 HHS HZE
  go_upto_region 3 with (fail)
  go_cut [6, 7] (fun v6 v7 wc => ∃ (y6 y7 gw2 cw2 gl2 cl2 : Nat), v6 = .pointer (some ⟨y6, 0, none⟩) ∧ v7 = .pointer (some ⟨y7, 0, none⟩) ∧ z + 4 ≤ y6 ∧ z + 4 ≤ y7 ∧ Hid (SpBox wc (z + 1) a p t ∧ MBox wc (z + 2) (.slice none 0 0) (.slice none 0 0) false ∧ SpBox wc (z + 3) 0 0 0 ∧ MBox wc y6 (.slice (some ⟨gw2, 0, none⟩) nu cw2) (.slice (some ⟨gl2, 0, none⟩) nl cl2) f2 ∧ GBox wc y7 gv gd ∧ (wc.ownsRow B 22 1 (.slice (some ⟨gw2, 0, none⟩) nu cw2) nu (us2.map (Value.int .u64)) ∧ wc.ownsRow B 4 1 (.slice (some ⟨gl2, 0, none⟩) nl cl2) nl (ms.map Value.bool)) ∧ Below W.heap.size W wc))
  case first =>
    refine wpTwo_begin (T := fun w' => MBox w' z (.slice (some ⟨gw, 0, none⟩) nu cw) (.slice (some ⟨gl, 0, none⟩) nl cl) f ∧ SpBox w' (z + 1) a p t) (S := fun _ => True) (late := fun _ => false) (by kernel_rfl) ?_
    obtain ⟨X0, hX0⟩ : ∃ X : World, X = w1.drew := ⟨_, rfl⟩
    rw [← hX0]
    have hb : Below w1.heap.size w1 X0 := by rw [hX0]; exact (Below.refl _ _).drew
    have hT0 := And.intro (HTT.out.1.below hb) (HTT.out.2.below hb)
    have HM0 := Lib.hid (HM1.out.below hb)
    have HS0 := Lib.hid (HS1.out.below hb)
    have HB0 := Lib.hid (below_then HB1.out HB1.out.size hb)
    have HR0 := Lib.hid (And.intro (owns_below HR1.out.1 hb) (owns_below HR1.out.2 hb))
    clear hX0 hb HM1 HS1 HB1 HR1 HTT
    refine wpTwo_takeT (i := 0) (v := .agg #[.slice (some ⟨gw, 0, none⟩) nu cw, .slice (some ⟨gl, 0, none⟩) nl cl, .bool f]) rfl (by kernel_rfl) (by kernel_rfl) (by kernel_rfl) (fun _ _ _ h => h) ⟨by rfl, ?_⟩ hT0 ?_
    · rintro w hTw
      obtain ⟨⟨t0, t1, t2⟩, _⟩ := mbox_cells hTw.1
      go_simp
    (try simp only [Act.put, List.getElem_toArray, List.getElem_cons_zero, List.setIfInBounds_toArray, List.set_cons_succ, List.set_cons_zero])
    refine wpTwo_takeT (i := 1) (v := .agg #[.int .i64 a, .int .i64 p, .int .u64 t]) rfl (by kernel_rfl) (by kernel_rfl) (by kernel_rfl) (fun _ _ _ h => h) ⟨by rfl, ?_⟩ hT0 ?_
    · rintro w hTw
      obtain ⟨t0, t1, t2⟩ := hTw.2.cells
      go_simp
    (try simp only [Act.put, List.getElem_toArray, List.getElem_cons_succ, List.getElem_cons_zero, List.setIfInBounds_toArray, List.set_cons_succ, List.set_cons_zero])
    refine wpTwo_ready (rs := [2, 7, 8]) (by kernel_rfl) (by simp) ?_
    refine (AllTwo.cons rfl (fun K hK => ?_) (AllTwo.cons rfl (fun K hK => ?_) (AllTwo.cons rfl (fun K hK => ?_) AllTwo.nil)))
    · go_simp
      refine (HRN.out X0).mono ?_
      rintro e X1 ⟨rfl, hb⟩
      have hT1 := And.intro (hT0.1.below hb) (hT0.2.below hb)
      have HM1 := Lib.hid (HM0.out.below hb)
      have HS1 := Lib.hid (HS0.out.below hb)
      have HB1 := Lib.hid (below_then HB0.out HB0.out.size hb)
      have HR1 := Lib.hid (And.intro (owns_below HR0.out.1 hb) (owns_below HR0.out.2 hb))
      clear hb
      go_wp2_with fail
      refine hK.out _ _ ⟨hT1, fun _ _ => trivial⟩ ?_
      clear hK K
      (try simp only [Act.put, List.getElem_toArray, List.getElem_cons_succ, List.getElem_cons_zero, List.setIfInBounds_toArray, List.set_cons_succ, List.set_cons_zero])
      refine wpTwo_ready (rs := [3, 7, 8]) (by kernel_rfl) (by simp) ?_
      refine (AllTwo.cons rfl (fun K hK => ?_) (AllTwo.cons rfl (fun K hK => ?_) (AllTwo.cons rfl (fun K hK => ?_) AllTwo.nil)))
      · go_simp
        refine (HSTP.out X1 HR1.out (Nat.le_trans hB HB1.out.size)).mono ?_
        rintro e X2 ⟨⟨gw2, cw2, gl2, cl2, rfl, hR⟩, hb⟩
        have hT2 := And.intro (hT1.1.below hb) (hT1.2.below hb)
        have HM2 := Lib.hid (HM1.out.below hb)
        have HS2 := Lib.hid (HS1.out.below hb)
        have HB2 := Lib.hid (below_then HB1.out HB1.out.size hb)
        have HR2 := Lib.hid hR
        clear hb hR
        go_wp2_with fail
        refine hK.out _ _ ⟨hT2, fun _ _ => trivial⟩ ?_
        clear hK K
        (try simp only [Act.put, List.getElem_toArray, List.getElem_cons_succ, List.getElem_cons_zero, List.setIfInBounds_toArray, List.set_cons_succ, List.set_cons_zero])
        refine wpTwo_takeT (i := 4) (v := .tuple #[.agg #[.slice (some ⟨gw2, 0, none⟩) nu cw2, .slice (some ⟨gl2, 0, none⟩) nl cl2, .bool f2], .agg #[.int .u64 gv, .bool gd]]) rfl (by kernel_rfl) (by kernel_rfl) (by kernel_rfl) (fun _ _ _ h => h) ⟨by rfl, ?_⟩ hT2 ?_
        · rintro w hTw
          go_simp
        (try simp only [Act.put, List.getElem_toArray, List.getElem_cons_succ, List.getElem_cons_zero, List.setIfInBounds_toArray, List.set_cons_succ, List.set_cons_zero])
        refine wpTwo_takeT (i := 5) (v := .agg #[.slice (some ⟨gw2, 0, none⟩) nu cw2, .slice (some ⟨gl2, 0, none⟩) nl cl2, .bool f2]) rfl (by kernel_rfl) (by kernel_rfl) (by kernel_rfl) (fun _ _ _ h => h) ⟨by rfl, ?_⟩ hT2 ?_
        · rintro w hTw
          go_simp
        (try simp only [Act.put, List.getElem_toArray, List.getElem_cons_succ, List.getElem_cons_zero, List.setIfInBounds_toArray, List.set_cons_succ, List.set_cons_zero])
        refine wpTwo_takeT (i := 6) (v := .agg #[.int .u64 gv, .bool gd]) rfl (by kernel_rfl) (by kernel_rfl) (by kernel_rfl) (fun _ _ _ h => h) ⟨by rfl, ?_⟩ hT2 ?_
        · rintro w hTw
          go_simp
        (try simp only [Act.put, List.getElem_toArray, List.getElem_cons_succ, List.getElem_cons_zero, List.setIfInBounds_toArray, List.set_cons_succ, List.set_cons_zero])
        refine wpTwo_ready (rs := [7, 8]) (by kernel_rfl) (by simp) ?_
        refine (AllTwo.cons rfl (fun K hK => ?_) (AllTwo.cons rfl (fun K hK => ?_) AllTwo.nil))
        · go_simp
          obtain ⟨y6, hy⟩ : ∃ q, q = X2.heap.size := ⟨_, rfl⟩
          obtain ⟨X3, hX⟩ : ∃ X : World, X = X2.alloc (.cells #[.slice none 0 0, .slice none 0 0, .bool false] 46) := ⟨_, rfl⟩
          rw [← hX, ← hy]
          have hb : Below X2.heap.size X2 X3 := by rw [hX]; exact below1 _ _
          have hlo7 : z + 4 ≤ y6 := by have h1 := HS2.out.lt; omega
          have hT3 := And.intro (hT2.1.below hb) (hT2.2.below hb)
          have HM3 := Lib.hid (HM2.out.below hb)
          have HS3 := Lib.hid (HS2.out.below hb)
          have HB3 := Lib.hid (below_then HB2.out HB2.out.size hb)
          have HR3 := Lib.hid (And.intro (owns_below HR2.out.1 hb) (owns_below HR2.out.2 hb))
          have HA3 := Lib.hid (show MBox X3 y6 (.slice none 0 0) (.slice none 0 0) false by rw [hX, hy]; exact MBox.new _ _ _ _)
          clear hb hX hy
          refine hK.out _ _ ⟨hT3, fun _ _ => trivial⟩ ?_
          clear hK K
          (try simp only [Act.put, List.getElem_toArray, List.getElem_cons_succ, List.getElem_cons_zero, List.setIfInBounds_toArray, List.set_cons_succ, List.set_cons_zero])
          refine wpTwo_ready (rs := [8]) (by kernel_rfl) (by simp) ?_
          refine (AllTwo.cons rfl (fun K hK => ?_) AllTwo.nil)
          · go_simp
            obtain ⟨y7, hy⟩ : ∃ q, q = X3.heap.size := ⟨_, rfl⟩
            obtain ⟨X4, hX⟩ : ∃ X : World, X = X3.alloc (.cells #[.int .u64 0, .bool false] 36) := ⟨_, rfl⟩
            rw [← hX, ← hy]
            have hb : Below X3.heap.size X3 X4 := by rw [hX]; exact below1 _ _
            have hlo8 : z + 4 ≤ y7 := by have h1 := HS3.out.lt; omega
            have hT4 := And.intro (hT3.1.below hb) (hT3.2.below hb)
            have HM4 := Lib.hid (HM3.out.below hb)
            have HS4 := Lib.hid (HS3.out.below hb)
            have HB4 := Lib.hid (below_then HB3.out HB3.out.size hb)
            have HA4 := Lib.hid (HA3.out.below hb)
            have HR4 := Lib.hid (And.intro (owns_below HR3.out.1 hb) (owns_below HR3.out.2 hb))
            have HG4 := Lib.hid (show GBox X4 y7 0 false by rw [hX, hy]; exact World.alloc_heap_new _ _)
            have hne67 : y6 ≠ y7 := by have h1 := HA3.out.lt; omega
            clear hb hX hy
            refine hK.out _ _ ⟨hT4, fun _ _ => trivial⟩ ?_
            clear hK K
            (try simp only [Act.put, List.getElem_toArray, List.getElem_cons_succ, List.getElem_cons_zero, List.setIfInBounds_toArray, List.set_cons_succ, List.set_cons_zero])
            refine wpTwo_ready (rs := [9]) (by kernel_rfl) (by simp) ?_
            refine (AllTwo.cons rfl (fun K hK => ?_) AllTwo.nil)
            obtain ⟨⟨d0, d1, d2⟩, e0, e1, e2⟩ := mbox_cells HA4.out
            obtain ⟨Xa, hXa⟩ : ∃ X : World, X = ((X4.setCell ⟨y6, 0, none⟩ (.slice (some ⟨gw2, 0, none⟩) nu cw2)).setCell ⟨y6, 1, none⟩ (.slice (some ⟨gl2, 0, none⟩) nl cl2)).setCell ⟨y6, 2, none⟩ (.bool f2) := ⟨_, rfl⟩
            have hk : Keeps (fun q => q = y6) X4 Xa := by rw [hXa]; exact ((Keeps.setCell X4 (S := fun q => q = y6) (p := ⟨y6, 0, none⟩) rfl _).trans (Keeps.setCell _ (S := fun q => q = y6) (p := ⟨y6, 1, none⟩) rfl _)).trans (Keeps.setCell _ (S := fun q => q = y6) (p := ⟨y6, 2, none⟩) rfl _)
            have hTa := And.intro (hT4.1.keeps hk (fun e => by have e : z = y6 := e; omega)) (hT4.2.keeps hk (fun e => by have e : z + 1 = y6 := e; omega))
            have HMa := Lib.hid (HM4.out.keeps hk (fun e => by have e : z + 2 = y6 := e; omega))
            have HSa := Lib.hid (HS4.out.keeps hk (fun e => by have e : z + 3 = y6 := e; omega))
            have HGa := Lib.hid (HG4.out.keeps hk (fun e => hne67 e.symm))
            have HAa := Lib.hid (show MBox Xa y6 (.slice (some ⟨gw2, 0, none⟩) nu cw2) (.slice (some ⟨gl2, 0, none⟩) nl cl2) f2 by rw [hXa]; exact HA4.out.set _ _ _)
            have HRa := Lib.hid (rows_off HR4.out HA4.out hk)
            have HBa := Lib.hid (HB4.out.trans (hk.below HB4.out.size (fun q hq => by have e : q = y6 := hq; have := HZW.out; omega)))
            go_simp
            rw [← hXa]
            refine hK.out _ _ ⟨hTa, fun _ _ => trivial⟩ ?_
            clear hK K d0 d1 d2 e0 e1 e2 hXa hk
            (try simp only [Act.put, List.getElem_toArray, List.getElem_cons_succ, List.getElem_cons_zero, List.setIfInBounds_toArray, List.set_cons_succ, List.set_cons_zero])
            refine wpTwo_ready (rs := [10]) (by kernel_rfl) (by simp) ?_
            refine (AllTwo.cons rfl (fun K hK => ?_) AllTwo.nil)
            obtain ⟨d0, d1⟩ := HGa.out.cells
            have e0 := (gbox_cells HGa.out).2.1
            have e1 := (gbox_cells HGa.out).2.2
            obtain ⟨Xb, hXb⟩ : ∃ X : World, X = (Xa.setCell ⟨y7, 0, none⟩ (.int .u64 gv)).setCell ⟨y7, 1, none⟩ (.bool gd) := ⟨_, rfl⟩
            have hk : Keeps (fun q => q = y7) Xa Xb := by rw [hXb]; exact (Keeps.setCell Xa (S := fun q => q = y7) (p := ⟨y7, 0, none⟩) rfl _).trans (Keeps.setCell _ (S := fun q => q = y7) (p := ⟨y7, 1, none⟩) rfl _)
            have hTb := And.intro (hTa.1.keeps hk (fun e => by have e : z = y7 := e; omega)) (hTa.2.keeps hk (fun e => by have e : z + 1 = y7 := e; omega))
            have HMb := Lib.hid (HMa.out.keeps hk (fun e => by have e : z + 2 = y7 := e; omega))
            have HSb := Lib.hid (HSa.out.keeps hk (fun e => by have e : z + 3 = y7 := e; omega))
            have HAb := Lib.hid (HAa.out.keeps hk (fun e => hne67 e))
            have HGb := Lib.hid (show GBox Xb y7 gv gd by
              unfold GBox
              rw [hXb, heap_setCell_same _ y7 1 _ _ _ (heap_setCell_same Xa y7 0 _ _ _ HGa.out)]; rfl)
            have HRb := Lib.hid (rows_offG HRa.out HGa.out hk)
            have HBb := Lib.hid (HBa.out.trans (hk.below HBa.out.size (fun q hq => by have e : q = y7 := hq; have := HZW.out; omega)))
            go_simp
            rw [← hXb]
            refine hK.out _ _ ⟨hTb, fun _ _ => trivial⟩ ?_
            clear hK K d0 d1 e0 e1 hXb hk
            (try simp only [Act.put, List.getElem_toArray, List.getElem_cons_succ, List.getElem_cons_zero, List.setIfInBounds_toArray, List.set_cons_succ, List.set_cons_zero])
            refine wpTwo_end (by kernel_rfl) ?_ _
            go_wp2
            go_meet
            exact ⟨y6, y7, gw2, cw2, gl2, cl2, rfl, rfl, hlo7, hlo8, Lib.hid ⟨hTb.2, HMb.out, HSb.out, HAb.out, HGb.out, HRb.out, HBb.out⟩⟩
        · go_simp
          obtain ⟨y7, hy⟩ : ∃ q, q = X2.heap.size := ⟨_, rfl⟩
          obtain ⟨X3, hX⟩ : ∃ X : World, X = X2.alloc (.cells #[.int .u64 0, .bool false] 36) := ⟨_, rfl⟩
          rw [← hX, ← hy]
          have hb : Below X2.heap.size X2 X3 := by rw [hX]; exact below1 _ _
          have hlo8 : z + 4 ≤ y7 := by have h1 := HS2.out.lt; omega
          have hT3 := And.intro (hT2.1.below hb) (hT2.2.below hb)
          have HM3 := Lib.hid (HM2.out.below hb)
          have HS3 := Lib.hid (HS2.out.below hb)
          have HB3 := Lib.hid (below_then HB2.out HB2.out.size hb)
          have HR3 := Lib.hid (And.intro (owns_below HR2.out.1 hb) (owns_below HR2.out.2 hb))
          have HG3 := Lib.hid (show GBox X3 y7 0 false by rw [hX, hy]; exact World.alloc_heap_new _ _)
          clear hb hX hy
          refine hK.out _ _ ⟨hT3, fun _ _ => trivial⟩ ?_
          clear hK K
          (try simp only [Act.put, List.getElem_toArray, List.getElem_cons_succ, List.getElem_cons_zero, List.setIfInBounds_toArray, List.set_cons_succ, List.set_cons_zero])
          refine wpTwo_ready (rs := [7]) (by kernel_rfl) (by simp) ?_
          refine (AllTwo.cons rfl (fun K hK => ?_) AllTwo.nil)
          · go_simp
            obtain ⟨y6, hy⟩ : ∃ q, q = X3.heap.size := ⟨_, rfl⟩
            obtain ⟨X4, hX⟩ : ∃ X : World, X = X3.alloc (.cells #[.slice none 0 0, .slice none 0 0, .bool false] 46) := ⟨_, rfl⟩
            rw [← hX, ← hy]
            have hb : Below X3.heap.size X3 X4 := by rw [hX]; exact below1 _ _
            have hlo7 : z + 4 ≤ y6 := by have h1 := HS3.out.lt; omega
            have hT4 := And.intro (hT3.1.below hb) (hT3.2.below hb)
            have HM4 := Lib.hid (HM3.out.below hb)
            have HS4 := Lib.hid (HS3.out.below hb)
            have HB4 := Lib.hid (below_then HB3.out HB3.out.size hb)
            have HG4 := Lib.hid (HG3.out.below hb)
            have HR4 := Lib.hid (And.intro (owns_below HR3.out.1 hb) (owns_below HR3.out.2 hb))
            have HA4 := Lib.hid (show MBox X4 y6 (.slice none 0 0) (.slice none 0 0) false by rw [hX, hy]; exact MBox.new _ _ _ _)
            have hne67 : y6 ≠ y7 := by have h1 := HG3.out.lt; omega
            clear hb hX hy
            refine hK.out _ _ ⟨hT4, fun _ _ => trivial⟩ ?_
            clear hK K
            (try simp only [Act.put, List.getElem_toArray, List.getElem_cons_succ, List.getElem_cons_zero, List.setIfInBounds_toArray, List.set_cons_succ, List.set_cons_zero])
            refine wpTwo_ready (rs := [9]) (by kernel_rfl) (by simp) ?_
            refine (AllTwo.cons rfl (fun K hK => ?_) AllTwo.nil)
            obtain ⟨⟨d0, d1, d2⟩, e0, e1, e2⟩ := mbox_cells HA4.out
            obtain ⟨Xa, hXa⟩ : ∃ X : World, X = ((X4.setCell ⟨y6, 0, none⟩ (.slice (some ⟨gw2, 0, none⟩) nu cw2)).setCell ⟨y6, 1, none⟩ (.slice (some ⟨gl2, 0, none⟩) nl cl2)).setCell ⟨y6, 2, none⟩ (.bool f2) := ⟨_, rfl⟩
            have hk : Keeps (fun q => q = y6) X4 Xa := by rw [hXa]; exact ((Keeps.setCell X4 (S := fun q => q = y6) (p := ⟨y6, 0, none⟩) rfl _).trans (Keeps.setCell _ (S := fun q => q = y6) (p := ⟨y6, 1, none⟩) rfl _)).trans (Keeps.setCell _ (S := fun q => q = y6) (p := ⟨y6, 2, none⟩) rfl _)
            have hTa := And.intro (hT4.1.keeps hk (fun e => by have e : z = y6 := e; omega)) (hT4.2.keeps hk (fun e => by have e : z + 1 = y6 := e; omega))
            have HMa := Lib.hid (HM4.out.keeps hk (fun e => by have e : z + 2 = y6 := e; omega))
            have HSa := Lib.hid (HS4.out.keeps hk (fun e => by have e : z + 3 = y6 := e; omega))
            have HGa := Lib.hid (HG4.out.keeps hk (fun e => hne67 e.symm))
            have HAa := Lib.hid (show MBox Xa y6 (.slice (some ⟨gw2, 0, none⟩) nu cw2) (.slice (some ⟨gl2, 0, none⟩) nl cl2) f2 by rw [hXa]; exact HA4.out.set _ _ _)
            have HRa := Lib.hid (rows_off HR4.out HA4.out hk)
            have HBa := Lib.hid (HB4.out.trans (hk.below HB4.out.size (fun q hq => by have e : q = y6 := hq; have := HZW.out; omega)))
            go_simp
            rw [← hXa]
            refine hK.out _ _ ⟨hTa, fun _ _ => trivial⟩ ?_
            clear hK K d0 d1 d2 e0 e1 e2 hXa hk
            (try simp only [Act.put, List.getElem_toArray, List.getElem_cons_succ, List.getElem_cons_zero, List.setIfInBounds_toArray, List.set_cons_succ, List.set_cons_zero])
            refine wpTwo_ready (rs := [10]) (by kernel_rfl) (by simp) ?_
            refine (AllTwo.cons rfl (fun K hK => ?_) AllTwo.nil)
            obtain ⟨d0, d1⟩ := HGa.out.cells
            have e0 := (gbox_cells HGa.out).2.1
            have e1 := (gbox_cells HGa.out).2.2
            obtain ⟨Xb, hXb⟩ : ∃ X : World, X = (Xa.setCell ⟨y7, 0, none⟩ (.int .u64 gv)).setCell ⟨y7, 1, none⟩ (.bool gd) := ⟨_, rfl⟩
            have hk : Keeps (fun q => q = y7) Xa Xb := by rw [hXb]; exact (Keeps.setCell Xa (S := fun q => q = y7) (p := ⟨y7, 0, none⟩) rfl _).trans (Keeps.setCell _ (S := fun q => q = y7) (p := ⟨y7, 1, none⟩) rfl _)
            have hTb := And.intro (hTa.1.keeps hk (fun e => by have e : z = y7 := e; omega)) (hTa.2.keeps hk (fun e => by have e : z + 1 = y7 := e; omega))
            have HMb := Lib.hid (HMa.out.keeps hk (fun e => by have e : z + 2 = y7 := e; omega))
            have HSb := Lib.hid (HSa.out.keeps hk (fun e => by have e : z + 3 = y7 := e; omega))
            have HAb := Lib.hid (HAa.out.keeps hk (fun e => hne67 e))
            have HGb := Lib.hid (show GBox Xb y7 gv gd by
              unfold GBox
              rw [hXb, heap_setCell_same _ y7 1 _ _ _ (heap_setCell_same Xa y7 0 _ _ _ HGa.out)]; rfl)
            have HRb := Lib.hid (rows_offG HRa.out HGa.out hk)
            have HBb := Lib.hid (HBa.out.trans (hk.below HBa.out.size (fun q hq => by have e : q = y7 := hq; have := HZW.out; omega)))
            go_simp
            rw [← hXb]
            refine hK.out _ _ ⟨hTb, fun _ _ => trivial⟩ ?_
            clear hK K d0 d1 e0 e1 hXb hk
            (try simp only [Act.put, List.getElem_toArray, List.getElem_cons_succ, List.getElem_cons_zero, List.setIfInBounds_toArray, List.set_cons_succ, List.set_cons_zero])
            refine wpTwo_end (by kernel_rfl) ?_ _
            go_wp2
            go_meet
            exact ⟨y6, y7, gw2, cw2, gl2, cl2, rfl, rfl, hlo7, hlo8, Lib.hid ⟨hTb.2, HMb.out, HSb.out, HAb.out, HGb.out, HRb.out, HBb.out⟩⟩
      · go_simp
        obtain ⟨y6, hy⟩ : ∃ q, q = X1.heap.size := ⟨_, rfl⟩
        obtain ⟨X2, hX⟩ : ∃ X : World, X = X1.alloc (.cells #[.slice none 0 0, .slice none 0 0, .bool false] 46) := ⟨_, rfl⟩
        rw [← hX, ← hy]
        have hb : Below X1.heap.size X1 X2 := by rw [hX]; exact below1 _ _
        have hlo7 : z + 4 ≤ y6 := by have h1 := HS1.out.lt; omega
        have hT2 := And.intro (hT1.1.below hb) (hT1.2.below hb)
        have HM2 := Lib.hid (HM1.out.below hb)
        have HS2 := Lib.hid (HS1.out.below hb)
        have HB2 := Lib.hid (below_then HB1.out HB1.out.size hb)
        have HR2 := Lib.hid (And.intro (owns_below HR1.out.1 hb) (owns_below HR1.out.2 hb))
        have HA2 := Lib.hid (show MBox X2 y6 (.slice none 0 0) (.slice none 0 0) false by rw [hX, hy]; exact MBox.new _ _ _ _)
        clear hb hX hy
        refine hK.out _ _ ⟨hT2, fun _ _ => trivial⟩ ?_
        clear hK K
        (try simp only [Act.put, List.getElem_toArray, List.getElem_cons_succ, List.getElem_cons_zero, List.setIfInBounds_toArray, List.set_cons_succ, List.set_cons_zero])
        refine wpTwo_ready (rs := [3, 8]) (by kernel_rfl) (by simp) ?_
        refine (AllTwo.cons rfl (fun K hK => ?_) (AllTwo.cons rfl (fun K hK => ?_) AllTwo.nil))
        · go_simp
          refine (HSTP.out X2 HR2.out (Nat.le_trans hB HB2.out.size)).mono ?_
          rintro e X3 ⟨⟨gw2, cw2, gl2, cl2, rfl, hR⟩, hb⟩
          have hT3 := And.intro (hT2.1.below hb) (hT2.2.below hb)
          have HM3 := Lib.hid (HM2.out.below hb)
          have HS3 := Lib.hid (HS2.out.below hb)
          have HB3 := Lib.hid (below_then HB2.out HB2.out.size hb)
          have HA3 := Lib.hid (HA2.out.below hb)
          have HR3 := Lib.hid hR
          clear hb hR
          go_wp2_with fail
          refine hK.out _ _ ⟨hT3, fun _ _ => trivial⟩ ?_
          clear hK K
          (try simp only [Act.put, List.getElem_toArray, List.getElem_cons_succ, List.getElem_cons_zero, List.setIfInBounds_toArray, List.set_cons_succ, List.set_cons_zero])
          refine wpTwo_takeT (i := 4) (v := .tuple #[.agg #[.slice (some ⟨gw2, 0, none⟩) nu cw2, .slice (some ⟨gl2, 0, none⟩) nl cl2, .bool f2], .agg #[.int .u64 gv, .bool gd]]) rfl (by kernel_rfl) (by kernel_rfl) (by kernel_rfl) (fun _ _ _ h => h) ⟨by rfl, ?_⟩ hT3 ?_
          · rintro w hTw
            go_simp
          (try simp only [Act.put, List.getElem_toArray, List.getElem_cons_succ, List.getElem_cons_zero, List.setIfInBounds_toArray, List.set_cons_succ, List.set_cons_zero])
          refine wpTwo_takeT (i := 5) (v := .agg #[.slice (some ⟨gw2, 0, none⟩) nu cw2, .slice (some ⟨gl2, 0, none⟩) nl cl2, .bool f2]) rfl (by kernel_rfl) (by kernel_rfl) (by kernel_rfl) (fun _ _ _ h => h) ⟨by rfl, ?_⟩ hT3 ?_
          · rintro w hTw
            go_simp
          (try simp only [Act.put, List.getElem_toArray, List.getElem_cons_succ, List.getElem_cons_zero, List.setIfInBounds_toArray, List.set_cons_succ, List.set_cons_zero])
          refine wpTwo_takeT (i := 6) (v := .agg #[.int .u64 gv, .bool gd]) rfl (by kernel_rfl) (by kernel_rfl) (by kernel_rfl) (fun _ _ _ h => h) ⟨by rfl, ?_⟩ hT3 ?_
          · rintro w hTw
            go_simp
          (try simp only [Act.put, List.getElem_toArray, List.getElem_cons_succ, List.getElem_cons_zero, List.setIfInBounds_toArray, List.set_cons_succ, List.set_cons_zero])
          refine wpTwo_ready (rs := [8]) (by kernel_rfl) (by simp) ?_
          refine (AllTwo.cons rfl (fun K hK => ?_) AllTwo.nil)
          · go_simp
            obtain ⟨y7, hy⟩ : ∃ q, q = X3.heap.size := ⟨_, rfl⟩
            obtain ⟨X4, hX⟩ : ∃ X : World, X = X3.alloc (.cells #[.int .u64 0, .bool false] 36) := ⟨_, rfl⟩
            rw [← hX, ← hy]
            have hb : Below X3.heap.size X3 X4 := by rw [hX]; exact below1 _ _
            have hlo8 : z + 4 ≤ y7 := by have h1 := HS3.out.lt; omega
            have hT4 := And.intro (hT3.1.below hb) (hT3.2.below hb)
            have HM4 := Lib.hid (HM3.out.below hb)
            have HS4 := Lib.hid (HS3.out.below hb)
            have HB4 := Lib.hid (below_then HB3.out HB3.out.size hb)
            have HA4 := Lib.hid (HA3.out.below hb)
            have HR4 := Lib.hid (And.intro (owns_below HR3.out.1 hb) (owns_below HR3.out.2 hb))
            have HG4 := Lib.hid (show GBox X4 y7 0 false by rw [hX, hy]; exact World.alloc_heap_new _ _)
            have hne67 : y6 ≠ y7 := by have h1 := HA3.out.lt; omega
            clear hb hX hy
            refine hK.out _ _ ⟨hT4, fun _ _ => trivial⟩ ?_
            clear hK K
            (try simp only [Act.put, List.getElem_toArray, List.getElem_cons_succ, List.getElem_cons_zero, List.setIfInBounds_toArray, List.set_cons_succ, List.set_cons_zero])
            refine wpTwo_ready (rs := [9]) (by kernel_rfl) (by simp) ?_
            refine (AllTwo.cons rfl (fun K hK => ?_) AllTwo.nil)
            obtain ⟨⟨d0, d1, d2⟩, e0, e1, e2⟩ := mbox_cells HA4.out
            obtain ⟨Xa, hXa⟩ : ∃ X : World, X = ((X4.setCell ⟨y6, 0, none⟩ (.slice (some ⟨gw2, 0, none⟩) nu cw2)).setCell ⟨y6, 1, none⟩ (.slice (some ⟨gl2, 0, none⟩) nl cl2)).setCell ⟨y6, 2, none⟩ (.bool f2) := ⟨_, rfl⟩
            have hk : Keeps (fun q => q = y6) X4 Xa := by rw [hXa]; exact ((Keeps.setCell X4 (S := fun q => q = y6) (p := ⟨y6, 0, none⟩) rfl _).trans (Keeps.setCell _ (S := fun q => q = y6) (p := ⟨y6, 1, none⟩) rfl _)).trans (Keeps.setCell _ (S := fun q => q = y6) (p := ⟨y6, 2, none⟩) rfl _)
            have hTa := And.intro (hT4.1.keeps hk (fun e => by have e : z = y6 := e; omega)) (hT4.2.keeps hk (fun e => by have e : z + 1 = y6 := e; omega))
            have HMa := Lib.hid (HM4.out.keeps hk (fun e => by have e : z + 2 = y6 := e; omega))
            have HSa := Lib.hid (HS4.out.keeps hk (fun e => by have e : z + 3 = y6 := e; omega))
            have HGa := Lib.hid (HG4.out.keeps hk (fun e => hne67 e.symm))
            have HAa := Lib.hid (show MBox Xa y6 (.slice (some ⟨gw2, 0, none⟩) nu cw2) (.slice (some ⟨gl2, 0, none⟩) nl cl2) f2 by rw [hXa]; exact HA4.out.set _ _ _)
            have HRa := Lib.hid (rows_off HR4.out HA4.out hk)
            have HBa := Lib.hid (HB4.out.trans (hk.below HB4.out.size (fun q hq => by have e : q = y6 := hq; have := HZW.out; omega)))
            go_simp
            rw [← hXa]
            refine hK.out _ _ ⟨hTa, fun _ _ => trivial⟩ ?_
            clear hK K d0 d1 d2 e0 e1 e2 hXa hk
            (try simp only [Act.put, List.getElem_toArray, List.getElem_cons_succ, List.getElem_cons_zero, List.setIfInBounds_toArray, List.set_cons_succ, List.set_cons_zero])
            refine wpTwo_ready (rs := [10]) (by kernel_rfl) (by simp) ?_
            refine (AllTwo.cons rfl (fun K hK => ?_) AllTwo.nil)
            obtain ⟨d0, d1⟩ := HGa.out.cells
            have e0 := (gbox_cells HGa.out).2.1
            have e1 := (gbox_cells HGa.out).2.2
            obtain ⟨Xb, hXb⟩ : ∃ X : World, X = (Xa.setCell ⟨y7, 0, none⟩ (.int .u64 gv)).setCell ⟨y7, 1, none⟩ (.bool gd) := ⟨_, rfl⟩
            have hk : Keeps (fun q => q = y7) Xa Xb := by rw [hXb]; exact (Keeps.setCell Xa (S := fun q => q = y7) (p := ⟨y7, 0, none⟩) rfl _).trans (Keeps.setCell _ (S := fun q => q = y7) (p := ⟨y7, 1, none⟩) rfl _)
            have hTb := And.intro (hTa.1.keeps hk (fun e => by have e : z = y7 := e; omega)) (hTa.2.keeps hk (fun e => by have e : z + 1 = y7 := e; omega))
            have HMb := Lib.hid (HMa.out.keeps hk (fun e => by have e : z + 2 = y7 := e; omega))
            have HSb := Lib.hid (HSa.out.keeps hk (fun e => by have e : z + 3 = y7 := e; omega))
            have HAb := Lib.hid (HAa.out.keeps hk (fun e => hne67 e))
            have HGb := Lib.hid (show GBox Xb y7 gv gd by
              unfold GBox
              rw [hXb, heap_setCell_same _ y7 1 _ _ _ (heap_setCell_same Xa y7 0 _ _ _ HGa.out)]; rfl)
            have HRb := Lib.hid (rows_offG HRa.out HGa.out hk)
            have HBb := Lib.hid (HBa.out.trans (hk.below HBa.out.size (fun q hq => by have e : q = y7 := hq; have := HZW.out; omega)))
            go_simp
            rw [← hXb]
            refine hK.out _ _ ⟨hTb, fun _ _ => trivial⟩ ?_
            clear hK K d0 d1 e0 e1 hXb hk
            (try simp only [Act.put, List.getElem_toArray, List.getElem_cons_succ, List.getElem_cons_zero, List.setIfInBounds_toArray, List.set_cons_succ, List.set_cons_zero])
            refine wpTwo_end (by kernel_rfl) ?_ _
            go_wp2
            go_meet
            exact ⟨y6, y7, gw2, cw2, gl2, cl2, rfl, rfl, hlo7, hlo8, Lib.hid ⟨hTb.2, HMb.out, HSb.out, HAb.out, HGb.out, HRb.out, HBb.out⟩⟩
        · go_simp
          obtain ⟨y7, hy⟩ : ∃ q, q = X2.heap.size := ⟨_, rfl⟩
          obtain ⟨X3, hX⟩ : ∃ X : World, X = X2.alloc (.cells #[.int .u64 0, .bool false] 36) := ⟨_, rfl⟩
          rw [← hX, ← hy]
          have hb : Below X2.heap.size X2 X3 := by rw [hX]; exact below1 _ _
          have hlo8 : z + 4 ≤ y7 := by have h1 := HS2.out.lt; omega
          have hT3 := And.intro (hT2.1.below hb) (hT2.2.below hb)
          have HM3 := Lib.hid (HM2.out.below hb)
          have HS3 := Lib.hid (HS2.out.below hb)
          have HB3 := Lib.hid (below_then HB2.out HB2.out.size hb)
          have HA3 := Lib.hid (HA2.out.below hb)
          have HR3 := Lib.hid (And.intro (owns_below HR2.out.1 hb) (owns_below HR2.out.2 hb))
          have HG3 := Lib.hid (show GBox X3 y7 0 false by rw [hX, hy]; exact World.alloc_heap_new _ _)
          have hne67 : y6 ≠ y7 := by have h1 := HA2.out.lt; omega
          clear hb hX hy
          refine hK.out _ _ ⟨hT3, fun _ _ => trivial⟩ ?_
          clear hK K
          (try simp only [Act.put, List.getElem_toArray, List.getElem_cons_succ, List.getElem_cons_zero, List.setIfInBounds_toArray, List.set_cons_succ, List.set_cons_zero])
          refine wpTwo_ready (rs := [3]) (by kernel_rfl) (by simp) ?_
          refine (AllTwo.cons rfl (fun K hK => ?_) AllTwo.nil)
          · go_simp
            refine (HSTP.out X3 HR3.out (Nat.le_trans hB HB3.out.size)).mono ?_
            rintro e X4 ⟨⟨gw2, cw2, gl2, cl2, rfl, hR⟩, hb⟩
            have hT4 := And.intro (hT3.1.below hb) (hT3.2.below hb)
            have HM4 := Lib.hid (HM3.out.below hb)
            have HS4 := Lib.hid (HS3.out.below hb)
            have HB4 := Lib.hid (below_then HB3.out HB3.out.size hb)
            have HA4 := Lib.hid (HA3.out.below hb)
            have HG4 := Lib.hid (HG3.out.below hb)
            have HR4 := Lib.hid hR
            clear hb hR
            go_wp2_with fail
            refine hK.out _ _ ⟨hT4, fun _ _ => trivial⟩ ?_
            clear hK K
            (try simp only [Act.put, List.getElem_toArray, List.getElem_cons_succ, List.getElem_cons_zero, List.setIfInBounds_toArray, List.set_cons_succ, List.set_cons_zero])
            refine wpTwo_takeT (i := 4) (v := .tuple #[.agg #[.slice (some ⟨gw2, 0, none⟩) nu cw2, .slice (some ⟨gl2, 0, none⟩) nl cl2, .bool f2], .agg #[.int .u64 gv, .bool gd]]) rfl (by kernel_rfl) (by kernel_rfl) (by kernel_rfl) (fun _ _ _ h => h) ⟨by rfl, ?_⟩ hT4 ?_
            · rintro w hTw
              go_simp
            (try simp only [Act.put, List.getElem_toArray, List.getElem_cons_succ, List.getElem_cons_zero, List.setIfInBounds_toArray, List.set_cons_succ, List.set_cons_zero])
            refine wpTwo_takeT (i := 5) (v := .agg #[.slice (some ⟨gw2, 0, none⟩) nu cw2, .slice (some ⟨gl2, 0, none⟩) nl cl2, .bool f2]) rfl (by kernel_rfl) (by kernel_rfl) (by kernel_rfl) (fun _ _ _ h => h) ⟨by rfl, ?_⟩ hT4 ?_
            · rintro w hTw
              go_simp
            (try simp only [Act.put, List.getElem_toArray, List.getElem_cons_succ, List.getElem_cons_zero, List.setIfInBounds_toArray, List.set_cons_succ, List.set_cons_zero])
            refine wpTwo_takeT (i := 6) (v := .agg #[.int .u64 gv, .bool gd]) rfl (by kernel_rfl) (by kernel_rfl) (by kernel_rfl) (fun _ _ _ h => h) ⟨by rfl, ?_⟩ hT4 ?_
            · rintro w hTw
              go_simp
            (try simp only [Act.put, List.getElem_toArray, List.getElem_cons_succ, List.getElem_cons_zero, List.setIfInBounds_toArray, List.set_cons_succ, List.set_cons_zero])
            refine wpTwo_ready (rs := [9]) (by kernel_rfl) (by simp) ?_
            refine (AllTwo.cons rfl (fun K hK => ?_) AllTwo.nil)
            obtain ⟨⟨d0, d1, d2⟩, e0, e1, e2⟩ := mbox_cells HA4.out
            obtain ⟨Xa, hXa⟩ : ∃ X : World, X = ((X4.setCell ⟨y6, 0, none⟩ (.slice (some ⟨gw2, 0, none⟩) nu cw2)).setCell ⟨y6, 1, none⟩ (.slice (some ⟨gl2, 0, none⟩) nl cl2)).setCell ⟨y6, 2, none⟩ (.bool f2) := ⟨_, rfl⟩
            have hk : Keeps (fun q => q = y6) X4 Xa := by rw [hXa]; exact ((Keeps.setCell X4 (S := fun q => q = y6) (p := ⟨y6, 0, none⟩) rfl _).trans (Keeps.setCell _ (S := fun q => q = y6) (p := ⟨y6, 1, none⟩) rfl _)).trans (Keeps.setCell _ (S := fun q => q = y6) (p := ⟨y6, 2, none⟩) rfl _)
            have hTa := And.intro (hT4.1.keeps hk (fun e => by have e : z = y6 := e; omega)) (hT4.2.keeps hk (fun e => by have e : z + 1 = y6 := e; omega))
            have HMa := Lib.hid (HM4.out.keeps hk (fun e => by have e : z + 2 = y6 := e; omega))
            have HSa := Lib.hid (HS4.out.keeps hk (fun e => by have e : z + 3 = y6 := e; omega))
            have HGa := Lib.hid (HG4.out.keeps hk (fun e => hne67 e.symm))
            have HAa := Lib.hid (show MBox Xa y6 (.slice (some ⟨gw2, 0, none⟩) nu cw2) (.slice (some ⟨gl2, 0, none⟩) nl cl2) f2 by rw [hXa]; exact HA4.out.set _ _ _)
            have HRa := Lib.hid (rows_off HR4.out HA4.out hk)
            have HBa := Lib.hid (HB4.out.trans (hk.below HB4.out.size (fun q hq => by have e : q = y6 := hq; have := HZW.out; omega)))
            go_simp
            rw [← hXa]
            refine hK.out _ _ ⟨hTa, fun _ _ => trivial⟩ ?_
            clear hK K d0 d1 d2 e0 e1 e2 hXa hk
            (try simp only [Act.put, List.getElem_toArray, List.getElem_cons_succ, List.getElem_cons_zero, List.setIfInBounds_toArray, List.set_cons_succ, List.set_cons_zero])
            refine wpTwo_ready (rs := [10]) (by kernel_rfl) (by simp) ?_
            refine (AllTwo.cons rfl (fun K hK => ?_) AllTwo.nil)
            obtain ⟨d0, d1⟩ := HGa.out.cells
            have e0 := (gbox_cells HGa.out).2.1
            have e1 := (gbox_cells HGa.out).2.2
            obtain ⟨Xb, hXb⟩ : ∃ X : World, X = (Xa.setCell ⟨y7, 0, none⟩ (.int .u64 gv)).setCell ⟨y7, 1, none⟩ (.bool gd) := ⟨_, rfl⟩
            have hk : Keeps (fun q => q = y7) Xa Xb := by rw [hXb]; exact (Keeps.setCell Xa (S := fun q => q = y7) (p := ⟨y7, 0, none⟩) rfl _).trans (Keeps.setCell _ (S := fun q => q = y7) (p := ⟨y7, 1, none⟩) rfl _)
            have hTb := And.intro (hTa.1.keeps hk (fun e => by have e : z = y7 := e; omega)) (hTa.2.keeps hk (fun e => by have e : z + 1 = y7 := e; omega))
            have HMb := Lib.hid (HMa.out.keeps hk (fun e => by have e : z + 2 = y7 := e; omega))
            have HSb := Lib.hid (HSa.out.keeps hk (fun e => by have e : z + 3 = y7 := e; omega))
            have HAb := Lib.hid (HAa.out.keeps hk (fun e => hne67 e))
            have HGb := Lib.hid (show GBox Xb y7 gv gd by
              unfold GBox
              rw [hXb, heap_setCell_same _ y7 1 _ _ _ (heap_setCell_same Xa y7 0 _ _ _ HGa.out)]; rfl)
            have HRb := Lib.hid (rows_offG HRa.out HGa.out hk)
            have HBb := Lib.hid (HBa.out.trans (hk.below HBa.out.size (fun q hq => by have e : q = y7 := hq; have := HZW.out; omega)))
            go_simp
            rw [← hXb]
            refine hK.out _ _ ⟨hTb, fun _ _ => trivial⟩ ?_
            clear hK K d0 d1 e0 e1 hXb hk
            (try simp only [Act.put, List.getElem_toArray, List.getElem_cons_succ, List.getElem_cons_zero, List.setIfInBounds_toArray, List.set_cons_succ, List.set_cons_zero])
            refine wpTwo_end (by kernel_rfl) ?_ _
            go_wp2
            go_meet
            exact ⟨y6, y7, gw2, cw2, gl2, cl2, rfl, rfl, hlo7, hlo8, Lib.hid ⟨hTb.2, HMb.out, HSb.out, HAb.out, HGb.out, HRb.out, HBb.out⟩⟩
      · go_simp
        obtain ⟨y7, hy⟩ : ∃ q, q = X1.heap.size := ⟨_, rfl⟩
        obtain ⟨X2, hX⟩ : ∃ X : World, X = X1.alloc (.cells #[.int .u64 0, .bool false] 36) := ⟨_, rfl⟩
        rw [← hX, ← hy]
        have hb : Below X1.heap.size X1 X2 := by rw [hX]; exact below1 _ _
        have hlo8 : z + 4 ≤ y7 := by have h1 := HS1.out.lt; omega
        have hT2 := And.intro (hT1.1.below hb) (hT1.2.below hb)
        have HM2 := Lib.hid (HM1.out.below hb)
        have HS2 := Lib.hid (HS1.out.below hb)
        have HB2 := Lib.hid (below_then HB1.out HB1.out.size hb)
        have HR2 := Lib.hid (And.intro (owns_below HR1.out.1 hb) (owns_below HR1.out.2 hb))
        have HG2 := Lib.hid (show GBox X2 y7 0 false by rw [hX, hy]; exact World.alloc_heap_new _ _)
        clear hb hX hy
        refine hK.out _ _ ⟨hT2, fun _ _ => trivial⟩ ?_
        clear hK K
        (try simp only [Act.put, List.getElem_toArray, List.getElem_cons_succ, List.getElem_cons_zero, List.setIfInBounds_toArray, List.set_cons_succ, List.set_cons_zero])
        refine wpTwo_ready (rs := [3, 7]) (by kernel_rfl) (by simp) ?_
        refine (AllTwo.cons rfl (fun K hK => ?_) (AllTwo.cons rfl (fun K hK => ?_) AllTwo.nil))
        · go_simp
          refine (HSTP.out X2 HR2.out (Nat.le_trans hB HB2.out.size)).mono ?_
          rintro e X3 ⟨⟨gw2, cw2, gl2, cl2, rfl, hR⟩, hb⟩
          have hT3 := And.intro (hT2.1.below hb) (hT2.2.below hb)
          have HM3 := Lib.hid (HM2.out.below hb)
          have HS3 := Lib.hid (HS2.out.below hb)
          have HB3 := Lib.hid (below_then HB2.out HB2.out.size hb)
          have HG3 := Lib.hid (HG2.out.below hb)
          have HR3 := Lib.hid hR
          clear hb hR
          go_wp2_with fail
          refine hK.out _ _ ⟨hT3, fun _ _ => trivial⟩ ?_
          clear hK K
          (try simp only [Act.put, List.getElem_toArray, List.getElem_cons_succ, List.getElem_cons_zero, List.setIfInBounds_toArray, List.set_cons_succ, List.set_cons_zero])
          refine wpTwo_takeT (i := 4) (v := .tuple #[.agg #[.slice (some ⟨gw2, 0, none⟩) nu cw2, .slice (some ⟨gl2, 0, none⟩) nl cl2, .bool f2], .agg #[.int .u64 gv, .bool gd]]) rfl (by kernel_rfl) (by kernel_rfl) (by kernel_rfl) (fun _ _ _ h => h) ⟨by rfl, ?_⟩ hT3 ?_
          · rintro w hTw
            go_simp
          (try simp only [Act.put, List.getElem_toArray, List.getElem_cons_succ, List.getElem_cons_zero, List.setIfInBounds_toArray, List.set_cons_succ, List.set_cons_zero])
          refine wpTwo_takeT (i := 5) (v := .agg #[.slice (some ⟨gw2, 0, none⟩) nu cw2, .slice (some ⟨gl2, 0, none⟩) nl cl2, .bool f2]) rfl (by kernel_rfl) (by kernel_rfl) (by kernel_rfl) (fun _ _ _ h => h) ⟨by rfl, ?_⟩ hT3 ?_
          · rintro w hTw
            go_simp
          (try simp only [Act.put, List.getElem_toArray, List.getElem_cons_succ, List.getElem_cons_zero, List.setIfInBounds_toArray, List.set_cons_succ, List.set_cons_zero])
          refine wpTwo_takeT (i := 6) (v := .agg #[.int .u64 gv, .bool gd]) rfl (by kernel_rfl) (by kernel_rfl) (by kernel_rfl) (fun _ _ _ h => h) ⟨by rfl, ?_⟩ hT3 ?_
          · rintro w hTw
            go_simp
          (try simp only [Act.put, List.getElem_toArray, List.getElem_cons_succ, List.getElem_cons_zero, List.setIfInBounds_toArray, List.set_cons_succ, List.set_cons_zero])
          refine wpTwo_ready (rs := [7]) (by kernel_rfl) (by simp) ?_
          refine (AllTwo.cons rfl (fun K hK => ?_) AllTwo.nil)
          · go_simp
            obtain ⟨y6, hy⟩ : ∃ q, q = X3.heap.size := ⟨_, rfl⟩
            obtain ⟨X4, hX⟩ : ∃ X : World, X = X3.alloc (.cells #[.slice none 0 0, .slice none 0 0, .bool false] 46) := ⟨_, rfl⟩
            rw [← hX, ← hy]
            have hb : Below X3.heap.size X3 X4 := by rw [hX]; exact below1 _ _
            have hlo7 : z + 4 ≤ y6 := by have h1 := HS3.out.lt; omega
            have hT4 := And.intro (hT3.1.below hb) (hT3.2.below hb)
            have HM4 := Lib.hid (HM3.out.below hb)
            have HS4 := Lib.hid (HS3.out.below hb)
            have HB4 := Lib.hid (below_then HB3.out HB3.out.size hb)
            have HG4 := Lib.hid (HG3.out.below hb)
            have HR4 := Lib.hid (And.intro (owns_below HR3.out.1 hb) (owns_below HR3.out.2 hb))
            have HA4 := Lib.hid (show MBox X4 y6 (.slice none 0 0) (.slice none 0 0) false by rw [hX, hy]; exact MBox.new _ _ _ _)
            have hne67 : y6 ≠ y7 := by have h1 := HG3.out.lt; omega
            clear hb hX hy
            refine hK.out _ _ ⟨hT4, fun _ _ => trivial⟩ ?_
            clear hK K
            (try simp only [Act.put, List.getElem_toArray, List.getElem_cons_succ, List.getElem_cons_zero, List.setIfInBounds_toArray, List.set_cons_succ, List.set_cons_zero])
            refine wpTwo_ready (rs := [9]) (by kernel_rfl) (by simp) ?_
            refine (AllTwo.cons rfl (fun K hK => ?_) AllTwo.nil)
            obtain ⟨⟨d0, d1, d2⟩, e0, e1, e2⟩ := mbox_cells HA4.out
            obtain ⟨Xa, hXa⟩ : ∃ X : World, X = ((X4.setCell ⟨y6, 0, none⟩ (.slice (some ⟨gw2, 0, none⟩) nu cw2)).setCell ⟨y6, 1, none⟩ (.slice (some ⟨gl2, 0, none⟩) nl cl2)).setCell ⟨y6, 2, none⟩ (.bool f2) := ⟨_, rfl⟩
            have hk : Keeps (fun q => q = y6) X4 Xa := by rw [hXa]; exact ((Keeps.setCell X4 (S := fun q => q = y6) (p := ⟨y6, 0, none⟩) rfl _).trans (Keeps.setCell _ (S := fun q => q = y6) (p := ⟨y6, 1, none⟩) rfl _)).trans (Keeps.setCell _ (S := fun q => q = y6) (p := ⟨y6, 2, none⟩) rfl _)
            have hTa := And.intro (hT4.1.keeps hk (fun e => by have e : z = y6 := e; omega)) (hT4.2.keeps hk (fun e => by have e : z + 1 = y6 := e; omega))
            have HMa := Lib.hid (HM4.out.keeps hk (fun e => by have e : z + 2 = y6 := e; omega))
            have HSa := Lib.hid (HS4.out.keeps hk (fun e => by have e : z + 3 = y6 := e; omega))
            have HGa := Lib.hid (HG4.out.keeps hk (fun e => hne67 e.symm))
            have HAa := Lib.hid (show MBox Xa y6 (.slice (some ⟨gw2, 0, none⟩) nu cw2) (.slice (some ⟨gl2, 0, none⟩) nl cl2) f2 by rw [hXa]; exact HA4.out.set _ _ _)
            have HRa := Lib.hid (rows_off HR4.out HA4.out hk)
            have HBa := Lib.hid (HB4.out.trans (hk.below HB4.out.size (fun q hq => by have e : q = y6 := hq; have := HZW.out; omega)))
            go_simp
            rw [← hXa]
            refine hK.out _ _ ⟨hTa, fun _ _ => trivial⟩ ?_
            clear hK K d0 d1 d2 e0 e1 e2 hXa hk
            (try simp only [Act.put, List.getElem_toArray, List.getElem_cons_succ, List.getElem_cons_zero, List.setIfInBounds_toArray, List.set_cons_succ, List.set_cons_zero])
            refine wpTwo_ready (rs := [10]) (by kernel_rfl) (by simp) ?_
            refine (AllTwo.cons rfl (fun K hK => ?_) AllTwo.nil)
            obtain ⟨d0, d1⟩ := HGa.out.cells
            have e0 := (gbox_cells HGa.out).2.1
            have e1 := (gbox_cells HGa.out).2.2
            obtain ⟨Xb, hXb⟩ : ∃ X : World, X = (Xa.setCell ⟨y7, 0, none⟩ (.int .u64 gv)).setCell ⟨y7, 1, none⟩ (.bool gd) := ⟨_, rfl⟩
            have hk : Keeps (fun q => q = y7) Xa Xb := by rw [hXb]; exact (Keeps.setCell Xa (S := fun q => q = y7) (p := ⟨y7, 0, none⟩) rfl _).trans (Keeps.setCell _ (S := fun q => q = y7) (p := ⟨y7, 1, none⟩) rfl _)
            have hTb := And.intro (hTa.1.keeps hk (fun e => by have e : z = y7 := e; omega)) (hTa.2.keeps hk (fun e => by have e : z + 1 = y7 := e; omega))
            have HMb := Lib.hid (HMa.out.keeps hk (fun e => by have e : z + 2 = y7 := e; omega))
            have HSb := Lib.hid (HSa.out.keeps hk (fun e => by have e : z + 3 = y7 := e; omega))
            have HAb := Lib.hid (HAa.out.keeps hk (fun e => hne67 e))
            have HGb := Lib.hid (show GBox Xb y7 gv gd by
              unfold GBox
              rw [hXb, heap_setCell_same _ y7 1 _ _ _ (heap_setCell_same Xa y7 0 _ _ _ HGa.out)]; rfl)
            have HRb := Lib.hid (rows_offG HRa.out HGa.out hk)
            have HBb := Lib.hid (HBa.out.trans (hk.below HBa.out.size (fun q hq => by have e : q = y7 := hq; have := HZW.out; omega)))
            go_simp
            rw [← hXb]
            refine hK.out _ _ ⟨hTb, fun _ _ => trivial⟩ ?_
            clear hK K d0 d1 e0 e1 hXb hk
            (try simp only [Act.put, List.getElem_toArray, List.getElem_cons_succ, List.getElem_cons_zero, List.setIfInBounds_toArray, List.set_cons_succ, List.set_cons_zero])
            refine wpTwo_end (by kernel_rfl) ?_ _
            go_wp2
            go_meet
            exact ⟨y6, y7, gw2, cw2, gl2, cl2, rfl, rfl, hlo7, hlo8, Lib.hid ⟨hTb.2, HMb.out, HSb.out, HAb.out, HGb.out, HRb.out, HBb.out⟩⟩
        · go_simp
          obtain ⟨y6, hy⟩ : ∃ q, q = X2.heap.size := ⟨_, rfl⟩
          obtain ⟨X3, hX⟩ : ∃ X : World, X = X2.alloc (.cells #[.slice none 0 0, .slice none 0 0, .bool false] 46) := ⟨_, rfl⟩
          rw [← hX, ← hy]
          have hb : Below X2.heap.size X2 X3 := by rw [hX]; exact below1 _ _
          have hlo7 : z + 4 ≤ y6 := by have h1 := HS2.out.lt; omega
          have hT3 := And.intro (hT2.1.below hb) (hT2.2.below hb)
          have HM3 := Lib.hid (HM2.out.below hb)
          have HS3 := Lib.hid (HS2.out.below hb)
          have HB3 := Lib.hid (below_then HB2.out HB2.out.size hb)
          have HG3 := Lib.hid (HG2.out.below hb)
          have HR3 := Lib.hid (And.intro (owns_below HR2.out.1 hb) (owns_below HR2.out.2 hb))
          have HA3 := Lib.hid (show MBox X3 y6 (.slice none 0 0) (.slice none 0 0) false by rw [hX, hy]; exact MBox.new _ _ _ _)
          have hne67 : y6 ≠ y7 := by have h1 := HG2.out.lt; omega
          clear hb hX hy
          refine hK.out _ _ ⟨hT3, fun _ _ => trivial⟩ ?_
          clear hK K
          (try simp only [Act.put, List.getElem_toArray, List.getElem_cons_succ, List.getElem_cons_zero, List.setIfInBounds_toArray, List.set_cons_succ, List.set_cons_zero])
          refine wpTwo_ready (rs := [3]) (by kernel_rfl) (by simp) ?_
          refine (AllTwo.cons rfl (fun K hK => ?_) AllTwo.nil)
          · go_simp
            refine (HSTP.out X3 HR3.out (Nat.le_trans hB HB3.out.size)).mono ?_
            rintro e X4 ⟨⟨gw2, cw2, gl2, cl2, rfl, hR⟩, hb⟩
            have hT4 := And.intro (hT3.1.below hb) (hT3.2.below hb)
            have HM4 := Lib.hid (HM3.out.below hb)
            have HS4 := Lib.hid (HS3.out.below hb)
            have HB4 := Lib.hid (below_then HB3.out HB3.out.size hb)
            have HA4 := Lib.hid (HA3.out.below hb)
            have HG4 := Lib.hid (HG3.out.below hb)
            have HR4 := Lib.hid hR
            clear hb hR
            go_wp2_with fail
            refine hK.out _ _ ⟨hT4, fun _ _ => trivial⟩ ?_
            clear hK K
            (try simp only [Act.put, List.getElem_toArray, List.getElem_cons_succ, List.getElem_cons_zero, List.setIfInBounds_toArray, List.set_cons_succ, List.set_cons_zero])
            refine wpTwo_takeT (i := 4) (v := .tuple #[.agg #[.slice (some ⟨gw2, 0, none⟩) nu cw2, .slice (some ⟨gl2, 0, none⟩) nl cl2, .bool f2], .agg #[.int .u64 gv, .bool gd]]) rfl (by kernel_rfl) (by kernel_rfl) (by kernel_rfl) (fun _ _ _ h => h) ⟨by rfl, ?_⟩ hT4 ?_
            · rintro w hTw
              go_simp
            (try simp only [Act.put, List.getElem_toArray, List.getElem_cons_succ, List.getElem_cons_zero, List.setIfInBounds_toArray, List.set_cons_succ, List.set_cons_zero])
            refine wpTwo_takeT (i := 5) (v := .agg #[.slice (some ⟨gw2, 0, none⟩) nu cw2, .slice (some ⟨gl2, 0, none⟩) nl cl2, .bool f2]) rfl (by kernel_rfl) (by kernel_rfl) (by kernel_rfl) (fun _ _ _ h => h) ⟨by rfl, ?_⟩ hT4 ?_
            · rintro w hTw
              go_simp
            (try simp only [Act.put, List.getElem_toArray, List.getElem_cons_succ, List.getElem_cons_zero, List.setIfInBounds_toArray, List.set_cons_succ, List.set_cons_zero])
            refine wpTwo_takeT (i := 6) (v := .agg #[.int .u64 gv, .bool gd]) rfl (by kernel_rfl) (by kernel_rfl) (by kernel_rfl) (fun _ _ _ h => h) ⟨by rfl, ?_⟩ hT4 ?_
            · rintro w hTw
              go_simp
            (try simp only [Act.put, List.getElem_toArray, List.getElem_cons_succ, List.getElem_cons_zero, List.setIfInBounds_toArray, List.set_cons_succ, List.set_cons_zero])
            refine wpTwo_ready (rs := [9]) (by kernel_rfl) (by simp) ?_
            refine (AllTwo.cons rfl (fun K hK => ?_) AllTwo.nil)
            obtain ⟨⟨d0, d1, d2⟩, e0, e1, e2⟩ := mbox_cells HA4.out
            obtain ⟨Xa, hXa⟩ : ∃ X : World, X = ((X4.setCell ⟨y6, 0, none⟩ (.slice (some ⟨gw2, 0, none⟩) nu cw2)).setCell ⟨y6, 1, none⟩ (.slice (some ⟨gl2, 0, none⟩) nl cl2)).setCell ⟨y6, 2, none⟩ (.bool f2) := ⟨_, rfl⟩
            have hk : Keeps (fun q => q = y6) X4 Xa := by rw [hXa]; exact ((Keeps.setCell X4 (S := fun q => q = y6) (p := ⟨y6, 0, none⟩) rfl _).trans (Keeps.setCell _ (S := fun q => q = y6) (p := ⟨y6, 1, none⟩) rfl _)).trans (Keeps.setCell _ (S := fun q => q = y6) (p := ⟨y6, 2, none⟩) rfl _)
            have hTa := And.intro (hT4.1.keeps hk (fun e => by have e : z = y6 := e; omega)) (hT4.2.keeps hk (fun e => by have e : z + 1 = y6 := e; omega))
            have HMa := Lib.hid (HM4.out.keeps hk (fun e => by have e : z + 2 = y6 := e; omega))
            have HSa := Lib.hid (HS4.out.keeps hk (fun e => by have e : z + 3 = y6 := e; omega))
            have HGa := Lib.hid (HG4.out.keeps hk (fun e => hne67 e.symm))
            have HAa := Lib.hid (show MBox Xa y6 (.slice (some ⟨gw2, 0, none⟩) nu cw2) (.slice (some ⟨gl2, 0, none⟩) nl cl2) f2 by rw [hXa]; exact HA4.out.set _ _ _)
            have HRa := Lib.hid (rows_off HR4.out HA4.out hk)
            have HBa := Lib.hid (HB4.out.trans (hk.below HB4.out.size (fun q hq => by have e : q = y6 := hq; have := HZW.out; omega)))
            go_simp
            rw [← hXa]
            refine hK.out _ _ ⟨hTa, fun _ _ => trivial⟩ ?_
            clear hK K d0 d1 d2 e0 e1 e2 hXa hk
            (try simp only [Act.put, List.getElem_toArray, List.getElem_cons_succ, List.getElem_cons_zero, List.setIfInBounds_toArray, List.set_cons_succ, List.set_cons_zero])
            refine wpTwo_ready (rs := [10]) (by kernel_rfl) (by simp) ?_
            refine (AllTwo.cons rfl (fun K hK => ?_) AllTwo.nil)
            obtain ⟨d0, d1⟩ := HGa.out.cells
            have e0 := (gbox_cells HGa.out).2.1
            have e1 := (gbox_cells HGa.out).2.2
            obtain ⟨Xb, hXb⟩ : ∃ X : World, X = (Xa.setCell ⟨y7, 0, none⟩ (.int .u64 gv)).setCell ⟨y7, 1, none⟩ (.bool gd) := ⟨_, rfl⟩
            have hk : Keeps (fun q => q = y7) Xa Xb := by rw [hXb]; exact (Keeps.setCell Xa (S := fun q => q = y7) (p := ⟨y7, 0, none⟩) rfl _).trans (Keeps.setCell _ (S := fun q => q = y7) (p := ⟨y7, 1, none⟩) rfl _)
            have hTb := And.intro (hTa.1.keeps hk (fun e => by have e : z = y7 := e; omega)) (hTa.2.keeps hk (fun e => by have e : z + 1 = y7 := e; omega))
            have HMb := Lib.hid (HMa.out.keeps hk (fun e => by have e : z + 2 = y7 := e; omega))
            have HSb := Lib.hid (HSa.out.keeps hk (fun e => by have e : z + 3 = y7 := e; omega))
            have HAb := Lib.hid (HAa.out.keeps hk (fun e => hne67 e))
            have HGb := Lib.hid (show GBox Xb y7 gv gd by
              unfold GBox
              rw [hXb, heap_setCell_same _ y7 1 _ _ _ (heap_setCell_same Xa y7 0 _ _ _ HGa.out)]; rfl)
            have HRb := Lib.hid (rows_offG HRa.out HGa.out hk)
            have HBb := Lib.hid (HBa.out.trans (hk.below HBa.out.size (fun q hq => by have e : q = y7 := hq; have := HZW.out; omega)))
            go_simp
            rw [← hXb]
            refine hK.out _ _ ⟨hTb, fun _ _ => trivial⟩ ?_
            clear hK K d0 d1 e0 e1 hXb hk
            (try simp only [Act.put, List.getElem_toArray, List.getElem_cons_succ, List.getElem_cons_zero, List.setIfInBounds_toArray, List.set_cons_succ, List.set_cons_zero])
            refine wpTwo_end (by kernel_rfl) ?_ _
            go_wp2
            go_meet
            exact ⟨y6, y7, gw2, cw2, gl2, cl2, rfl, rfl, hlo7, hlo8, Lib.hid ⟨hTb.2, HMb.out, HSb.out, HAb.out, HGb.out, HRb.out, HBb.out⟩⟩
    · go_simp
      obtain ⟨y6, hy⟩ : ∃ q, q = X0.heap.size := ⟨_, rfl⟩
      obtain ⟨X1, hX⟩ : ∃ X : World, X = X0.alloc (.cells #[.slice none 0 0, .slice none 0 0, .bool false] 46) := ⟨_, rfl⟩
      rw [← hX, ← hy]
      have hb : Below X0.heap.size X0 X1 := by rw [hX]; exact below1 _ _
      have hlo7 : z + 4 ≤ y6 := by have h1 := HS0.out.lt; omega
      have hT1 := And.intro (hT0.1.below hb) (hT0.2.below hb)
      have HM1 := Lib.hid (HM0.out.below hb)
      have HS1 := Lib.hid (HS0.out.below hb)
      have HB1 := Lib.hid (below_then HB0.out HB0.out.size hb)
      have HR1 := Lib.hid (And.intro (owns_below HR0.out.1 hb) (owns_below HR0.out.2 hb))
      have HA1 := Lib.hid (show MBox X1 y6 (.slice none 0 0) (.slice none 0 0) false by rw [hX, hy]; exact MBox.new _ _ _ _)
      clear hb hX hy
      refine hK.out _ _ ⟨hT1, fun _ _ => trivial⟩ ?_
      clear hK K
      (try simp only [Act.put, List.getElem_toArray, List.getElem_cons_succ, List.getElem_cons_zero, List.setIfInBounds_toArray, List.set_cons_succ, List.set_cons_zero])
      refine wpTwo_ready (rs := [2, 8]) (by kernel_rfl) (by simp) ?_
      refine (AllTwo.cons rfl (fun K hK => ?_) (AllTwo.cons rfl (fun K hK => ?_) AllTwo.nil))
      · go_simp
        refine (HRN.out X1).mono ?_
        rintro e X2 ⟨rfl, hb⟩
        have hT2 := And.intro (hT1.1.below hb) (hT1.2.below hb)
        have HM2 := Lib.hid (HM1.out.below hb)
        have HS2 := Lib.hid (HS1.out.below hb)
        have HB2 := Lib.hid (below_then HB1.out HB1.out.size hb)
        have HA2 := Lib.hid (HA1.out.below hb)
        have HR2 := Lib.hid (And.intro (owns_below HR1.out.1 hb) (owns_below HR1.out.2 hb))
        clear hb
        go_wp2_with fail
        refine hK.out _ _ ⟨hT2, fun _ _ => trivial⟩ ?_
        clear hK K
        (try simp only [Act.put, List.getElem_toArray, List.getElem_cons_succ, List.getElem_cons_zero, List.setIfInBounds_toArray, List.set_cons_succ, List.set_cons_zero])
        refine wpTwo_ready (rs := [3, 8]) (by kernel_rfl) (by simp) ?_
        refine (AllTwo.cons rfl (fun K hK => ?_) (AllTwo.cons rfl (fun K hK => ?_) AllTwo.nil))
        · go_simp
          refine (HSTP.out X2 HR2.out (Nat.le_trans hB HB2.out.size)).mono ?_
          rintro e X3 ⟨⟨gw2, cw2, gl2, cl2, rfl, hR⟩, hb⟩
          have hT3 := And.intro (hT2.1.below hb) (hT2.2.below hb)
          have HM3 := Lib.hid (HM2.out.below hb)
          have HS3 := Lib.hid (HS2.out.below hb)
          have HB3 := Lib.hid (below_then HB2.out HB2.out.size hb)
          have HA3 := Lib.hid (HA2.out.below hb)
          have HR3 := Lib.hid hR
          clear hb hR
          go_wp2_with fail
          refine hK.out _ _ ⟨hT3, fun _ _ => trivial⟩ ?_
          clear hK K
          (try simp only [Act.put, List.getElem_toArray, List.getElem_cons_succ, List.getElem_cons_zero, List.setIfInBounds_toArray, List.set_cons_succ, List.set_cons_zero])
          refine wpTwo_takeT (i := 4) (v := .tuple #[.agg #[.slice (some ⟨gw2, 0, none⟩) nu cw2, .slice (some ⟨gl2, 0, none⟩) nl cl2, .bool f2], .agg #[.int .u64 gv, .bool gd]]) rfl (by kernel_rfl) (by kernel_rfl) (by kernel_rfl) (fun _ _ _ h => h) ⟨by rfl, ?_⟩ hT3 ?_
          · rintro w hTw
            go_simp
          (try simp only [Act.put, List.getElem_toArray, List.getElem_cons_succ, List.getElem_cons_zero, List.setIfInBounds_toArray, List.set_cons_succ, List.set_cons_zero])
          refine wpTwo_takeT (i := 5) (v := .agg #[.slice (some ⟨gw2, 0, none⟩) nu cw2, .slice (some ⟨gl2, 0, none⟩) nl cl2, .bool f2]) rfl (by kernel_rfl) (by kernel_rfl) (by kernel_rfl) (fun _ _ _ h => h) ⟨by rfl, ?_⟩ hT3 ?_
          · rintro w hTw
            go_simp
          (try simp only [Act.put, List.getElem_toArray, List.getElem_cons_succ, List.getElem_cons_zero, List.setIfInBounds_toArray, List.set_cons_succ, List.set_cons_zero])
          refine wpTwo_takeT (i := 6) (v := .agg #[.int .u64 gv, .bool gd]) rfl (by kernel_rfl) (by kernel_rfl) (by kernel_rfl) (fun _ _ _ h => h) ⟨by rfl, ?_⟩ hT3 ?_
          · rintro w hTw
            go_simp
          (try simp only [Act.put, List.getElem_toArray, List.getElem_cons_succ, List.getElem_cons_zero, List.setIfInBounds_toArray, List.set_cons_succ, List.set_cons_zero])
          refine wpTwo_ready (rs := [8]) (by kernel_rfl) (by simp) ?_
          refine (AllTwo.cons rfl (fun K hK => ?_) AllTwo.nil)
          · go_simp
            obtain ⟨y7, hy⟩ : ∃ q, q = X3.heap.size := ⟨_, rfl⟩
            obtain ⟨X4, hX⟩ : ∃ X : World, X = X3.alloc (.cells #[.int .u64 0, .bool false] 36) := ⟨_, rfl⟩
            rw [← hX, ← hy]
            have hb : Below X3.heap.size X3 X4 := by rw [hX]; exact below1 _ _
            have hlo8 : z + 4 ≤ y7 := by have h1 := HS3.out.lt; omega
            have hT4 := And.intro (hT3.1.below hb) (hT3.2.below hb)
            have HM4 := Lib.hid (HM3.out.below hb)
            have HS4 := Lib.hid (HS3.out.below hb)
            have HB4 := Lib.hid (below_then HB3.out HB3.out.size hb)
            have HA4 := Lib.hid (HA3.out.below hb)
            have HR4 := Lib.hid (And.intro (owns_below HR3.out.1 hb) (owns_below HR3.out.2 hb))
            have HG4 := Lib.hid (show GBox X4 y7 0 false by rw [hX, hy]; exact World.alloc_heap_new _ _)
            have hne67 : y6 ≠ y7 := by have h1 := HA3.out.lt; omega
            clear hb hX hy
            refine hK.out _ _ ⟨hT4, fun _ _ => trivial⟩ ?_
            clear hK K
            (try simp only [Act.put, List.getElem_toArray, List.getElem_cons_succ, List.getElem_cons_zero, List.setIfInBounds_toArray, List.set_cons_succ, List.set_cons_zero])
            refine wpTwo_ready (rs := [9]) (by kernel_rfl) (by simp) ?_
            refine (AllTwo.cons rfl (fun K hK => ?_) AllTwo.nil)
            obtain ⟨⟨d0, d1, d2⟩, e0, e1, e2⟩ := mbox_cells HA4.out
            obtain ⟨Xa, hXa⟩ : ∃ X : World, X = ((X4.setCell ⟨y6, 0, none⟩ (.slice (some ⟨gw2, 0, none⟩) nu cw2)).setCell ⟨y6, 1, none⟩ (.slice (some ⟨gl2, 0, none⟩) nl cl2)).setCell ⟨y6, 2, none⟩ (.bool f2) := ⟨_, rfl⟩
            have hk : Keeps (fun q => q = y6) X4 Xa := by rw [hXa]; exact ((Keeps.setCell X4 (S := fun q => q = y6) (p := ⟨y6, 0, none⟩) rfl _).trans (Keeps.setCell _ (S := fun q => q = y6) (p := ⟨y6, 1, none⟩) rfl _)).trans (Keeps.setCell _ (S := fun q => q = y6) (p := ⟨y6, 2, none⟩) rfl _)
            have hTa := And.intro (hT4.1.keeps hk (fun e => by have e : z = y6 := e; omega)) (hT4.2.keeps hk (fun e => by have e : z + 1 = y6 := e; omega))
            have HMa := Lib.hid (HM4.out.keeps hk (fun e => by have e : z + 2 = y6 := e; omega))
            have HSa := Lib.hid (HS4.out.keeps hk (fun e => by have e : z + 3 = y6 := e; omega))
            have HGa := Lib.hid (HG4.out.keeps hk (fun e => hne67 e.symm))
            have HAa := Lib.hid (show MBox Xa y6 (.slice (some ⟨gw2, 0, none⟩) nu cw2) (.slice (some ⟨gl2, 0, none⟩) nl cl2) f2 by rw [hXa]; exact HA4.out.set _ _ _)
            have HRa := Lib.hid (rows_off HR4.out HA4.out hk)
            have HBa := Lib.hid (HB4.out.trans (hk.below HB4.out.size (fun q hq => by have e : q = y6 := hq; have := HZW.out; omega)))
            go_simp
            rw [← hXa]
            refine hK.out _ _ ⟨hTa, fun _ _ => trivial⟩ ?_
            clear hK K d0 d1 d2 e0 e1 e2 hXa hk
            (try simp only [Act.put, List.getElem_toArray, List.getElem_cons_succ, List.getElem_cons_zero, List.setIfInBounds_toArray, List.set_cons_succ, List.set_cons_zero])
            refine wpTwo_ready (rs := [10]) (by kernel_rfl) (by simp) ?_
            refine (AllTwo.cons rfl (fun K hK => ?_) AllTwo.nil)
            obtain ⟨d0, d1⟩ := HGa.out.cells
            have e0 := (gbox_cells HGa.out).2.1
            have e1 := (gbox_cells HGa.out).2.2
            obtain ⟨Xb, hXb⟩ : ∃ X : World, X = (Xa.setCell ⟨y7, 0, none⟩ (.int .u64 gv)).setCell ⟨y7, 1, none⟩ (.bool gd) := ⟨_, rfl⟩
            have hk : Keeps (fun q => q = y7) Xa Xb := by rw [hXb]; exact (Keeps.setCell Xa (S := fun q => q = y7) (p := ⟨y7, 0, none⟩) rfl _).trans (Keeps.setCell _ (S := fun q => q = y7) (p := ⟨y7, 1, none⟩) rfl _)
            have hTb := And.intro (hTa.1.keeps hk (fun e => by have e : z = y7 := e; omega)) (hTa.2.keeps hk (fun e => by have e : z + 1 = y7 := e; omega))
            have HMb := Lib.hid (HMa.out.keeps hk (fun e => by have e : z + 2 = y7 := e; omega))
            have HSb := Lib.hid (HSa.out.keeps hk (fun e => by have e : z + 3 = y7 := e; omega))
            have HAb := Lib.hid (HAa.out.keeps hk (fun e => hne67 e))
            have HGb := Lib.hid (show GBox Xb y7 gv gd by
              unfold GBox
              rw [hXb, heap_setCell_same _ y7 1 _ _ _ (heap_setCell_same Xa y7 0 _ _ _ HGa.out)]; rfl)
            have HRb := Lib.hid (rows_offG HRa.out HGa.out hk)
            have HBb := Lib.hid (HBa.out.trans (hk.below HBa.out.size (fun q hq => by have e : q = y7 := hq; have := HZW.out; omega)))
            go_simp
            rw [← hXb]
            refine hK.out _ _ ⟨hTb, fun _ _ => trivial⟩ ?_
            clear hK K d0 d1 e0 e1 hXb hk
            (try simp only [Act.put, List.getElem_toArray, List.getElem_cons_succ, List.getElem_cons_zero, List.setIfInBounds_toArray, List.set_cons_succ, List.set_cons_zero])
            refine wpTwo_end (by kernel_rfl) ?_ _
            go_wp2
            go_meet
            exact ⟨y6, y7, gw2, cw2, gl2, cl2, rfl, rfl, hlo7, hlo8, Lib.hid ⟨hTb.2, HMb.out, HSb.out, HAb.out, HGb.out, HRb.out, HBb.out⟩⟩
        · go_simp
          obtain ⟨y7, hy⟩ : ∃ q, q = X2.heap.size := ⟨_, rfl⟩
          obtain ⟨X3, hX⟩ : ∃ X : World, X = X2.alloc (.cells #[.int .u64 0, .bool false] 36) := ⟨_, rfl⟩
          rw [← hX, ← hy]
          have hb : Below X2.heap.size X2 X3 := by rw [hX]; exact below1 _ _
          have hlo8 : z + 4 ≤ y7 := by have h1 := HS2.out.lt; omega
          have hT3 := And.intro (hT2.1.below hb) (hT2.2.below hb)
          have HM3 := Lib.hid (HM2.out.below hb)
          have HS3 := Lib.hid (HS2.out.below hb)
          have HB3 := Lib.hid (below_then HB2.out HB2.out.size hb)
          have HA3 := Lib.hid (HA2.out.below hb)
          have HR3 := Lib.hid (And.intro (owns_below HR2.out.1 hb) (owns_below HR2.out.2 hb))
          have HG3 := Lib.hid (show GBox X3 y7 0 false by rw [hX, hy]; exact World.alloc_heap_new _ _)
          have hne67 : y6 ≠ y7 := by have h1 := HA2.out.lt; omega
          clear hb hX hy
          refine hK.out _ _ ⟨hT3, fun _ _ => trivial⟩ ?_
          clear hK K
          (try simp only [Act.put, List.getElem_toArray, List.getElem_cons_succ, List.getElem_cons_zero, List.setIfInBounds_toArray, List.set_cons_succ, List.set_cons_zero])
          refine wpTwo_ready (rs := [3]) (by kernel_rfl) (by simp) ?_
          refine (AllTwo.cons rfl (fun K hK => ?_) AllTwo.nil)
          · go_simp
            refine (HSTP.out X3 HR3.out (Nat.le_trans hB HB3.out.size)).mono ?_
            rintro e X4 ⟨⟨gw2, cw2, gl2, cl2, rfl, hR⟩, hb⟩
            have hT4 := And.intro (hT3.1.below hb) (hT3.2.below hb)
            have HM4 := Lib.hid (HM3.out.below hb)
            have HS4 := Lib.hid (HS3.out.below hb)
            have HB4 := Lib.hid (below_then HB3.out HB3.out.size hb)
            have HA4 := Lib.hid (HA3.out.below hb)
            have HG4 := Lib.hid (HG3.out.below hb)
            have HR4 := Lib.hid hR
            clear hb hR
            go_wp2_with fail
            refine hK.out _ _ ⟨hT4, fun _ _ => trivial⟩ ?_
            clear hK K
            (try simp only [Act.put, List.getElem_toArray, List.getElem_cons_succ, List.getElem_cons_zero, List.setIfInBounds_toArray, List.set_cons_succ, List.set_cons_zero])
            refine wpTwo_takeT (i := 4) (v := .tuple #[.agg #[.slice (some ⟨gw2, 0, none⟩) nu cw2, .slice (some ⟨gl2, 0, none⟩) nl cl2, .bool f2], .agg #[.int .u64 gv, .bool gd]]) rfl (by kernel_rfl) (by kernel_rfl) (by kernel_rfl) (fun _ _ _ h => h) ⟨by rfl, ?_⟩ hT4 ?_
            · rintro w hTw
              go_simp
            (try simp only [Act.put, List.getElem_toArray, List.getElem_cons_succ, List.getElem_cons_zero, List.setIfInBounds_toArray, List.set_cons_succ, List.set_cons_zero])
            refine wpTwo_takeT (i := 5) (v := .agg #[.slice (some ⟨gw2, 0, none⟩) nu cw2, .slice (some ⟨gl2, 0, none⟩) nl cl2, .bool f2]) rfl (by kernel_rfl) (by kernel_rfl) (by kernel_rfl) (fun _ _ _ h => h) ⟨by rfl, ?_⟩ hT4 ?_
            · rintro w hTw
              go_simp
            (try simp only [Act.put, List.getElem_toArray, List.getElem_cons_succ, List.getElem_cons_zero, List.setIfInBounds_toArray, List.set_cons_succ, List.set_cons_zero])
            refine wpTwo_takeT (i := 6) (v := .agg #[.int .u64 gv, .bool gd]) rfl (by kernel_rfl) (by kernel_rfl) (by kernel_rfl) (fun _ _ _ h => h) ⟨by rfl, ?_⟩ hT4 ?_
            · rintro w hTw
              go_simp
            (try simp only [Act.put, List.getElem_toArray, List.getElem_cons_succ, List.getElem_cons_zero, List.setIfInBounds_toArray, List.set_cons_succ, List.set_cons_zero])
            refine wpTwo_ready (rs := [9]) (by kernel_rfl) (by simp) ?_
            refine (AllTwo.cons rfl (fun K hK => ?_) AllTwo.nil)
            obtain ⟨⟨d0, d1, d2⟩, e0, e1, e2⟩ := mbox_cells HA4.out
            obtain ⟨Xa, hXa⟩ : ∃ X : World, X = ((X4.setCell ⟨y6, 0, none⟩ (.slice (some ⟨gw2, 0, none⟩) nu cw2)).setCell ⟨y6, 1, none⟩ (.slice (some ⟨gl2, 0, none⟩) nl cl2)).setCell ⟨y6, 2, none⟩ (.bool f2) := ⟨_, rfl⟩
            have hk : Keeps (fun q => q = y6) X4 Xa := by rw [hXa]; exact ((Keeps.setCell X4 (S := fun q => q = y6) (p := ⟨y6, 0, none⟩) rfl _).trans (Keeps.setCell _ (S := fun q => q = y6) (p := ⟨y6, 1, none⟩) rfl _)).trans (Keeps.setCell _ (S := fun q => q = y6) (p := ⟨y6, 2, none⟩) rfl _)
            have hTa := And.intro (hT4.1.keeps hk (fun e => by have e : z = y6 := e; omega)) (hT4.2.keeps hk (fun e => by have e : z + 1 = y6 := e; omega))
            have HMa := Lib.hid (HM4.out.keeps hk (fun e => by have e : z + 2 = y6 := e; omega))
            have HSa := Lib.hid (HS4.out.keeps hk (fun e => by have e : z + 3 = y6 := e; omega))
            have HGa := Lib.hid (HG4.out.keeps hk (fun e => hne67 e.symm))
            have HAa := Lib.hid (show MBox Xa y6 (.slice (some ⟨gw2, 0, none⟩) nu cw2) (.slice (some ⟨gl2, 0, none⟩) nl cl2) f2 by rw [hXa]; exact HA4.out.set _ _ _)
            have HRa := Lib.hid (rows_off HR4.out HA4.out hk)
            have HBa := Lib.hid (HB4.out.trans (hk.below HB4.out.size (fun q hq => by have e : q = y6 := hq; have := HZW.out; omega)))
            go_simp
            rw [← hXa]
            refine hK.out _ _ ⟨hTa, fun _ _ => trivial⟩ ?_
            clear hK K d0 d1 d2 e0 e1 e2 hXa hk
            (try simp only [Act.put, List.getElem_toArray, List.getElem_cons_succ, List.getElem_cons_zero, List.setIfInBounds_toArray, List.set_cons_succ, List.set_cons_zero])
            refine wpTwo_ready (rs := [10]) (by kernel_rfl) (by simp) ?_
            refine (AllTwo.cons rfl (fun K hK => ?_) AllTwo.nil)
            obtain ⟨d0, d1⟩ := HGa.out.cells
            have e0 := (gbox_cells HGa.out).2.1
            have e1 := (gbox_cells HGa.out).2.2
            obtain ⟨Xb, hXb⟩ : ∃ X : World, X = (Xa.setCell ⟨y7, 0, none⟩ (.int .u64 gv)).setCell ⟨y7, 1, none⟩ (.bool gd) := ⟨_, rfl⟩
            have hk : Keeps (fun q => q = y7) Xa Xb := by rw [hXb]; exact (Keeps.setCell Xa (S := fun q => q = y7) (p := ⟨y7, 0, none⟩) rfl _).trans (Keeps.setCell _ (S := fun q => q = y7) (p := ⟨y7, 1, none⟩) rfl _)
            have hTb := And.intro (hTa.1.keeps hk (fun e => by have e : z = y7 := e; omega)) (hTa.2.keeps hk (fun e => by have e : z + 1 = y7 := e; omega))
            have HMb := Lib.hid (HMa.out.keeps hk (fun e => by have e : z + 2 = y7 := e; omega))
            have HSb := Lib.hid (HSa.out.keeps hk (fun e => by have e : z + 3 = y7 := e; omega))
            have HAb := Lib.hid (HAa.out.keeps hk (fun e => hne67 e))
            have HGb := Lib.hid (show GBox Xb y7 gv gd by
              unfold GBox
              rw [hXb, heap_setCell_same _ y7 1 _ _ _ (heap_setCell_same Xa y7 0 _ _ _ HGa.out)]; rfl)
            have HRb := Lib.hid (rows_offG HRa.out HGa.out hk)
            have HBb := Lib.hid (HBa.out.trans (hk.below HBa.out.size (fun q hq => by have e : q = y7 := hq; have := HZW.out; omega)))
            go_simp
            rw [← hXb]
            refine hK.out _ _ ⟨hTb, fun _ _ => trivial⟩ ?_
            clear hK K d0 d1 e0 e1 hXb hk
            (try simp only [Act.put, List.getElem_toArray, List.getElem_cons_succ, List.getElem_cons_zero, List.setIfInBounds_toArray, List.set_cons_succ, List.set_cons_zero])
            refine wpTwo_end (by kernel_rfl) ?_ _
            go_wp2
            go_meet
            exact ⟨y6, y7, gw2, cw2, gl2, cl2, rfl, rfl, hlo7, hlo8, Lib.hid ⟨hTb.2, HMb.out, HSb.out, HAb.out, HGb.out, HRb.out, HBb.out⟩⟩
      · go_simp
        obtain ⟨y7, hy⟩ : ∃ q, q = X1.heap.size := ⟨_, rfl⟩
        obtain ⟨X2, hX⟩ : ∃ X : World, X = X1.alloc (.cells #[.int .u64 0, .bool false] 36) := ⟨_, rfl⟩
        rw [← hX, ← hy]
        have hb : Below X1.heap.size X1 X2 := by rw [hX]; exact below1 _ _
        have hlo8 : z + 4 ≤ y7 := by have h1 := HS1.out.lt; omega
        have hT2 := And.intro (hT1.1.below hb) (hT1.2.below hb)
        have HM2 := Lib.hid (HM1.out.below hb)
        have HS2 := Lib.hid (HS1.out.below hb)
        have HB2 := Lib.hid (below_then HB1.out HB1.out.size hb)
        have HA2 := Lib.hid (HA1.out.below hb)
        have HR2 := Lib.hid (And.intro (owns_below HR1.out.1 hb) (owns_below HR1.out.2 hb))
        have HG2 := Lib.hid (show GBox X2 y7 0 false by rw [hX, hy]; exact World.alloc_heap_new _ _)
        have hne67 : y6 ≠ y7 := by have h1 := HA1.out.lt; omega
        clear hb hX hy
        refine hK.out _ _ ⟨hT2, fun _ _ => trivial⟩ ?_
        clear hK K
        (try simp only [Act.put, List.getElem_toArray, List.getElem_cons_succ, List.getElem_cons_zero, List.setIfInBounds_toArray, List.set_cons_succ, List.set_cons_zero])
        refine wpTwo_ready (rs := [2]) (by kernel_rfl) (by simp) ?_
        refine (AllTwo.cons rfl (fun K hK => ?_) AllTwo.nil)
        · go_simp
          refine (HRN.out X2).mono ?_
          rintro e X3 ⟨rfl, hb⟩
          have hT3 := And.intro (hT2.1.below hb) (hT2.2.below hb)
          have HM3 := Lib.hid (HM2.out.below hb)
          have HS3 := Lib.hid (HS2.out.below hb)
          have HB3 := Lib.hid (below_then HB2.out HB2.out.size hb)
          have HA3 := Lib.hid (HA2.out.below hb)
          have HG3 := Lib.hid (HG2.out.below hb)
          have HR3 := Lib.hid (And.intro (owns_below HR2.out.1 hb) (owns_below HR2.out.2 hb))
          clear hb
          go_wp2_with fail
          refine hK.out _ _ ⟨hT3, fun _ _ => trivial⟩ ?_
          clear hK K
          (try simp only [Act.put, List.getElem_toArray, List.getElem_cons_succ, List.getElem_cons_zero, List.setIfInBounds_toArray, List.set_cons_succ, List.set_cons_zero])
          refine wpTwo_ready (rs := [3]) (by kernel_rfl) (by simp) ?_
          refine (AllTwo.cons rfl (fun K hK => ?_) AllTwo.nil)
          · go_simp
            refine (HSTP.out X3 HR3.out (Nat.le_trans hB HB3.out.size)).mono ?_
            rintro e X4 ⟨⟨gw2, cw2, gl2, cl2, rfl, hR⟩, hb⟩
            have hT4 := And.intro (hT3.1.below hb) (hT3.2.below hb)
            have HM4 := Lib.hid (HM3.out.below hb)
            have HS4 := Lib.hid (HS3.out.below hb)
            have HB4 := Lib.hid (below_then HB3.out HB3.out.size hb)
            have HA4 := Lib.hid (HA3.out.below hb)
            have HG4 := Lib.hid (HG3.out.below hb)
            have HR4 := Lib.hid hR
            clear hb hR
            go_wp2_with fail
            refine hK.out _ _ ⟨hT4, fun _ _ => trivial⟩ ?_
            clear hK K
            (try simp only [Act.put, List.getElem_toArray, List.getElem_cons_succ, List.getElem_cons_zero, List.setIfInBounds_toArray, List.set_cons_succ, List.set_cons_zero])
            refine wpTwo_takeT (i := 4) (v := .tuple #[.agg #[.slice (some ⟨gw2, 0, none⟩) nu cw2, .slice (some ⟨gl2, 0, none⟩) nl cl2, .bool f2], .agg #[.int .u64 gv, .bool gd]]) rfl (by kernel_rfl) (by kernel_rfl) (by kernel_rfl) (fun _ _ _ h => h) ⟨by rfl, ?_⟩ hT4 ?_
            · rintro w hTw
              go_simp
            (try simp only [Act.put, List.getElem_toArray, List.getElem_cons_succ, List.getElem_cons_zero, List.setIfInBounds_toArray, List.set_cons_succ, List.set_cons_zero])
            refine wpTwo_takeT (i := 5) (v := .agg #[.slice (some ⟨gw2, 0, none⟩) nu cw2, .slice (some ⟨gl2, 0, none⟩) nl cl2, .bool f2]) rfl (by kernel_rfl) (by kernel_rfl) (by kernel_rfl) (fun _ _ _ h => h) ⟨by rfl, ?_⟩ hT4 ?_
            · rintro w hTw
              go_simp
            (try simp only [Act.put, List.getElem_toArray, List.getElem_cons_succ, List.getElem_cons_zero, List.setIfInBounds_toArray, List.set_cons_succ, List.set_cons_zero])
            refine wpTwo_takeT (i := 6) (v := .agg #[.int .u64 gv, .bool gd]) rfl (by kernel_rfl) (by kernel_rfl) (by kernel_rfl) (fun _ _ _ h => h) ⟨by rfl, ?_⟩ hT4 ?_
            · rintro w hTw
              go_simp
            (try simp only [Act.put, List.getElem_toArray, List.getElem_cons_succ, List.getElem_cons_zero, List.setIfInBounds_toArray, List.set_cons_succ, List.set_cons_zero])
            refine wpTwo_ready (rs := [9]) (by kernel_rfl) (by simp) ?_
            refine (AllTwo.cons rfl (fun K hK => ?_) AllTwo.nil)
            obtain ⟨⟨d0, d1, d2⟩, e0, e1, e2⟩ := mbox_cells HA4.out
            obtain ⟨Xa, hXa⟩ : ∃ X : World, X = ((X4.setCell ⟨y6, 0, none⟩ (.slice (some ⟨gw2, 0, none⟩) nu cw2)).setCell ⟨y6, 1, none⟩ (.slice (some ⟨gl2, 0, none⟩) nl cl2)).setCell ⟨y6, 2, none⟩ (.bool f2) := ⟨_, rfl⟩
            have hk : Keeps (fun q => q = y6) X4 Xa := by rw [hXa]; exact ((Keeps.setCell X4 (S := fun q => q = y6) (p := ⟨y6, 0, none⟩) rfl _).trans (Keeps.setCell _ (S := fun q => q = y6) (p := ⟨y6, 1, none⟩) rfl _)).trans (Keeps.setCell _ (S := fun q => q = y6) (p := ⟨y6, 2, none⟩) rfl _)
            have hTa := And.intro (hT4.1.keeps hk (fun e => by have e : z = y6 := e; omega)) (hT4.2.keeps hk (fun e => by have e : z + 1 = y6 := e; omega))
            have HMa := Lib.hid (HM4.out.keeps hk (fun e => by have e : z + 2 = y6 := e; omega))
            have HSa := Lib.hid (HS4.out.keeps hk (fun e => by have e : z + 3 = y6 := e; omega))
            have HGa := Lib.hid (HG4.out.keeps hk (fun e => hne67 e.symm))
            have HAa := Lib.hid (show MBox Xa y6 (.slice (some ⟨gw2, 0, none⟩) nu cw2) (.slice (some ⟨gl2, 0, none⟩) nl cl2) f2 by rw [hXa]; exact HA4.out.set _ _ _)
            have HRa := Lib.hid (rows_off HR4.out HA4.out hk)
            have HBa := Lib.hid (HB4.out.trans (hk.below HB4.out.size (fun q hq => by have e : q = y6 := hq; have := HZW.out; omega)))
            go_simp
            rw [← hXa]
            refine hK.out _ _ ⟨hTa, fun _ _ => trivial⟩ ?_
            clear hK K d0 d1 d2 e0 e1 e2 hXa hk
            (try simp only [Act.put, List.getElem_toArray, List.getElem_cons_succ, List.getElem_cons_zero, List.setIfInBounds_toArray, List.set_cons_succ, List.set_cons_zero])
            refine wpTwo_ready (rs := [10]) (by kernel_rfl) (by simp) ?_
            refine (AllTwo.cons rfl (fun K hK => ?_) AllTwo.nil)
            obtain ⟨d0, d1⟩ := HGa.out.cells
            have e0 := (gbox_cells HGa.out).2.1
            have e1 := (gbox_cells HGa.out).2.2
            obtain ⟨Xb, hXb⟩ : ∃ X : World, X = (Xa.setCell ⟨y7, 0, none⟩ (.int .u64 gv)).setCell ⟨y7, 1, none⟩ (.bool gd) := ⟨_, rfl⟩
            have hk : Keeps (fun q => q = y7) Xa Xb := by rw [hXb]; exact (Keeps.setCell Xa (S := fun q => q = y7) (p := ⟨y7, 0, none⟩) rfl _).trans (Keeps.setCell _ (S := fun q => q = y7) (p := ⟨y7, 1, none⟩) rfl _)
            have hTb := And.intro (hTa.1.keeps hk (fun e => by have e : z = y7 := e; omega)) (hTa.2.keeps hk (fun e => by have e : z + 1 = y7 := e; omega))
            have HMb := Lib.hid (HMa.out.keeps hk (fun e => by have e : z + 2 = y7 := e; omega))
            have HSb := Lib.hid (HSa.out.keeps hk (fun e => by have e : z + 3 = y7 := e; omega))
            have HAb := Lib.hid (HAa.out.keeps hk (fun e => hne67 e))
            have HGb := Lib.hid (show GBox Xb y7 gv gd by
              unfold GBox
              rw [hXb, heap_setCell_same _ y7 1 _ _ _ (heap_setCell_same Xa y7 0 _ _ _ HGa.out)]; rfl)
            have HRb := Lib.hid (rows_offG HRa.out HGa.out hk)
            have HBb := Lib.hid (HBa.out.trans (hk.below HBa.out.size (fun q hq => by have e : q = y7 := hq; have := HZW.out; omega)))
            go_simp
            rw [← hXb]
            refine hK.out _ _ ⟨hTb, fun _ _ => trivial⟩ ?_
            clear hK K d0 d1 e0 e1 hXb hk
            (try simp only [Act.put, List.getElem_toArray, List.getElem_cons_succ, List.getElem_cons_zero, List.setIfInBounds_toArray, List.set_cons_succ, List.set_cons_zero])
            refine wpTwo_end (by kernel_rfl) ?_ _
            go_wp2
            go_meet
            exact ⟨y6, y7, gw2, cw2, gl2, cl2, rfl, rfl, hlo7, hlo8, Lib.hid ⟨hTb.2, HMb.out, HSb.out, HAb.out, HGb.out, HRb.out, HBb.out⟩⟩
    · go_simp
      obtain ⟨y7, hy⟩ : ∃ q, q = X0.heap.size := ⟨_, rfl⟩
      obtain ⟨X1, hX⟩ : ∃ X : World, X = X0.alloc (.cells #[.int .u64 0, .bool false] 36) := ⟨_, rfl⟩
      rw [← hX, ← hy]
      have hb : Below X0.heap.size X0 X1 := by rw [hX]; exact below1 _ _
      have hlo8 : z + 4 ≤ y7 := by have h1 := HS0.out.lt; omega
      have hT1 := And.intro (hT0.1.below hb) (hT0.2.below hb)
      have HM1 := Lib.hid (HM0.out.below hb)
      have HS1 := Lib.hid (HS0.out.below hb)
      have HB1 := Lib.hid (below_then HB0.out HB0.out.size hb)
      have HR1 := Lib.hid (And.intro (owns_below HR0.out.1 hb) (owns_below HR0.out.2 hb))
      have HG1 := Lib.hid (show GBox X1 y7 0 false by rw [hX, hy]; exact World.alloc_heap_new _ _)
      clear hb hX hy
      refine hK.out _ _ ⟨hT1, fun _ _ => trivial⟩ ?_
      clear hK K
      (try simp only [Act.put, List.getElem_toArray, List.getElem_cons_succ, List.getElem_cons_zero, List.setIfInBounds_toArray, List.set_cons_succ, List.set_cons_zero])
      refine wpTwo_ready (rs := [2, 7]) (by kernel_rfl) (by simp) ?_
      refine (AllTwo.cons rfl (fun K hK => ?_) (AllTwo.cons rfl (fun K hK => ?_) AllTwo.nil))
      · go_simp
        refine (HRN.out X1).mono ?_
        rintro e X2 ⟨rfl, hb⟩
        have hT2 := And.intro (hT1.1.below hb) (hT1.2.below hb)
        have HM2 := Lib.hid (HM1.out.below hb)
        have HS2 := Lib.hid (HS1.out.below hb)
        have HB2 := Lib.hid (below_then HB1.out HB1.out.size hb)
        have HG2 := Lib.hid (HG1.out.below hb)
        have HR2 := Lib.hid (And.intro (owns_below HR1.out.1 hb) (owns_below HR1.out.2 hb))
        clear hb
        go_wp2_with fail
        refine hK.out _ _ ⟨hT2, fun _ _ => trivial⟩ ?_
        clear hK K
        (try simp only [Act.put, List.getElem_toArray, List.getElem_cons_succ, List.getElem_cons_zero, List.setIfInBounds_toArray, List.set_cons_succ, List.set_cons_zero])
        refine wpTwo_ready (rs := [3, 7]) (by kernel_rfl) (by simp) ?_
        refine (AllTwo.cons rfl (fun K hK => ?_) (AllTwo.cons rfl (fun K hK => ?_) AllTwo.nil))
        · go_simp
          refine (HSTP.out X2 HR2.out (Nat.le_trans hB HB2.out.size)).mono ?_
          rintro e X3 ⟨⟨gw2, cw2, gl2, cl2, rfl, hR⟩, hb⟩
          have hT3 := And.intro (hT2.1.below hb) (hT2.2.below hb)
          have HM3 := Lib.hid (HM2.out.below hb)
          have HS3 := Lib.hid (HS2.out.below hb)
          have HB3 := Lib.hid (below_then HB2.out HB2.out.size hb)
          have HG3 := Lib.hid (HG2.out.below hb)
          have HR3 := Lib.hid hR
          clear hb hR
          go_wp2_with fail
          refine hK.out _ _ ⟨hT3, fun _ _ => trivial⟩ ?_
          clear hK K
          (try simp only [Act.put, List.getElem_toArray, List.getElem_cons_succ, List.getElem_cons_zero, List.setIfInBounds_toArray, List.set_cons_succ, List.set_cons_zero])
          refine wpTwo_takeT (i := 4) (v := .tuple #[.agg #[.slice (some ⟨gw2, 0, none⟩) nu cw2, .slice (some ⟨gl2, 0, none⟩) nl cl2, .bool f2], .agg #[.int .u64 gv, .bool gd]]) rfl (by kernel_rfl) (by kernel_rfl) (by kernel_rfl) (fun _ _ _ h => h) ⟨by rfl, ?_⟩ hT3 ?_
          · rintro w hTw
            go_simp
          (try simp only [Act.put, List.getElem_toArray, List.getElem_cons_succ, List.getElem_cons_zero, List.setIfInBounds_toArray, List.set_cons_succ, List.set_cons_zero])
          refine wpTwo_takeT (i := 5) (v := .agg #[.slice (some ⟨gw2, 0, none⟩) nu cw2, .slice (some ⟨gl2, 0, none⟩) nl cl2, .bool f2]) rfl (by kernel_rfl) (by kernel_rfl) (by kernel_rfl) (fun _ _ _ h => h) ⟨by rfl, ?_⟩ hT3 ?_
          · rintro w hTw
            go_simp
          (try simp only [Act.put, List.getElem_toArray, List.getElem_cons_succ, List.getElem_cons_zero, List.setIfInBounds_toArray, List.set_cons_succ, List.set_cons_zero])
          refine wpTwo_takeT (i := 6) (v := .agg #[.int .u64 gv, .bool gd]) rfl (by kernel_rfl) (by kernel_rfl) (by kernel_rfl) (fun _ _ _ h => h) ⟨by rfl, ?_⟩ hT3 ?_
          · rintro w hTw
            go_simp
          (try simp only [Act.put, List.getElem_toArray, List.getElem_cons_succ, List.getElem_cons_zero, List.setIfInBounds_toArray, List.set_cons_succ, List.set_cons_zero])
          refine wpTwo_ready (rs := [7]) (by kernel_rfl) (by simp) ?_
          refine (AllTwo.cons rfl (fun K hK => ?_) AllTwo.nil)
          · go_simp
            obtain ⟨y6, hy⟩ : ∃ q, q = X3.heap.size := ⟨_, rfl⟩
            obtain ⟨X4, hX⟩ : ∃ X : World, X = X3.alloc (.cells #[.slice none 0 0, .slice none 0 0, .bool false] 46) := ⟨_, rfl⟩
            rw [← hX, ← hy]
            have hb : Below X3.heap.size X3 X4 := by rw [hX]; exact below1 _ _
            have hlo7 : z + 4 ≤ y6 := by have h1 := HS3.out.lt; omega
            have hT4 := And.intro (hT3.1.below hb) (hT3.2.below hb)
            have HM4 := Lib.hid (HM3.out.below hb)
            have HS4 := Lib.hid (HS3.out.below hb)
            have HB4 := Lib.hid (below_then HB3.out HB3.out.size hb)
            have HG4 := Lib.hid (HG3.out.below hb)
            have HR4 := Lib.hid (And.intro (owns_below HR3.out.1 hb) (owns_below HR3.out.2 hb))
            have HA4 := Lib.hid (show MBox X4 y6 (.slice none 0 0) (.slice none 0 0) false by rw [hX, hy]; exact MBox.new _ _ _ _)
            have hne67 : y6 ≠ y7 := by have h1 := HG3.out.lt; omega
            clear hb hX hy
            refine hK.out _ _ ⟨hT4, fun _ _ => trivial⟩ ?_
            clear hK K
            (try simp only [Act.put, List.getElem_toArray, List.getElem_cons_succ, List.getElem_cons_zero, List.setIfInBounds_toArray, List.set_cons_succ, List.set_cons_zero])
            refine wpTwo_ready (rs := [9]) (by kernel_rfl) (by simp) ?_
            refine (AllTwo.cons rfl (fun K hK => ?_) AllTwo.nil)
            obtain ⟨⟨d0, d1, d2⟩, e0, e1, e2⟩ := mbox_cells HA4.out
            obtain ⟨Xa, hXa⟩ : ∃ X : World, X = ((X4.setCell ⟨y6, 0, none⟩ (.slice (some ⟨gw2, 0, none⟩) nu cw2)).setCell ⟨y6, 1, none⟩ (.slice (some ⟨gl2, 0, none⟩) nl cl2)).setCell ⟨y6, 2, none⟩ (.bool f2) := ⟨_, rfl⟩
            have hk : Keeps (fun q => q = y6) X4 Xa := by rw [hXa]; exact ((Keeps.setCell X4 (S := fun q => q = y6) (p := ⟨y6, 0, none⟩) rfl _).trans (Keeps.setCell _ (S := fun q => q = y6) (p := ⟨y6, 1, none⟩) rfl _)).trans (Keeps.setCell _ (S := fun q => q = y6) (p := ⟨y6, 2, none⟩) rfl _)
            have hTa := And.intro (hT4.1.keeps hk (fun e => by have e : z = y6 := e; omega)) (hT4.2.keeps hk (fun e => by have e : z + 1 = y6 := e; omega))
            have HMa := Lib.hid (HM4.out.keeps hk (fun e => by have e : z + 2 = y6 := e; omega))
            have HSa := Lib.hid (HS4.out.keeps hk (fun e => by have e : z + 3 = y6 := e; omega))
            have HGa := Lib.hid (HG4.out.keeps hk (fun e => hne67 e.symm))
            have HAa := Lib.hid (show MBox Xa y6 (.slice (some ⟨gw2, 0, none⟩) nu cw2) (.slice (some ⟨gl2, 0, none⟩) nl cl2) f2 by rw [hXa]; exact HA4.out.set _ _ _)
            have HRa := Lib.hid (rows_off HR4.out HA4.out hk)
            have HBa := Lib.hid (HB4.out.trans (hk.below HB4.out.size (fun q hq => by have e : q = y6 := hq; have := HZW.out; omega)))
            go_simp
            rw [← hXa]
            refine hK.out _ _ ⟨hTa, fun _ _ => trivial⟩ ?_
            clear hK K d0 d1 d2 e0 e1 e2 hXa hk
            (try simp only [Act.put, List.getElem_toArray, List.getElem_cons_succ, List.getElem_cons_zero, List.setIfInBounds_toArray, List.set_cons_succ, List.set_cons_zero])
            refine wpTwo_ready (rs := [10]) (by kernel_rfl) (by simp) ?_
            refine (AllTwo.cons rfl (fun K hK => ?_) AllTwo.nil)
            obtain ⟨d0, d1⟩ := HGa.out.cells
            have e0 := (gbox_cells HGa.out).2.1
            have e1 := (gbox_cells HGa.out).2.2
            obtain ⟨Xb, hXb⟩ : ∃ X : World, X = (Xa.setCell ⟨y7, 0, none⟩ (.int .u64 gv)).setCell ⟨y7, 1, none⟩ (.bool gd) := ⟨_, rfl⟩
            have hk : Keeps (fun q => q = y7) Xa Xb := by rw [hXb]; exact (Keeps.setCell Xa (S := fun q => q = y7) (p := ⟨y7, 0, none⟩) rfl _).trans (Keeps.setCell _ (S := fun q => q = y7) (p := ⟨y7, 1, none⟩) rfl _)
            have hTb := And.intro (hTa.1.keeps hk (fun e => by have e : z = y7 := e; omega)) (hTa.2.keeps hk (fun e => by have e : z + 1 = y7 := e; omega))
            have HMb := Lib.hid (HMa.out.keeps hk (fun e => by have e : z + 2 = y7 := e; omega))
            have HSb := Lib.hid (HSa.out.keeps hk (fun e => by have e : z + 3 = y7 := e; omega))
            have HAb := Lib.hid (HAa.out.keeps hk (fun e => hne67 e))
            have HGb := Lib.hid (show GBox Xb y7 gv gd by
              unfold GBox
              rw [hXb, heap_setCell_same _ y7 1 _ _ _ (heap_setCell_same Xa y7 0 _ _ _ HGa.out)]; rfl)
            have HRb := Lib.hid (rows_offG HRa.out HGa.out hk)
            have HBb := Lib.hid (HBa.out.trans (hk.below HBa.out.size (fun q hq => by have e : q = y7 := hq; have := HZW.out; omega)))
            go_simp
            rw [← hXb]
            refine hK.out _ _ ⟨hTb, fun _ _ => trivial⟩ ?_
            clear hK K d0 d1 e0 e1 hXb hk
            (try simp only [Act.put, List.getElem_toArray, List.getElem_cons_succ, List.getElem_cons_zero, List.setIfInBounds_toArray, List.set_cons_succ, List.set_cons_zero])
            refine wpTwo_end (by kernel_rfl) ?_ _
            go_wp2
            go_meet
            exact ⟨y6, y7, gw2, cw2, gl2, cl2, rfl, rfl, hlo7, hlo8, Lib.hid ⟨hTb.2, HMb.out, HSb.out, HAb.out, HGb.out, HRb.out, HBb.out⟩⟩
        · go_simp
          obtain ⟨y6, hy⟩ : ∃ q, q = X2.heap.size := ⟨_, rfl⟩
          obtain ⟨X3, hX⟩ : ∃ X : World, X = X2.alloc (.cells #[.slice none 0 0, .slice none 0 0, .bool false] 46) := ⟨_, rfl⟩
          rw [← hX, ← hy]
          have hb : Below X2.heap.size X2 X3 := by rw [hX]; exact below1 _ _
          have hlo7 : z + 4 ≤ y6 := by have h1 := HS2.out.lt; omega
          have hT3 := And.intro (hT2.1.below hb) (hT2.2.below hb)
          have HM3 := Lib.hid (HM2.out.below hb)
          have HS3 := Lib.hid (HS2.out.below hb)
          have HB3 := Lib.hid (below_then HB2.out HB2.out.size hb)
          have HG3 := Lib.hid (HG2.out.below hb)
          have HR3 := Lib.hid (And.intro (owns_below HR2.out.1 hb) (owns_below HR2.out.2 hb))
          have HA3 := Lib.hid (show MBox X3 y6 (.slice none 0 0) (.slice none 0 0) false by rw [hX, hy]; exact MBox.new _ _ _ _)
          have hne67 : y6 ≠ y7 := by have h1 := HG2.out.lt; omega
          clear hb hX hy
          refine hK.out _ _ ⟨hT3, fun _ _ => trivial⟩ ?_
          clear hK K
          (try simp only [Act.put, List.getElem_toArray, List.getElem_cons_succ, List.getElem_cons_zero, List.setIfInBounds_toArray, List.set_cons_succ, List.set_cons_zero])
          refine wpTwo_ready (rs := [3]) (by kernel_rfl) (by simp) ?_
          refine (AllTwo.cons rfl (fun K hK => ?_) AllTwo.nil)
          · go_simp
            refine (HSTP.out X3 HR3.out (Nat.le_trans hB HB3.out.size)).mono ?_
            rintro e X4 ⟨⟨gw2, cw2, gl2, cl2, rfl, hR⟩, hb⟩
            have hT4 := And.intro (hT3.1.below hb) (hT3.2.below hb)
            have HM4 := Lib.hid (HM3.out.below hb)
            have HS4 := Lib.hid (HS3.out.below hb)
            have HB4 := Lib.hid (below_then HB3.out HB3.out.size hb)
            have HA4 := Lib.hid (HA3.out.below hb)
            have HG4 := Lib.hid (HG3.out.below hb)
            have HR4 := Lib.hid hR
            clear hb hR
            go_wp2_with fail
            refine hK.out _ _ ⟨hT4, fun _ _ => trivial⟩ ?_
            clear hK K
            (try simp only [Act.put, List.getElem_toArray, List.getElem_cons_succ, List.getElem_cons_zero, List.setIfInBounds_toArray, List.set_cons_succ, List.set_cons_zero])
            refine wpTwo_takeT (i := 4) (v := .tuple #[.agg #[.slice (some ⟨gw2, 0, none⟩) nu cw2, .slice (some ⟨gl2, 0, none⟩) nl cl2, .bool f2], .agg #[.int .u64 gv, .bool gd]]) rfl (by kernel_rfl) (by kernel_rfl) (by kernel_rfl) (fun _ _ _ h => h) ⟨by rfl, ?_⟩ hT4 ?_
            · rintro w hTw
              go_simp
            (try simp only [Act.put, List.getElem_toArray, List.getElem_cons_succ, List.getElem_cons_zero, List.setIfInBounds_toArray, List.set_cons_succ, List.set_cons_zero])
            refine wpTwo_takeT (i := 5) (v := .agg #[.slice (some ⟨gw2, 0, none⟩) nu cw2, .slice (some ⟨gl2, 0, none⟩) nl cl2, .bool f2]) rfl (by kernel_rfl) (by kernel_rfl) (by kernel_rfl) (fun _ _ _ h => h) ⟨by rfl, ?_⟩ hT4 ?_
            · rintro w hTw
              go_simp
            (try simp only [Act.put, List.getElem_toArray, List.getElem_cons_succ, List.getElem_cons_zero, List.setIfInBounds_toArray, List.set_cons_succ, List.set_cons_zero])
            refine wpTwo_takeT (i := 6) (v := .agg #[.int .u64 gv, .bool gd]) rfl (by kernel_rfl) (by kernel_rfl) (by kernel_rfl) (fun _ _ _ h => h) ⟨by rfl, ?_⟩ hT4 ?_
            · rintro w hTw
              go_simp
            (try simp only [Act.put, List.getElem_toArray, List.getElem_cons_succ, List.getElem_cons_zero, List.setIfInBounds_toArray, List.set_cons_succ, List.set_cons_zero])
            refine wpTwo_ready (rs := [9]) (by kernel_rfl) (by simp) ?_
            refine (AllTwo.cons rfl (fun K hK => ?_) AllTwo.nil)
            obtain ⟨⟨d0, d1, d2⟩, e0, e1, e2⟩ := mbox_cells HA4.out
            obtain ⟨Xa, hXa⟩ : ∃ X : World, X = ((X4.setCell ⟨y6, 0, none⟩ (.slice (some ⟨gw2, 0, none⟩) nu cw2)).setCell ⟨y6, 1, none⟩ (.slice (some ⟨gl2, 0, none⟩) nl cl2)).setCell ⟨y6, 2, none⟩ (.bool f2) := ⟨_, rfl⟩
            have hk : Keeps (fun q => q = y6) X4 Xa := by rw [hXa]; exact ((Keeps.setCell X4 (S := fun q => q = y6) (p := ⟨y6, 0, none⟩) rfl _).trans (Keeps.setCell _ (S := fun q => q = y6) (p := ⟨y6, 1, none⟩) rfl _)).trans (Keeps.setCell _ (S := fun q => q = y6) (p := ⟨y6, 2, none⟩) rfl _)
            have hTa := And.intro (hT4.1.keeps hk (fun e => by have e : z = y6 := e; omega)) (hT4.2.keeps hk (fun e => by have e : z + 1 = y6 := e; omega))
            have HMa := Lib.hid (HM4.out.keeps hk (fun e => by have e : z + 2 = y6 := e; omega))
            have HSa := Lib.hid (HS4.out.keeps hk (fun e => by have e : z + 3 = y6 := e; omega))
            have HGa := Lib.hid (HG4.out.keeps hk (fun e => hne67 e.symm))
            have HAa := Lib.hid (show MBox Xa y6 (.slice (some ⟨gw2, 0, none⟩) nu cw2) (.slice (some ⟨gl2, 0, none⟩) nl cl2) f2 by rw [hXa]; exact HA4.out.set _ _ _)
            have HRa := Lib.hid (rows_off HR4.out HA4.out hk)
            have HBa := Lib.hid (HB4.out.trans (hk.below HB4.out.size (fun q hq => by have e : q = y6 := hq; have := HZW.out; omega)))
            go_simp
            rw [← hXa]
            refine hK.out _ _ ⟨hTa, fun _ _ => trivial⟩ ?_
            clear hK K d0 d1 d2 e0 e1 e2 hXa hk
            (try simp only [Act.put, List.getElem_toArray, List.getElem_cons_succ, List.getElem_cons_zero, List.setIfInBounds_toArray, List.set_cons_succ, List.set_cons_zero])
            refine wpTwo_ready (rs := [10]) (by kernel_rfl) (by simp) ?_
            refine (AllTwo.cons rfl (fun K hK => ?_) AllTwo.nil)
            obtain ⟨d0, d1⟩ := HGa.out.cells
            have e0 := (gbox_cells HGa.out).2.1
            have e1 := (gbox_cells HGa.out).2.2
            obtain ⟨Xb, hXb⟩ : ∃ X : World, X = (Xa.setCell ⟨y7, 0, none⟩ (.int .u64 gv)).setCell ⟨y7, 1, none⟩ (.bool gd) := ⟨_, rfl⟩
            have hk : Keeps (fun q => q = y7) Xa Xb := by rw [hXb]; exact (Keeps.setCell Xa (S := fun q => q = y7) (p := ⟨y7, 0, none⟩) rfl _).trans (Keeps.setCell _ (S := fun q => q = y7) (p := ⟨y7, 1, none⟩) rfl _)
            have hTb := And.intro (hTa.1.keeps hk (fun e => by have e : z = y7 := e; omega)) (hTa.2.keeps hk (fun e => by have e : z + 1 = y7 := e; omega))
            have HMb := Lib.hid (HMa.out.keeps hk (fun e => by have e : z + 2 = y7 := e; omega))
            have HSb := Lib.hid (HSa.out.keeps hk (fun e => by have e : z + 3 = y7 := e; omega))
            have HAb := Lib.hid (HAa.out.keeps hk (fun e => hne67 e))
            have HGb := Lib.hid (show GBox Xb y7 gv gd by
              unfold GBox
              rw [hXb, heap_setCell_same _ y7 1 _ _ _ (heap_setCell_same Xa y7 0 _ _ _ HGa.out)]; rfl)
            have HRb := Lib.hid (rows_offG HRa.out HGa.out hk)
            have HBb := Lib.hid (HBa.out.trans (hk.below HBa.out.size (fun q hq => by have e : q = y7 := hq; have := HZW.out; omega)))
            go_simp
            rw [← hXb]
            refine hK.out _ _ ⟨hTb, fun _ _ => trivial⟩ ?_
            clear hK K d0 d1 e0 e1 hXb hk
            (try simp only [Act.put, List.getElem_toArray, List.getElem_cons_succ, List.getElem_cons_zero, List.setIfInBounds_toArray, List.set_cons_succ, List.set_cons_zero])
            refine wpTwo_end (by kernel_rfl) ?_ _
            go_wp2
            go_meet
            exact ⟨y6, y7, gw2, cw2, gl2, cl2, rfl, rfl, hlo7, hlo8, Lib.hid ⟨hTb.2, HMb.out, HSb.out, HAb.out, HGb.out, HRb.out, HBb.out⟩⟩
      · go_simp
        obtain ⟨y6, hy⟩ : ∃ q, q = X1.heap.size := ⟨_, rfl⟩
        obtain ⟨X2, hX⟩ : ∃ X : World, X = X1.alloc (.cells #[.slice none 0 0, .slice none 0 0, .bool false] 46) := ⟨_, rfl⟩
        rw [← hX, ← hy]
        have hb : Below X1.heap.size X1 X2 := by rw [hX]; exact below1 _ _
        have hlo7 : z + 4 ≤ y6 := by have h1 := HS1.out.lt; omega
        have hT2 := And.intro (hT1.1.below hb) (hT1.2.below hb)
        have HM2 := Lib.hid (HM1.out.below hb)
        have HS2 := Lib.hid (HS1.out.below hb)
        have HB2 := Lib.hid (below_then HB1.out HB1.out.size hb)
        have HG2 := Lib.hid (HG1.out.below hb)
        have HR2 := Lib.hid (And.intro (owns_below HR1.out.1 hb) (owns_below HR1.out.2 hb))
        have HA2 := Lib.hid (show MBox X2 y6 (.slice none 0 0) (.slice none 0 0) false by rw [hX, hy]; exact MBox.new _ _ _ _)
        have hne67 : y6 ≠ y7 := by have h1 := HG1.out.lt; omega
        clear hb hX hy
        refine hK.out _ _ ⟨hT2, fun _ _ => trivial⟩ ?_
        clear hK K
        (try simp only [Act.put, List.getElem_toArray, List.getElem_cons_succ, List.getElem_cons_zero, List.setIfInBounds_toArray, List.set_cons_succ, List.set_cons_zero])
        refine wpTwo_ready (rs := [2]) (by kernel_rfl) (by simp) ?_
        refine (AllTwo.cons rfl (fun K hK => ?_) AllTwo.nil)
        · go_simp
          refine (HRN.out X2).mono ?_
          rintro e X3 ⟨rfl, hb⟩
          have hT3 := And.intro (hT2.1.below hb) (hT2.2.below hb)
          have HM3 := Lib.hid (HM2.out.below hb)
          have HS3 := Lib.hid (HS2.out.below hb)
          have HB3 := Lib.hid (below_then HB2.out HB2.out.size hb)
          have HA3 := Lib.hid (HA2.out.below hb)
          have HG3 := Lib.hid (HG2.out.below hb)
          have HR3 := Lib.hid (And.intro (owns_below HR2.out.1 hb) (owns_below HR2.out.2 hb))
          clear hb
          go_wp2_with fail
          refine hK.out _ _ ⟨hT3, fun _ _ => trivial⟩ ?_
          clear hK K
          (try simp only [Act.put, List.getElem_toArray, List.getElem_cons_succ, List.getElem_cons_zero, List.setIfInBounds_toArray, List.set_cons_succ, List.set_cons_zero])
          refine wpTwo_ready (rs := [3]) (by kernel_rfl) (by simp) ?_
          refine (AllTwo.cons rfl (fun K hK => ?_) AllTwo.nil)
          · go_simp
            refine (HSTP.out X3 HR3.out (Nat.le_trans hB HB3.out.size)).mono ?_
            rintro e X4 ⟨⟨gw2, cw2, gl2, cl2, rfl, hR⟩, hb⟩
            have hT4 := And.intro (hT3.1.below hb) (hT3.2.below hb)
            have HM4 := Lib.hid (HM3.out.below hb)
            have HS4 := Lib.hid (HS3.out.below hb)
            have HB4 := Lib.hid (below_then HB3.out HB3.out.size hb)
            have HA4 := Lib.hid (HA3.out.below hb)
            have HG4 := Lib.hid (HG3.out.below hb)
            have HR4 := Lib.hid hR
            clear hb hR
            go_wp2_with fail
            refine hK.out _ _ ⟨hT4, fun _ _ => trivial⟩ ?_
            clear hK K
            (try simp only [Act.put, List.getElem_toArray, List.getElem_cons_succ, List.getElem_cons_zero, List.setIfInBounds_toArray, List.set_cons_succ, List.set_cons_zero])
            refine wpTwo_takeT (i := 4) (v := .tuple #[.agg #[.slice (some ⟨gw2, 0, none⟩) nu cw2, .slice (some ⟨gl2, 0, none⟩) nl cl2, .bool f2], .agg #[.int .u64 gv, .bool gd]]) rfl (by kernel_rfl) (by kernel_rfl) (by kernel_rfl) (fun _ _ _ h => h) ⟨by rfl, ?_⟩ hT4 ?_
            · rintro w hTw
              go_simp
            (try simp only [Act.put, List.getElem_toArray, List.getElem_cons_succ, List.getElem_cons_zero, List.setIfInBounds_toArray, List.set_cons_succ, List.set_cons_zero])
            refine wpTwo_takeT (i := 5) (v := .agg #[.slice (some ⟨gw2, 0, none⟩) nu cw2, .slice (some ⟨gl2, 0, none⟩) nl cl2, .bool f2]) rfl (by kernel_rfl) (by kernel_rfl) (by kernel_rfl) (fun _ _ _ h => h) ⟨by rfl, ?_⟩ hT4 ?_
            · rintro w hTw
              go_simp
            (try simp only [Act.put, List.getElem_toArray, List.getElem_cons_succ, List.getElem_cons_zero, List.setIfInBounds_toArray, List.set_cons_succ, List.set_cons_zero])
            refine wpTwo_takeT (i := 6) (v := .agg #[.int .u64 gv, .bool gd]) rfl (by kernel_rfl) (by kernel_rfl) (by kernel_rfl) (fun _ _ _ h => h) ⟨by rfl, ?_⟩ hT4 ?_
            · rintro w hTw
              go_simp
            (try simp only [Act.put, List.getElem_toArray, List.getElem_cons_succ, List.getElem_cons_zero, List.setIfInBounds_toArray, List.set_cons_succ, List.set_cons_zero])
            refine wpTwo_ready (rs := [9]) (by kernel_rfl) (by simp) ?_
            refine (AllTwo.cons rfl (fun K hK => ?_) AllTwo.nil)
            obtain ⟨⟨d0, d1, d2⟩, e0, e1, e2⟩ := mbox_cells HA4.out
            obtain ⟨Xa, hXa⟩ : ∃ X : World, X = ((X4.setCell ⟨y6, 0, none⟩ (.slice (some ⟨gw2, 0, none⟩) nu cw2)).setCell ⟨y6, 1, none⟩ (.slice (some ⟨gl2, 0, none⟩) nl cl2)).setCell ⟨y6, 2, none⟩ (.bool f2) := ⟨_, rfl⟩
            have hk : Keeps (fun q => q = y6) X4 Xa := by rw [hXa]; exact ((Keeps.setCell X4 (S := fun q => q = y6) (p := ⟨y6, 0, none⟩) rfl _).trans (Keeps.setCell _ (S := fun q => q = y6) (p := ⟨y6, 1, none⟩) rfl _)).trans (Keeps.setCell _ (S := fun q => q = y6) (p := ⟨y6, 2, none⟩) rfl _)
            have hTa := And.intro (hT4.1.keeps hk (fun e => by have e : z = y6 := e; omega)) (hT4.2.keeps hk (fun e => by have e : z + 1 = y6 := e; omega))
            have HMa := Lib.hid (HM4.out.keeps hk (fun e => by have e : z + 2 = y6 := e; omega))
            have HSa := Lib.hid (HS4.out.keeps hk (fun e => by have e : z + 3 = y6 := e; omega))
            have HGa := Lib.hid (HG4.out.keeps hk (fun e => hne67 e.symm))
            have HAa := Lib.hid (show MBox Xa y6 (.slice (some ⟨gw2, 0, none⟩) nu cw2) (.slice (some ⟨gl2, 0, none⟩) nl cl2) f2 by rw [hXa]; exact HA4.out.set _ _ _)
            have HRa := Lib.hid (rows_off HR4.out HA4.out hk)
            have HBa := Lib.hid (HB4.out.trans (hk.below HB4.out.size (fun q hq => by have e : q = y6 := hq; have := HZW.out; omega)))
            go_simp
            rw [← hXa]
            refine hK.out _ _ ⟨hTa, fun _ _ => trivial⟩ ?_
            clear hK K d0 d1 d2 e0 e1 e2 hXa hk
            (try simp only [Act.put, List.getElem_toArray, List.getElem_cons_succ, List.getElem_cons_zero, List.setIfInBounds_toArray, List.set_cons_succ, List.set_cons_zero])
            refine wpTwo_ready (rs := [10]) (by kernel_rfl) (by simp) ?_
            refine (AllTwo.cons rfl (fun K hK => ?_) AllTwo.nil)
            obtain ⟨d0, d1⟩ := HGa.out.cells
            have e0 := (gbox_cells HGa.out).2.1
            have e1 := (gbox_cells HGa.out).2.2
            obtain ⟨Xb, hXb⟩ : ∃ X : World, X = (Xa.setCell ⟨y7, 0, none⟩ (.int .u64 gv)).setCell ⟨y7, 1, none⟩ (.bool gd) := ⟨_, rfl⟩
            have hk : Keeps (fun q => q = y7) Xa Xb := by rw [hXb]; exact (Keeps.setCell Xa (S := fun q => q = y7) (p := ⟨y7, 0, none⟩) rfl _).trans (Keeps.setCell _ (S := fun q => q = y7) (p := ⟨y7, 1, none⟩) rfl _)
            have hTb := And.intro (hTa.1.keeps hk (fun e => by have e : z = y7 := e; omega)) (hTa.2.keeps hk (fun e => by have e : z + 1 = y7 := e; omega))
            have HMb := Lib.hid (HMa.out.keeps hk (fun e => by have e : z + 2 = y7 := e; omega))
            have HSb := Lib.hid (HSa.out.keeps hk (fun e => by have e : z + 3 = y7 := e; omega))
            have HAb := Lib.hid (HAa.out.keeps hk (fun e => hne67 e))
            have HGb := Lib.hid (show GBox Xb y7 gv gd by
              unfold GBox
              rw [hXb, heap_setCell_same _ y7 1 _ _ _ (heap_setCell_same Xa y7 0 _ _ _ HGa.out)]; rfl)
            have HRb := Lib.hid (rows_offG HRa.out HGa.out hk)
            have HBb := Lib.hid (HBa.out.trans (hk.below HBa.out.size (fun q hq => by have e : q = y7 := hq; have := HZW.out; omega)))
            go_simp
            rw [← hXb]
            refine hK.out _ _ ⟨hTb, fun _ _ => trivial⟩ ?_
            clear hK K d0 d1 e0 e1 hXb hk
            (try simp only [Act.put, List.getElem_toArray, List.getElem_cons_succ, List.getElem_cons_zero, List.setIfInBounds_toArray, List.set_cons_succ, List.set_cons_zero])
            refine wpTwo_end (by kernel_rfl) ?_ _
            go_wp2
            go_meet
            exact ⟨y6, y7, gw2, cw2, gl2, cl2, rfl, rfl, hlo7, hlo8, Lib.hid ⟨hTb.2, HMb.out, HSb.out, HAb.out, HGb.out, HRb.out, HBb.out⟩⟩
  case rest =>
  obtain ⟨y6, y7, gw2, cw2, gl2, cl2, rfl, rfl, hl6, hl7, HH⟩ := hcut
  obtain ⟨q1, q2, q3, q4, q5, q6, q7⟩ := HH.out
  clear HH
  go_upto_region 4 with (fail)
  refine wpTwo_begin (T := fun w' => MBox w' y6 (.slice (some ⟨gw2, 0, none⟩) nu cw2) (.slice (some ⟨gl2, 0, none⟩) nl cl2) f2 ∧ SpBox w' (z + 1) a p t ∧ GBox w' y7 gv gd) (S := fun _ => True) (late := fun j => [4, 5].contains j) (by kernel_rfl) ?_
  obtain ⟨X0, hX0⟩ : ∃ X : World, X = wc.drew := ⟨_, rfl⟩
  rw [← hX0]
  have hb : Below wc.heap.size wc X0 := by rw [hX0]; exact (Below.refl _ _).drew
  have hT0 := And.intro (q4.below hb) (And.intro (q1.below hb) (q5.below hb))
  have HM0 := Lib.hid (q2.below hb)
  have HS0 := Lib.hid (q3.below hb)
  have HR0 := Lib.hid (And.intro (owns_below q6.1 hb) (owns_below q6.2 hb))
  have HB0 := Lib.hid (below_then q7 q7.size hb)
  clear hX0 hb q1 q2 q3 q4 q5 q6 q7
  refine wpTwo_takeT (i := 0) (v := .agg #[.slice (some ⟨gw2, 0, none⟩) nu cw2, .slice (some ⟨gl2, 0, none⟩) nl cl2, .bool f2]) rfl (by kernel_rfl) (by kernel_rfl) (by kernel_rfl) (fun _ _ _ h => h) ⟨by rfl, ?_⟩ hT0 ?_
  · rintro w hTw
    obtain ⟨⟨t0, t1, t2⟩, _⟩ := mbox_cells hTw.1
    go_simp
  (try simp only [Act.put, List.getElem_toArray, List.getElem_cons_zero, List.setIfInBounds_toArray, List.set_cons_succ, List.set_cons_zero])
  refine wpTwo_takeT (i := 1) (v := .agg #[.int .i64 a, .int .i64 p, .int .u64 t]) rfl (by kernel_rfl) (by kernel_rfl) (by kernel_rfl) (fun _ _ _ h => h) ⟨by rfl, ?_⟩ hT0 ?_
  · rintro w hTw
    obtain ⟨t0, t1, t2⟩ := hTw.2.1.cells
    go_simp
  (try simp only [Act.put, List.getElem_toArray, List.getElem_cons_succ, List.getElem_cons_zero, List.setIfInBounds_toArray, List.set_cons_succ, List.set_cons_zero])
  refine wpTwo_takeT (i := 2) (v := .agg #[.int .u64 gv, .bool gd]) rfl (by kernel_rfl) (by kernel_rfl) (by kernel_rfl) (fun _ _ _ h => h) ⟨by rfl, ?_⟩ hT0 ?_
  · rintro w hTw
    obtain ⟨t0, t1⟩ := hTw.2.2.cells
    go_simp
  (try simp only [Act.put, List.getElem_toArray, List.getElem_cons_succ, List.getElem_cons_zero, List.setIfInBounds_toArray, List.set_cons_succ, List.set_cons_zero])
  refine wpTwo_ready (rs := [3]) (by kernel_rfl) (by simp) ?_
  refine (AllTwo.cons rfl (fun K hK => ?_) AllTwo.nil)
  go_simp
  refine (HTK.out X0).mono ?_
  rintro e X1 ⟨rfl, hb⟩
  have hT1 := And.intro (hT0.1.below hb) (And.intro (hT0.2.1.below hb) (hT0.2.2.below hb))
  have HM1 := Lib.hid (HM0.out.below hb)
  have HS1 := Lib.hid (HS0.out.below hb)
  have HR1 := Lib.hid (And.intro (owns_below HR0.out.1 hb) (owns_below HR0.out.2 hb))
  have HB1 := Lib.hid (below_then HB0.out HB0.out.size hb)
  clear hb
  go_wp2_with fail
  refine hK.out _ _ ⟨hT1, fun _ _ => trivial⟩ ?_
  clear hK K HM0 HS0 HR0 HB0 hT0
  (try simp only [Act.put, List.getElem_toArray, List.getElem_cons_succ, List.getElem_cons_zero, List.setIfInBounds_toArray, List.set_cons_succ, List.set_cons_zero])
  refine wpTwo_ready (rs := [4]) (by kernel_rfl) (by simp) ?_
  refine (AllTwo.cons rfl (fun K hK => ?_) AllTwo.nil)
  obtain ⟨⟨d0, d1, d2⟩, e0, e1, e2⟩ := mbox_cells HM1.out
  obtain ⟨X2, hX2⟩ : ∃ X : World, X = ((X1.setCell ⟨z + 1 + 1, 0, none⟩ (.slice (some ⟨gw2, 0, none⟩) nu cw2)).setCell ⟨z + 1 + 1, 1, none⟩ (.slice (some ⟨gl2, 0, none⟩) nl cl2)).setCell ⟨z + 1 + 1, 2, none⟩ (.bool f2) := ⟨_, rfl⟩
  have hk : Keeps (fun q => q = z + 2) X1 X2 := by rw [hX2]; exact ((Keeps.setCell X1 (S := fun q => q = z + 2) (p := ⟨z + 2, 0, none⟩) rfl _).trans (Keeps.setCell _ (S := fun q => q = z + 2) (p := ⟨z + 2, 1, none⟩) rfl _)).trans (Keeps.setCell _ (S := fun q => q = z + 2) (p := ⟨z + 2, 2, none⟩) rfl _)
  have hT2 := And.intro (hT1.1.keeps hk (fun e => by have e : y6 = z + 2 := e; omega)) (And.intro (hT1.2.1.keeps hk (fun e => by have e : z + 1 = z + 2 := e; omega)) (hT1.2.2.keeps hk (fun e => by have e : y7 = z + 2 := e; omega)))
  have HM2 := Lib.hid (show MBox X2 (z + 2) (.slice (some ⟨gw2, 0, none⟩) nu cw2) (.slice (some ⟨gl2, 0, none⟩) nl cl2) f2 by rw [hX2]; exact HM1.out.set _ _ _)
  have HS2 := Lib.hid (HS1.out.keeps hk (fun e => by have e : z + 3 = z + 2 := e; omega))
  have HR2 := Lib.hid (rows_off HR1.out HM1.out hk)
  have HB2 := Lib.hid (HB1.out.trans (hk.below HB1.out.size (fun q hq => by have e : q = z + 2 := hq; have := HZW.out; omega)))
  go_simp
  rw [← hX2]
  refine hK.out _ _ ⟨hT2, fun _ _ => trivial⟩ ?_
  clear hK K d0 d1 d2 e0 e1 e2 hX2 hk HM1 HS1 HR1 HB1 hT1
  (try simp only [Act.put, List.getElem_toArray, List.getElem_cons_succ, List.getElem_cons_zero, List.setIfInBounds_toArray, List.set_cons_succ, List.set_cons_zero])
  refine wpTwo_ready (rs := [5]) (by kernel_rfl) (by simp) ?_
  refine (AllTwo.cons rfl (fun K hK => ?_) AllTwo.nil)
  obtain ⟨d0, d1, d2⟩ := HS2.out.cells
  have e0 := HS2.out.free 0
  have e1 := HS2.out.free 1
  have e2 := HS2.out.free 2
  obtain ⟨X3, hX3⟩ : ∃ X : World, X = ((X2.setCell ⟨z + 1 + 1 + 1, 0, none⟩ (.int .i64 a2)).setCell ⟨z + 1 + 1 + 1, 1, none⟩ (.int .i64 p2)).setCell ⟨z + 1 + 1 + 1, 2, none⟩ (.int .u64 t2) := ⟨_, rfl⟩
  have hk : Keeps (fun q => q = z + 3) X2 X3 := by rw [hX3]; exact ((Keeps.setCell X2 (S := fun q => q = z + 3) (p := ⟨z + 3, 0, none⟩) rfl _).trans (Keeps.setCell _ (S := fun q => q = z + 3) (p := ⟨z + 3, 1, none⟩) rfl _)).trans (Keeps.setCell _ (S := fun q => q = z + 3) (p := ⟨z + 3, 2, none⟩) rfl _)
  have hT3 := And.intro (hT2.1.keeps hk (fun e => by have e : y6 = z + 3 := e; omega)) (And.intro (hT2.2.1.keeps hk (fun e => by have e : z + 1 = z + 3 := e; omega)) (hT2.2.2.keeps hk (fun e => by have e : y7 = z + 3 := e; omega)))
  have HM3 := Lib.hid (HM2.out.keeps hk (fun e => by have e : z + 2 = z + 3 := e; omega))
  have HS3 := Lib.hid (show SpBox X3 (z + 3) a2 p2 t2 by
    unfold SpBox
    rw [hX3, heap_setCell_same _ (z + 3) 2 _ _ _ (heap_setCell_same _ (z + 3) 1 _ _ _ (heap_setCell_same X2 (z + 3) 0 _ _ _ HS2.out))]; rfl)
  have HR3 := Lib.hid (rows_offS HR2.out HS2.out hk)
  have HB3 := Lib.hid (HB2.out.trans (hk.below HB2.out.size (fun q hq => by have e : q = z + 3 := hq; have := HZW.out; omega)))
  go_simp
  rw [← hX3]
  refine hK.out _ _ ⟨hT3, fun _ _ => trivial⟩ ?_
  clear hK K d0 d1 d2 e0 e1 e2 hX3 hk
  (try simp only [Act.put, List.getElem_toArray, List.getElem_cons_succ, List.getElem_cons_zero, List.setIfInBounds_toArray, List.set_cons_succ, List.set_cons_zero])
  refine wpTwo_end (by kernel_rfl) ?_ _
  obtain ⟨⟨d0, d1, d2⟩, _⟩ := mbox_cells HM3.out
  obtain ⟨d3, d4, d5⟩ := HS3.out.cells
  go_wp2
  refine bodyPost_ret (v := .tuple #[.agg #[.slice (some ⟨gw2, 0, none⟩) nu cw2, .slice (some ⟨gl2, 0, none⟩) nl cl2, .bool f2], .agg #[.int .i64 a2, .int .i64 p2, .int .u64 t2]]) (by simp [results, Try.results23, go_sem, d0, d1, d2, d3, d4, d5]) rfl ?_
  exact ⟨⟨_, _, rfl, HR3.out.1, HR3.out.2⟩, HB3.out⟩

end Go.Proofs.Ytcnpmkigiklnnaa
