/-
  What each who wants a lock needs, and where it is then: the statement's body.
  Conditions: the ranges of Go's types.
-/
import Derived.Test.YtcledklajcdfiaaQWakes
import Derived.Test.YtcledklajcdfiaaQTake
import Derived.Test.YtcledklajcdfiaaQRef
namespace Go.Proofs.Ytcledklajcdfiaa
open Go.RowKit Go.Shelf
attribute [local go_sem] Oper.semAt_some

theorem two_acc (w : World) (k a o n k' a' o' n' : Int) : AcBox ((w.alloc (.cells #[.int .i64 k, .int .i64 a, .int .u64 o, .int .u64 n] 31)).alloc (.cells #[.int .i64 k', .int .i64 a', .int .u64 o', .int .u64 n'] 31)) w.heap.size k a o n ∧
    AcBox ((w.alloc (.cells #[.int .i64 k, .int .i64 a, .int .u64 o, .int .u64 n] 31)).alloc (.cells #[.int .i64 k', .int .i64 a', .int .u64 o', .int .u64 n'] 31)) (w.heap.size + 1) k' a' o' n' := by
  constructor
  · exact ((below1 (w.alloc (.cells #[.int .i64 k, .int .i64 a, .int .u64 o, .int .u64 n] 31)) _).block _ (by simp)).trans (World.alloc_heap_new w _)
  · have := World.alloc_heap_new (w.alloc (.cells #[.int .i64 k, .int .i64 a, .int .u64 o, .int .u64 n] 31)) (.cells #[.int .i64 k', .int .i64 a', .int .u64 o', .int .u64 n'] 31)
    rw [World.size_alloc] at this
    exact this
theorem two_spin (w : World) (k a o k' a' o' : Int) : SpBox ((w.alloc (.cells #[.int .i64 k, .int .i64 a, .int .u64 o] 24)).alloc (.cells #[.int .i64 k', .int .i64 a', .int .u64 o'] 24)) w.heap.size k a o ∧
    SpBox ((w.alloc (.cells #[.int .i64 k, .int .i64 a, .int .u64 o] 24)).alloc (.cells #[.int .i64 k', .int .i64 a', .int .u64 o'] 24)) (w.heap.size + 1) k' a' o' := by
  constructor
  · exact ((below1 (w.alloc (.cells #[.int .i64 k, .int .i64 a, .int .u64 o] 24)) _).block _ (by simp)).trans (World.alloc_heap_new w _)
  · have := World.alloc_heap_new (w.alloc (.cells #[.int .i64 k, .int .i64 a, .int .u64 o] 24)) (.cells #[.int .i64 k', .int .i64 a', .int .u64 o'] 24)
    rw [World.size_alloc] at this
    exact this


set_option maxRecDepth 100000 in
set_option maxHeartbeats 16000000 in
theorem takes_A (a p t : Int) (hr : rightS ⟨a, p, t⟩ = false) (v : Value) (gs : List (Int × Bool)) (W : World) (hv : GotsAt W v gs) (hmax : gs.length ≤ 9223372036854775807) :
    Calls Try.prog 3 #[.agg #[.int .i64 a, .int .i64 p, .int .u64 t], v] W fun e w' => e = .returned (.bool true) ∧ Below W.heap.size W w' := by
  obtain ⟨q, cap, rfl, hc⟩ := hv
  obtain ⟨n, hn⟩ : ∃ n, n = gs.length := ⟨_, rfl⟩
  rw [← hn] at hmax
  rw [← hn]
  have HC := Lib.hid hc
  have HN := Lib.hid hn
  have HRT := Lib.hid (show ∀ Z : World, Calls Try.prog 9 #[.agg #[.int .i64 a, .int .i64 p, .int .u64 t]] Z fun e w' => e = .returned (.bool false) ∧ Below Z.heap.size Z w' from fun Z => by
    have := qrright ⟨a, p, t⟩ Z
    rwa [hr] at this)
  have HCK := Lib.hid (show ∀ (Z : World), Calls Try.prog 10 #[.agg #[.int .i64 a, .int .i64 p, .int .u64 t]] Z fun e w' => e = .returned (.int .i64 150) ∧ Below Z.heap.size Z w' from fun Z => qcheck_no ⟨a, p, t⟩ hr Z)
  have HND := Lib.hid (show ∀ (Z : World), Calls Try.prog 11 #[.agg #[.int .i64 a, .int .i64 p, .int .u64 t]] Z fun e w' => e = .returned (.tuple #[.agg #[.int .i64 0, .int .i64 0, .int .u64 0, .int .u64 0], .bool false]) ∧ Below Z.heap.size Z w' from fun Z => qneed_bad ⟨a, p, t⟩ hr Z)
  have HTK := Lib.hid (show ∀ (v : Int) (d : Bool) (Z : World), Calls Try.prog 14 #[.agg #[.int .i64 a, .int .i64 p, .int .u64 t], .agg #[.int .u64 v, .bool d]] Z fun e w' => e = .returned (.tuple #[.agg #[.int .i64 0, .int .i64 0, .int .u64 0], .int .i64 150]) ∧ Below Z.heap.size Z w' from fun v d Z => qtake_bad ⟨a, p, t⟩ hr v d Z)
  have HLV := Lib.hid (show ∀ (Z : World), Calls Try.prog 16 #[.agg #[.int .i64 a, .int .i64 p, .int .u64 t]] Z fun e w' => e = .returned (.tuple #[.agg #[.int .i64 0, .int .i64 0, .int .u64 0], .int .i64 150]) ∧ Below Z.heap.size Z w' from fun Z => qleave_bad ⟨a, p, t⟩ hr Z)
  have HASK := Lib.hid (show ∀ Z : World, Calls Try.prog 17 #[.int .i64 a] Z fun e w' => e = .returned (.agg #[.int .i64 a, .int .i64 0, .int .u64 0]) ∧ Below Z.heap.size Z w' from fun Z => qask a Z)
  clear hc hn hr
  obtain ⟨z, hz⟩ : ∃ z, z = W.heap.size := ⟨_, rfl⟩
  have HZ := Lib.hid hz
  have hb0 := below1 W (.cells #[.int .i64 a, .int .i64 p, .int .u64 t] 24)
  have HS0 := Lib.hid (show SpBox (W.alloc (.cells #[.int .i64 a, .int .i64 p, .int .u64 t] 24)) z a p t by rw [hz]; exact World.alloc_heap_new W _)
  have HB0 := Lib.hid hb0
  clear hb0
  go_enter Try.func3, Try.ntmps3
  go_wp2_with fail
  rw [← hz]
  clear hz
  refine (qwakes _).mono ?_
  rintro e w1 ⟨rfl, hb⟩
  have HS1 := Lib.hid (HS0.out.below hb)
  have HB1 := Lib.hid (below_then HB0.out HB0.out.size hb)
  obtain ⟨s0, s1, s2⟩ := HS1.out.cells
  clear hb HS0 HB0
  go_wp2_with fail
  refine (HRT.out _).mono ?_
  rintro e w2 ⟨rfl, hb⟩
  clear s0 s1 s2
  have HS2 := Lib.hid (HS1.out.below hb)
  have HB2 := Lib.hid (below_then HB1.out HB1.out.size hb)
  obtain ⟨s0, s1, s2⟩ := HS2.out.cells
  clear hb HS1 HB1
  go_wp2_with fail
  refine (HCK.out _).mono ?_
  rintro e w3 ⟨rfl, hb⟩
  clear s0 s1 s2
  have HS3 := Lib.hid (HS2.out.below hb)
  have HB3 := Lib.hid (below_then HB2.out HB2.out.size hb)
  obtain ⟨s0, s1, s2⟩ := HS3.out.cells
  clear hb HS2 HB2
  go_wp2_with fail
  refine (HND.out _).mono ?_
  rintro e w4 ⟨rfl, hb⟩
  clear s0 s1 s2
  have HS4 := Lib.hid (HS3.out.below hb)
  have HB4 := Lib.hid (below_then HB3.out HB3.out.size hb)
  obtain ⟨s0, s1, s2⟩ := HS4.out.cells
  clear hb HS3 HB3
  go_wp2_with fail
  go_loopw [66] (fun iv wr => ∃ i : Nat, i ≤ n ∧ i ≤ 6 ∧ iv = .int .i64 i ∧ Hid (SpBox wr z a p t) ∧ Hid (Below W.heap.size W wr)) (fun iv _ => n - (intOf iv).toNat)
  case atStart => exact ⟨0, Nat.zero_le _, Nat.zero_le _, rfl, Lib.hid (HS4.out.below (below2 _ _ _)), Lib.hid (below_then HB4.out HB4.out.size (below2 _ _ _))⟩
  case round =>
    obtain ⟨i, hi, hi6, rfl, HSR, HBR⟩ := hrel
    clear s0 s1 s2
    by_cases hlt : i < n
    · have hil : i < gs.length := by have := HN.out; omega
      obtain ⟨b, off, rfl, hcs⟩ := HC.out (by intro e; rw [e] at hil; cases hil)
      obtain ⟨c0, c1⟩ := hcs i hil
      obtain ⟨⟨gv, gd⟩, hge⟩ : ∃ g, g = gs[i] := ⟨_, rfl⟩
      rw [← hge] at c0 c1
      have c0 := below_cell HBR.out c0
      have c1 := below_cell HBR.out c1
      simp only at c0 c1
      clear hcs hge
      obtain ⟨w6, hw6⟩ : ∃ w6 : World, w6 = wr.alloc (.cells #[.int .u64 gv, .bool gd] 36) := ⟨_, rfl⟩
      have hb6 : Below wr.heap.size wr w6 := by rw [hw6]; exact below1 wr _
      have HS6 := Lib.hid (HSR.out.below hb6)
      have HB6 := Lib.hid (below_then HBR.out HBR.out.size hb6)
      have HG6 := Lib.hid (show GBox w6 wr.heap.size gv gd by rw [hw6]; exact World.alloc_heap_new wr _)
      have HW6 := Lib.hid hw6
      clear hw6 hb6
      by_cases h6 : i = 6
      · subst h6
        go_upto_region 24 with (fail)
        rw [← HW6.out]
        obtain ⟨s0, s1, s2⟩ := HS6.out.cells
        go_wp2_with fail
        refine (HLV.out _).mono ?_
        rintro e w8 ⟨rfl, hb⟩
        clear s0 s1 s2
        have HS8 := Lib.hid (HS6.out.below hb)
        have HB8 := Lib.hid (below_then HB6.out HB6.out.size hb)
        obtain ⟨s0, s1, s2⟩ := (HS8.out.below (below2 w8 (.cells #[.int .i64 0, .int .i64 0, .int .u64 0] 24) (.cells #[.int .i64 0, .int .i64 0, .int .u64 0] 24))).cells
        clear hb
        obtain ⟨y, hy⟩ : ∃ y, y = w8.heap.size := ⟨_, rfl⟩
        obtain ⟨w9, hw9⟩ : ∃ w9 : World, w9 = (w8.alloc (.cells #[.int .i64 0, .int .i64 0, .int .u64 0] 24)).alloc (.cells #[.int .i64 0, .int .i64 0, .int .u64 0] 24) := ⟨_, rfl⟩
        have hb9 : Below w8.heap.size w8 w9 := by rw [hw9]; exact below2 w8 _ _
        have HS9 := HS8.out.below hb9
        have HL1 : SpBox w9 y 0 0 0 := by rw [hw9, hy]; exact ((below1 (w8.alloc (.cells #[.int .i64 0, .int .i64 0, .int .u64 0] 24)) _).block _ (by simp)).trans (World.alloc_heap_new w8 _)
        have HL2 : SpBox w9 (y + 1) 0 0 0 := by
          have := World.alloc_heap_new (w8.alloc (.cells #[.int .i64 0, .int .i64 0, .int .u64 0] 24)) (.cells #[.int .i64 0, .int .i64 0, .int .u64 0] 24)
          rw [World.size_alloc, ← hw9, ← hy] at this
          exact this
        have HB9 := Lib.hid (below_then HB8.out HB8.out.size hb9)
        have HW9 := Lib.hid (And.intro hw9 hy)
        have HT9 := Lib.hid (And.intro HS9 (And.intro HL1 HL2))
        clear hw9 hy hb9 HS9 HL1 HL2 HS8 HB8
        go_upto_region 31 with (fail)
        rw [← HW9.out.1, ← HW9.out.2]
        refine wpTwo_begin (T := fun w' => SpBox w' z a p t ∧ SpBox w' y 0 0 0 ∧ SpBox w' (y + 1) 0 0 0) (S := fun _ => True) (late := fun _ => false) (by kernel_rfl) ?_
        obtain ⟨X0, hX0⟩ : ∃ X : World, X = w9.drew := ⟨_, rfl⟩
        rw [← hX0]
        have hbX : Below w9.heap.size w9 X0 := by rw [hX0]; exact (Below.refl _ _).drew
        have hT := And.intro (HT9.out.1.below hbX) (And.intro (HT9.out.2.1.below hbX) (HT9.out.2.2.below hbX))
        have HBX := Lib.hid (below_then HB9.out HB9.out.size hbX)
        clear hX0 hbX HT9 HB9 HW9 s0 s1 s2
        refine wpTwo_takeT (i := 0) (v := .agg #[.int .i64 0, .int .i64 0, .int .u64 0]) rfl (by kernel_rfl) (by kernel_rfl) (by kernel_rfl) (fun _ _ _ h => h) ⟨by rfl, ?_⟩ hT ?_
        · rintro w hTw
          obtain ⟨t0, t1, t2⟩ := hTw.2.1.cells
          go_simp
        (try simp only [Act.put, List.getElem_toArray, List.getElem_cons_zero, List.setIfInBounds_toArray, List.set_cons_succ, List.set_cons_zero])
        refine wpTwo_takeT (i := 1) (v := .agg #[.int .i64 0, .int .i64 0, .int .u64 0]) rfl (by kernel_rfl) (by kernel_rfl) (by kernel_rfl) (fun _ _ _ h => h) ⟨by rfl, ?_⟩ hT ?_
        · rintro w hTw
          obtain ⟨t0, t1, t2⟩ := hTw.2.2.cells
          go_simp
        (try simp only [Act.put, List.getElem_toArray, List.getElem_cons_succ, List.getElem_cons_zero, List.setIfInBounds_toArray, List.set_cons_succ, List.set_cons_zero])
        refine wpTwo_takeT (i := 2) (v := .bool true) rfl (by kernel_rfl) (by kernel_rfl) (by kernel_rfl) (fun _ _ _ h => h) ⟨by rfl, ?_⟩ hT ?_
        · rintro w hTw
          go_simp
        (try simp only [Act.put, List.getElem_toArray, List.getElem_cons_succ, List.getElem_cons_zero, List.setIfInBounds_toArray, List.set_cons_succ, List.set_cons_zero])
        refine wpTwo_takeT (i := 3) (v := .bool true) rfl (by kernel_rfl) (by kernel_rfl) (by kernel_rfl) (fun _ _ _ h => h) ⟨by rfl, ?_⟩ hT ?_
        · rintro w hTw
          go_simp
        (try simp only [Act.put, List.getElem_toArray, List.getElem_cons_succ, List.getElem_cons_zero, List.setIfInBounds_toArray, List.set_cons_succ, List.set_cons_zero])
        refine wpTwo_takeT (i := 4) (v := .int .i64 150) rfl (by kernel_rfl) (by kernel_rfl) (by kernel_rfl) (fun _ _ _ h => h) ⟨by rfl, ?_⟩ hT ?_
        · rintro w hTw
          go_simp
        (try simp only [Act.put, List.getElem_toArray, List.getElem_cons_succ, List.getElem_cons_zero, List.setIfInBounds_toArray, List.set_cons_succ, List.set_cons_zero])
        refine wpTwo_takeT (i := 5) (v := .int .i64 150) rfl (by kernel_rfl) (by kernel_rfl) (by kernel_rfl) (fun _ _ _ h => h) ⟨by rfl, ?_⟩ hT ?_
        · rintro w hTw
          go_simp
        (try simp only [Act.put, List.getElem_toArray, List.getElem_cons_succ, List.getElem_cons_zero, List.setIfInBounds_toArray, List.set_cons_succ, List.set_cons_zero])
        refine wpTwo_takeT (i := 6) (v := .bool true) rfl (by kernel_rfl) (by kernel_rfl) (by kernel_rfl) (fun _ _ _ h => h) ⟨by rfl, ?_⟩ hT ?_
        · rintro w hTw
          go_simp
        (try simp only [Act.put, List.getElem_toArray, List.getElem_cons_succ, List.getElem_cons_zero, List.setIfInBounds_toArray, List.set_cons_succ, List.set_cons_zero])
        refine wpTwo_takeT (i := 7) (v := .bool true) rfl (by kernel_rfl) (by kernel_rfl) (by kernel_rfl) (fun _ _ _ h => h) ⟨by rfl, ?_⟩ hT ?_
        · rintro w hTw
          go_simp
        (try simp only [Act.put, List.getElem_toArray, List.getElem_cons_succ, List.getElem_cons_zero, List.setIfInBounds_toArray, List.set_cons_succ, List.set_cons_zero])
        refine wpTwo_takeT (i := 8) (v := .bool true) rfl (by kernel_rfl) (by kernel_rfl) (by kernel_rfl) (fun _ _ _ h => h) ⟨by rfl, ?_⟩ hT ?_
        · rintro w hTw
          go_simp
        (try simp only [Act.put, List.getElem_toArray, List.getElem_cons_succ, List.getElem_cons_zero, List.setIfInBounds_toArray, List.set_cons_succ, List.set_cons_zero])
        refine wpTwo_takeT (i := 9) (v := .pointer (some ⟨z, 0, none⟩)) rfl (by kernel_rfl) (by kernel_rfl) (by kernel_rfl) (fun _ _ _ h => h) ⟨by rfl, ?_⟩ hT ?_
        · rintro w hTw
          go_simp
        (try simp only [Act.put, List.getElem_toArray, List.getElem_cons_succ, List.getElem_cons_zero, List.setIfInBounds_toArray, List.set_cons_succ, List.set_cons_zero])
        refine wpTwo_takeT (i := 10) (v := .int .i64 a) rfl (by kernel_rfl) (by kernel_rfl) (by kernel_rfl) (fun _ _ _ h => h) ⟨by rfl, ?_⟩ hT ?_
        · rintro w hTw
          obtain ⟨t0, t1, t2⟩ := hTw.1.cells
          go_simp
        (try simp only [Act.put, List.getElem_toArray, List.getElem_cons_succ, List.getElem_cons_zero, List.setIfInBounds_toArray, List.set_cons_succ, List.set_cons_zero])
        refine wpTwo_takeT (i := 12) (v := .pointer (some ⟨z, 0, none⟩)) rfl (by kernel_rfl) (by kernel_rfl) (by kernel_rfl) (fun _ _ _ h => h) ⟨by rfl, ?_⟩ hT ?_
        · rintro w hTw
          go_simp
        (try simp only [Act.put, List.getElem_toArray, List.getElem_cons_succ, List.getElem_cons_zero, List.setIfInBounds_toArray, List.set_cons_succ, List.set_cons_zero])
        refine wpTwo_takeT (i := 13) (v := .int .i64 a) rfl (by kernel_rfl) (by kernel_rfl) (by kernel_rfl) (fun _ _ _ h => h) ⟨by rfl, ?_⟩ hT ?_
        · rintro w hTw
          obtain ⟨t0, t1, t2⟩ := hTw.1.cells
          go_simp
        (try simp only [Act.put, List.getElem_toArray, List.getElem_cons_succ, List.getElem_cons_zero, List.setIfInBounds_toArray, List.set_cons_succ, List.set_cons_zero])
        refine wpTwo_takeT (i := 14) (v := .agg #[.int .i64 a, .int .i64 0, .int .u64 0]) rfl (by kernel_rfl) (by kernel_rfl) (by kernel_rfl) (fun _ _ _ h => h) ⟨by rfl, ?_⟩ hT ?_
        · rintro w hTw
          go_simp
        (try simp only [Act.put, List.getElem_toArray, List.getElem_cons_succ, List.getElem_cons_zero, List.setIfInBounds_toArray, List.set_cons_succ, List.set_cons_zero])
        refine wpTwo_ready (rs := [11]) (by kernel_rfl) (by simp) ?_
        refine (AllTwo.cons rfl (fun K hK => ?_) AllTwo.nil)
        go_simp
        refine (HASK.out _).mono ?_
        rintro e X1 ⟨rfl, hb⟩
        have hT := And.intro (hT.1.below hb) (And.intro (hT.2.1.below hb) (hT.2.2.below hb))
        have HBY := Lib.hid (below_then HBX.out HBX.out.size hb)
        clear hb HBX
        go_wp2_with fail
        refine hK.out _ _ ⟨hT, fun _ _ => trivial⟩ ?_
        clear hK K
        (try simp only [Act.put, List.getElem_toArray, List.getElem_cons_succ, List.getElem_cons_zero, List.setIfInBounds_toArray, List.set_cons_succ, List.set_cons_zero])
        refine wpTwo_takeT (i := 15) (v := .bool true) rfl (by kernel_rfl) (by kernel_rfl) (by kernel_rfl) (fun _ _ _ h => h) ⟨by rfl, ?_⟩ hT ?_
        · rintro w hTw
          go_simp
        (try simp only [Act.put, List.getElem_toArray, List.getElem_cons_succ, List.getElem_cons_zero, List.setIfInBounds_toArray, List.set_cons_succ, List.set_cons_zero])
        refine wpTwo_takeT (i := 16) (v := .bool true) rfl (by kernel_rfl) (by kernel_rfl) (by kernel_rfl) (fun _ _ _ h => h) ⟨by rfl, ?_⟩ hT ?_
        · rintro w hTw
          go_simp
        (try simp only [Act.put, List.getElem_toArray, List.getElem_cons_succ, List.getElem_cons_zero, List.setIfInBounds_toArray, List.set_cons_succ, List.set_cons_zero])
        refine wpTwo_takeT (i := 17) (v := .bool true) rfl (by kernel_rfl) (by kernel_rfl) (by kernel_rfl) (fun _ _ _ h => h) ⟨by rfl, ?_⟩ hT ?_
        · rintro w hTw
          go_simp
        (try simp only [Act.put, List.getElem_toArray, List.getElem_cons_succ, List.getElem_cons_zero, List.setIfInBounds_toArray, List.set_cons_succ, List.set_cons_zero])
        refine wpTwo_end (by kernel_rfl) ?_ _
        go_wp2
        go_ret
        exact ⟨rfl, HBY.out⟩
      · have h6' : ((i : Int) == 6) = false := by rw [beq_eq_false_iff_ne]; omega
        go_upto_region 15 with (fail)
        rw [← HW6.out]
        obtain ⟨s0, s1, s2⟩ := HS6.out.cells
        obtain ⟨g0, g1⟩ := HG6.out.cells
        go_wp2_with fail
        refine (HTK.out gv gd _).mono ?_
        rintro e w7 ⟨rfl, hb⟩
        have HS7 := Lib.hid ((HS6.out.below hb).below (below2 w7 (.cells #[.int .i64 0, .int .i64 0, .int .u64 0] 24) (.cells #[.int .i64 0, .int .i64 0, .int .u64 0] 24)))
        have HB7 := Lib.hid (below_then (below_then HB6.out HB6.out.size hb) (Nat.le_trans HB6.out.size hb.size) (below2 w7 (.cells #[.int .i64 0, .int .i64 0, .int .u64 0] 24) (.cells #[.int .i64 0, .int .i64 0, .int .u64 0] 24)))
        clear s0 s1 s2 g0 g1 hb c0 c1
        go_wp2
        go_roundw
        case rel => exact ⟨i + 1, by omega, by omega, by go_num, HS7, HB7⟩
        case measure => simp [intOf]; omega
    · go_upto_region 24 with (fail)
      obtain ⟨s0, s1, s2⟩ := HSR.out.cells
      go_wp2_with fail
      refine (HLV.out _).mono ?_
      rintro e w8 ⟨rfl, hb⟩
      clear s0 s1 s2
      have HS8 := Lib.hid (HSR.out.below hb)
      have HB8 := Lib.hid (below_then HBR.out HBR.out.size hb)
      obtain ⟨s0, s1, s2⟩ := (HS8.out.below (below2 w8 (.cells #[.int .i64 0, .int .i64 0, .int .u64 0] 24) (.cells #[.int .i64 0, .int .i64 0, .int .u64 0] 24))).cells
      clear hb
      obtain ⟨y, hy⟩ : ∃ y, y = w8.heap.size := ⟨_, rfl⟩
      obtain ⟨w9, hw9⟩ : ∃ w9 : World, w9 = (w8.alloc (.cells #[.int .i64 0, .int .i64 0, .int .u64 0] 24)).alloc (.cells #[.int .i64 0, .int .i64 0, .int .u64 0] 24) := ⟨_, rfl⟩
      have hb9 : Below w8.heap.size w8 w9 := by rw [hw9]; exact below2 w8 _ _
      have HS9 := HS8.out.below hb9
      have HL1 : SpBox w9 y 0 0 0 := by rw [hw9, hy]; exact ((below1 (w8.alloc (.cells #[.int .i64 0, .int .i64 0, .int .u64 0] 24)) _).block _ (by simp)).trans (World.alloc_heap_new w8 _)
      have HL2 : SpBox w9 (y + 1) 0 0 0 := by
        have := World.alloc_heap_new (w8.alloc (.cells #[.int .i64 0, .int .i64 0, .int .u64 0] 24)) (.cells #[.int .i64 0, .int .i64 0, .int .u64 0] 24)
        rw [World.size_alloc, ← hw9, ← hy] at this
        exact this
      have HB9 := Lib.hid (below_then HB8.out HB8.out.size hb9)
      have HW9 := Lib.hid (And.intro hw9 hy)
      have HT9 := Lib.hid (And.intro HS9 (And.intro HL1 HL2))
      clear hw9 hy hb9 HS9 HL1 HL2 HS8 HB8
      go_upto_region 31 with (fail)
      rw [← HW9.out.1, ← HW9.out.2]
      refine wpTwo_begin (T := fun w' => SpBox w' z a p t ∧ SpBox w' y 0 0 0 ∧ SpBox w' (y + 1) 0 0 0) (S := fun _ => True) (late := fun _ => false) (by kernel_rfl) ?_
      obtain ⟨X0, hX0⟩ : ∃ X : World, X = w9.drew := ⟨_, rfl⟩
      rw [← hX0]
      have hbX : Below w9.heap.size w9 X0 := by rw [hX0]; exact (Below.refl _ _).drew
      have hT := And.intro (HT9.out.1.below hbX) (And.intro (HT9.out.2.1.below hbX) (HT9.out.2.2.below hbX))
      have HBX := Lib.hid (below_then HB9.out HB9.out.size hbX)
      clear hX0 hbX HT9 HB9 HW9 s0 s1 s2
      refine wpTwo_takeT (i := 0) (v := .agg #[.int .i64 0, .int .i64 0, .int .u64 0]) rfl (by kernel_rfl) (by kernel_rfl) (by kernel_rfl) (fun _ _ _ h => h) ⟨by rfl, ?_⟩ hT ?_
      · rintro w hTw
        obtain ⟨t0, t1, t2⟩ := hTw.2.1.cells
        go_simp
      (try simp only [Act.put, List.getElem_toArray, List.getElem_cons_zero, List.setIfInBounds_toArray, List.set_cons_succ, List.set_cons_zero])
      refine wpTwo_takeT (i := 1) (v := .agg #[.int .i64 0, .int .i64 0, .int .u64 0]) rfl (by kernel_rfl) (by kernel_rfl) (by kernel_rfl) (fun _ _ _ h => h) ⟨by rfl, ?_⟩ hT ?_
      · rintro w hTw
        obtain ⟨t0, t1, t2⟩ := hTw.2.2.cells
        go_simp
      (try simp only [Act.put, List.getElem_toArray, List.getElem_cons_succ, List.getElem_cons_zero, List.setIfInBounds_toArray, List.set_cons_succ, List.set_cons_zero])
      refine wpTwo_takeT (i := 2) (v := .bool true) rfl (by kernel_rfl) (by kernel_rfl) (by kernel_rfl) (fun _ _ _ h => h) ⟨by rfl, ?_⟩ hT ?_
      · rintro w hTw
        go_simp
      (try simp only [Act.put, List.getElem_toArray, List.getElem_cons_succ, List.getElem_cons_zero, List.setIfInBounds_toArray, List.set_cons_succ, List.set_cons_zero])
      refine wpTwo_takeT (i := 3) (v := .bool true) rfl (by kernel_rfl) (by kernel_rfl) (by kernel_rfl) (fun _ _ _ h => h) ⟨by rfl, ?_⟩ hT ?_
      · rintro w hTw
        go_simp
      (try simp only [Act.put, List.getElem_toArray, List.getElem_cons_succ, List.getElem_cons_zero, List.setIfInBounds_toArray, List.set_cons_succ, List.set_cons_zero])
      refine wpTwo_takeT (i := 4) (v := .int .i64 150) rfl (by kernel_rfl) (by kernel_rfl) (by kernel_rfl) (fun _ _ _ h => h) ⟨by rfl, ?_⟩ hT ?_
      · rintro w hTw
        go_simp
      (try simp only [Act.put, List.getElem_toArray, List.getElem_cons_succ, List.getElem_cons_zero, List.setIfInBounds_toArray, List.set_cons_succ, List.set_cons_zero])
      refine wpTwo_takeT (i := 5) (v := .int .i64 150) rfl (by kernel_rfl) (by kernel_rfl) (by kernel_rfl) (fun _ _ _ h => h) ⟨by rfl, ?_⟩ hT ?_
      · rintro w hTw
        go_simp
      (try simp only [Act.put, List.getElem_toArray, List.getElem_cons_succ, List.getElem_cons_zero, List.setIfInBounds_toArray, List.set_cons_succ, List.set_cons_zero])
      refine wpTwo_takeT (i := 6) (v := .bool true) rfl (by kernel_rfl) (by kernel_rfl) (by kernel_rfl) (fun _ _ _ h => h) ⟨by rfl, ?_⟩ hT ?_
      · rintro w hTw
        go_simp
      (try simp only [Act.put, List.getElem_toArray, List.getElem_cons_succ, List.getElem_cons_zero, List.setIfInBounds_toArray, List.set_cons_succ, List.set_cons_zero])
      refine wpTwo_takeT (i := 7) (v := .bool true) rfl (by kernel_rfl) (by kernel_rfl) (by kernel_rfl) (fun _ _ _ h => h) ⟨by rfl, ?_⟩ hT ?_
      · rintro w hTw
        go_simp
      (try simp only [Act.put, List.getElem_toArray, List.getElem_cons_succ, List.getElem_cons_zero, List.setIfInBounds_toArray, List.set_cons_succ, List.set_cons_zero])
      refine wpTwo_takeT (i := 8) (v := .bool true) rfl (by kernel_rfl) (by kernel_rfl) (by kernel_rfl) (fun _ _ _ h => h) ⟨by rfl, ?_⟩ hT ?_
      · rintro w hTw
        go_simp
      (try simp only [Act.put, List.getElem_toArray, List.getElem_cons_succ, List.getElem_cons_zero, List.setIfInBounds_toArray, List.set_cons_succ, List.set_cons_zero])
      refine wpTwo_takeT (i := 9) (v := .pointer (some ⟨z, 0, none⟩)) rfl (by kernel_rfl) (by kernel_rfl) (by kernel_rfl) (fun _ _ _ h => h) ⟨by rfl, ?_⟩ hT ?_
      · rintro w hTw
        go_simp
      (try simp only [Act.put, List.getElem_toArray, List.getElem_cons_succ, List.getElem_cons_zero, List.setIfInBounds_toArray, List.set_cons_succ, List.set_cons_zero])
      refine wpTwo_takeT (i := 10) (v := .int .i64 a) rfl (by kernel_rfl) (by kernel_rfl) (by kernel_rfl) (fun _ _ _ h => h) ⟨by rfl, ?_⟩ hT ?_
      · rintro w hTw
        obtain ⟨t0, t1, t2⟩ := hTw.1.cells
        go_simp
      (try simp only [Act.put, List.getElem_toArray, List.getElem_cons_succ, List.getElem_cons_zero, List.setIfInBounds_toArray, List.set_cons_succ, List.set_cons_zero])
      refine wpTwo_takeT (i := 12) (v := .pointer (some ⟨z, 0, none⟩)) rfl (by kernel_rfl) (by kernel_rfl) (by kernel_rfl) (fun _ _ _ h => h) ⟨by rfl, ?_⟩ hT ?_
      · rintro w hTw
        go_simp
      (try simp only [Act.put, List.getElem_toArray, List.getElem_cons_succ, List.getElem_cons_zero, List.setIfInBounds_toArray, List.set_cons_succ, List.set_cons_zero])
      refine wpTwo_takeT (i := 13) (v := .int .i64 a) rfl (by kernel_rfl) (by kernel_rfl) (by kernel_rfl) (fun _ _ _ h => h) ⟨by rfl, ?_⟩ hT ?_
      · rintro w hTw
        obtain ⟨t0, t1, t2⟩ := hTw.1.cells
        go_simp
      (try simp only [Act.put, List.getElem_toArray, List.getElem_cons_succ, List.getElem_cons_zero, List.setIfInBounds_toArray, List.set_cons_succ, List.set_cons_zero])
      refine wpTwo_takeT (i := 14) (v := .agg #[.int .i64 a, .int .i64 0, .int .u64 0]) rfl (by kernel_rfl) (by kernel_rfl) (by kernel_rfl) (fun _ _ _ h => h) ⟨by rfl, ?_⟩ hT ?_
      · rintro w hTw
        go_simp
      (try simp only [Act.put, List.getElem_toArray, List.getElem_cons_succ, List.getElem_cons_zero, List.setIfInBounds_toArray, List.set_cons_succ, List.set_cons_zero])
      refine wpTwo_ready (rs := [11]) (by kernel_rfl) (by simp) ?_
      refine (AllTwo.cons rfl (fun K hK => ?_) AllTwo.nil)
      go_simp
      refine (HASK.out _).mono ?_
      rintro e X1 ⟨rfl, hb⟩
      have hT := And.intro (hT.1.below hb) (And.intro (hT.2.1.below hb) (hT.2.2.below hb))
      have HBY := Lib.hid (below_then HBX.out HBX.out.size hb)
      clear hb HBX
      go_wp2_with fail
      refine hK.out _ _ ⟨hT, fun _ _ => trivial⟩ ?_
      clear hK K
      (try simp only [Act.put, List.getElem_toArray, List.getElem_cons_succ, List.getElem_cons_zero, List.setIfInBounds_toArray, List.set_cons_succ, List.set_cons_zero])
      refine wpTwo_takeT (i := 15) (v := .bool true) rfl (by kernel_rfl) (by kernel_rfl) (by kernel_rfl) (fun _ _ _ h => h) ⟨by rfl, ?_⟩ hT ?_
      · rintro w hTw
        go_simp
      (try simp only [Act.put, List.getElem_toArray, List.getElem_cons_succ, List.getElem_cons_zero, List.setIfInBounds_toArray, List.set_cons_succ, List.set_cons_zero])
      refine wpTwo_takeT (i := 16) (v := .bool true) rfl (by kernel_rfl) (by kernel_rfl) (by kernel_rfl) (fun _ _ _ h => h) ⟨by rfl, ?_⟩ hT ?_
      · rintro w hTw
        go_simp
      (try simp only [Act.put, List.getElem_toArray, List.getElem_cons_succ, List.getElem_cons_zero, List.setIfInBounds_toArray, List.set_cons_succ, List.set_cons_zero])
      refine wpTwo_takeT (i := 17) (v := .bool true) rfl (by kernel_rfl) (by kernel_rfl) (by kernel_rfl) (fun _ _ _ h => h) ⟨by rfl, ?_⟩ hT ?_
      · rintro w hTw
        go_simp
      (try simp only [Act.put, List.getElem_toArray, List.getElem_cons_succ, List.getElem_cons_zero, List.setIfInBounds_toArray, List.set_cons_succ, List.set_cons_zero])
      refine wpTwo_end (by kernel_rfl) ?_ _
      go_wp2
      go_ret
      exact ⟨rfl, HBY.out⟩

set_option maxRecDepth 100000 in
set_option maxHeartbeats 16000000 in
theorem takes_B (a p t : Int) (hs : SpR ⟨a, p, t⟩) (hr : rightS ⟨a, p, t⟩ = true) (hh : hasS ⟨a, p, t⟩ = true) (h3 : (p == 3) = false) (v : Value) (gs : List (Int × Bool)) (W : World) (hv : GotsAt W v gs) (hmax : gs.length ≤ 9223372036854775807) :
    Calls Try.prog 3 #[.agg #[.int .i64 a, .int .i64 p, .int .u64 t], v] W fun e w' => e = .returned (.bool true) ∧ Below W.heap.size W w' := by
  obtain ⟨q, cap, rfl, hc⟩ := hv
  obtain ⟨n, hn⟩ : ∃ n, n = gs.length := ⟨_, rfl⟩
  rw [← hn] at hmax
  rw [← hn]
  have HC := Lib.hid hc
  have HN := Lib.hid hn
  have HRT := Lib.hid (show ∀ Z : World, Calls Try.prog 9 #[.agg #[.int .i64 a, .int .i64 p, .int .u64 t]] Z fun e w' => e = .returned (.bool true) ∧ Below Z.heap.size Z w' from fun Z => by
    have := qrright ⟨a, p, t⟩ Z
    rwa [hr] at this)
  have HCK := Lib.hid (show ∀ (Z : World), Calls Try.prog 10 #[.agg #[.int .i64 a, .int .i64 p, .int .u64 t]] Z fun e w' => e = .returned (.int .i64 0) ∧ Below Z.heap.size Z w' from fun Z => qcheck_yes ⟨a, p, t⟩ hr Z)
  obtain ⟨⟨k, x, o, m⟩, hnd⟩ : ∃ nd, nd = needS ⟨a, p, t⟩ := ⟨_, rfl⟩
  have HND := Lib.hid (show ∀ (Z : World), Calls Try.prog 11 #[.agg #[.int .i64 a, .int .i64 p, .int .u64 t]] Z fun e w' => e = .returned (.tuple #[.agg #[.int .i64 k, .int .i64 x, .int .u64 o, .int .u64 m], .bool true]) ∧ Below Z.heap.size Z w' from fun Z => by
    have := qneed_yes ⟨a, p, t⟩ hr hs hh Z
    rwa [← hnd] at this)
  have HHS := Lib.hid (show ∀ (Z : World), Calls Try.prog 12 #[.agg #[.int .i64 a, .int .i64 p, .int .u64 t]] Z fun e w' => e = .returned (.bool true) ∧ Below Z.heap.size Z w' from fun Z => by
    have := qrhas ⟨a, p, t⟩ Z
    rwa [hh] at this)
  have HRN := Lib.hid (show ∀ (Z : World), Calls Try.prog 13 #[.agg #[.int .i64 a, .int .i64 p, .int .u64 t]] Z fun e w' => e = .returned (.agg #[.int .i64 k, .int .i64 x, .int .u64 o, .int .u64 m]) ∧ Below Z.heap.size Z w' from fun Z => by
    have := qrneed ⟨a, p, t⟩ Z
    rwa [← hnd] at this)
  have HTK := Lib.hid (show ∀ (v : Int) (d : Bool) (Z : World), Calls Try.prog 14 #[.agg #[.int .i64 a, .int .i64 p, .int .u64 t], .agg #[.int .u64 v, .bool d]] Z fun e w' => e = .returned (.tuple #[spV (takeS ⟨a, p, t⟩ v d), .int .i64 0]) ∧ Below Z.heap.size Z w' from fun v d Z => qtake_yes ⟨a, p, t⟩ hr hs hh v d Z)
  have HRK := Lib.hid (show ∀ (v : Int) (d : Bool) (Z : World), Calls Try.prog 15 #[.agg #[.int .i64 a, .int .i64 p, .int .u64 t], .agg #[.int .u64 v, .bool d]] Z fun e w' => e = .returned (spV (takeS ⟨a, p, t⟩ v d)) ∧ Below Z.heap.size Z w' from fun v d Z => qrtake ⟨a, p, t⟩ v d Z)
  have HLV := Lib.hid (show ∀ (Z : World), Calls Try.prog 16 #[.agg #[.int .i64 a, .int .i64 p, .int .u64 t]] Z fun e w' => e = .returned (.tuple #[.agg #[.int .i64 0, .int .i64 0, .int .u64 0], .int .i64 2]) ∧ Below Z.heap.size Z w' from fun Z => qleave_no ⟨a, p, t⟩ hr (by intro e; simp only at e; rw [e] at h3; cases h3) Z)
  clear hnd hh
  have HASK := Lib.hid (show ∀ Z : World, Calls Try.prog 17 #[.int .i64 a] Z fun e w' => e = .returned (.agg #[.int .i64 a, .int .i64 0, .int .u64 0]) ∧ Below Z.heap.size Z w' from fun Z => qask a Z)
  clear hc hn hr
  obtain ⟨z, hz⟩ : ∃ z, z = W.heap.size := ⟨_, rfl⟩
  have HZ := Lib.hid hz
  have hb0 := below1 W (.cells #[.int .i64 a, .int .i64 p, .int .u64 t] 24)
  have HS0 := Lib.hid (show SpBox (W.alloc (.cells #[.int .i64 a, .int .i64 p, .int .u64 t] 24)) z a p t by rw [hz]; exact World.alloc_heap_new W _)
  have HB0 := Lib.hid hb0
  clear hb0
  go_enter Try.func3, Try.ntmps3
  go_wp2_with fail
  rw [← hz]
  clear hz
  refine (qwakes _).mono ?_
  rintro e w1 ⟨rfl, hb⟩
  have HS1 := Lib.hid (HS0.out.below hb)
  have HB1 := Lib.hid (below_then HB0.out HB0.out.size hb)
  obtain ⟨s0, s1, s2⟩ := HS1.out.cells
  clear hb HS0 HB0
  go_wp2_with fail
  refine (HRT.out _).mono ?_
  rintro e w2 ⟨rfl, hb⟩
  clear s0 s1 s2
  have HS2 := Lib.hid (HS1.out.below hb)
  have HB2 := Lib.hid (below_then HB1.out HB1.out.size hb)
  obtain ⟨s0, s1, s2⟩ := HS2.out.cells
  clear hb HS1 HB1
  go_wp2_with fail
  refine (HCK.out _).mono ?_
  rintro e w3 ⟨rfl, hb⟩
  clear s0 s1 s2
  have HS3 := Lib.hid (HS2.out.below hb)
  have HB3 := Lib.hid (below_then HB2.out HB2.out.size hb)
  obtain ⟨s0, s1, s2⟩ := HS3.out.cells
  clear hb HS2 HB2
  go_wp2_with fail
  refine (HND.out _).mono ?_
  rintro e w4 ⟨rfl, hb⟩
  clear s0 s1 s2
  have HS4 := Lib.hid (HS3.out.below hb)
  have HB4 := Lib.hid (below_then HB3.out HB3.out.size hb)
  obtain ⟨s0, s1, s2⟩ := HS4.out.cells
  clear hb HS3 HB3
  clear s0 s1 s2
  obtain ⟨s0, s1, s2⟩ := (HS4.out.below (below2 w4 (.cells #[.int .i64 k, .int .i64 x, .int .u64 o, .int .u64 m] 31) (.cells #[.int .i64 0, .int .i64 0, .int .u64 0, .int .u64 0] 31))).cells
  go_wp2_with fail
  obtain ⟨w5, hw5⟩ : ∃ w5 : World, w5 = (w4.alloc (.cells #[.int .i64 k, .int .i64 x, .int .u64 o, .int .u64 m] 31)).alloc (.cells #[.int .i64 0, .int .i64 0, .int .u64 0, .int .u64 0] 31) := ⟨_, rfl⟩
  obtain ⟨y0, hy0⟩ : ∃ y, y = w4.heap.size := ⟨_, rfl⟩
  have hb : Below w4.heap.size w4 w5 := by rw [hw5]; exact below2 w4 _ _
  have HA5 := Lib.hid (show AcBox w5 y0 k x o m ∧ AcBox w5 (y0 + 1) 0 0 0 0 by rw [hw5, hy0]; exact two_acc w4 k x o m 0 0 0 0)
  have HS5 := Lib.hid (HS4.out.below hb)
  have HB5 := Lib.hid (below_then HB4.out HB4.out.size hb)
  have hzy : z < y0 := by rw [hy0]; exact HS4.out.lt
  have hyW : W.heap.size ≤ y0 := by rw [hy0]; exact HB4.out.size
  rw [← hw5, ← hy0]
  clear hb hw5 hy0 s0 s1 s2 HS4 HB4
  obtain ⟨s0, s1, s2⟩ := HS5.out.cells
  refine (HHS.out _).mono ?_
  rintro e w6 ⟨rfl, hb⟩
  have HA6 := Lib.hid (And.intro (HA5.out.1.below hb) (HA5.out.2.below hb))
  have HS6 := Lib.hid (HS5.out.below hb)
  have HB6 := Lib.hid (below_then HB5.out HB5.out.size hb)
  clear hb s0 s1 s2 HS5 HB5 HA5
  obtain ⟨s0, s1, s2⟩ := HS6.out.cells
  go_wp2_with fail
  refine (HRN.out _).mono ?_
  rintro e w7 ⟨rfl, hb⟩
  have HA7 := Lib.hid (And.intro (HA6.out.1.below hb) (HA6.out.2.below hb))
  have HS7 := Lib.hid (HS6.out.below hb)
  have HB7 := Lib.hid (below_then HB6.out HB6.out.size hb)
  clear hb s0 s1 s2 HS6 HB6 HA6
  obtain ⟨l0, l1, l2, l3⟩ := HA7.out.2.cells
  have f0 := HA7.out.2.frees 0
  have f1 := HA7.out.2.frees 1
  have f2 := HA7.out.2.frees 2
  have f3 := HA7.out.2.frees 3
  obtain ⟨w8, hw8⟩ : ∃ w8 : World, w8 = (((w7.setCell ⟨y0 + 1, 0, none⟩ (.int .i64 k)).setCell ⟨y0 + 1, 1, none⟩ (.int .i64 x)).setCell ⟨y0 + 1, 2, none⟩ (.int .u64 o)).setCell ⟨y0 + 1, 3, none⟩ (.int .u64 m) := ⟨_, rfl⟩
  have hk : Keeps (· = y0 + 1) w7 w8 := by
    rw [hw8]
    exact (((Keeps.setCell w7 (S := (· = y0 + 1)) (p := ⟨y0 + 1, 0, none⟩) rfl _).trans (Keeps.setCell _ (S := (· = y0 + 1)) (p := ⟨y0 + 1, 1, none⟩) rfl _)).trans (Keeps.setCell _ (S := (· = y0 + 1)) (p := ⟨y0 + 1, 2, none⟩) rfl _)).trans (Keeps.setCell _ (S := (· = y0 + 1)) (p := ⟨y0 + 1, 3, none⟩) rfl _)
  have HA8 := Lib.hid (show AcBox w8 y0 k x o m ∧ AcBox w8 (y0 + 1) k x o m from ⟨HA7.out.1.keeps hk (fun e => by have e : y0 = y0 + 1 := e; omega), by
    unfold AcBox
    rw [hw8, heap_setCell_same _ (y0 + 1) 3 _ _ _ (heap_setCell_same _ (y0 + 1) 2 _ _ _ (heap_setCell_same _ (y0 + 1) 1 _ _ _ (heap_setCell_same w7 (y0 + 1) 0 _ _ _ HA7.out.2)))]; rfl⟩)
  have HS8 := Lib.hid (HS7.out.keeps hk (fun e => by have e : z = y0 + 1 := e; omega))
  have HB8 := Lib.hid (HB7.out.trans (hk.below HB7.out.size (fun q hq => by have e : q = y0 + 1 := hq; omega)))
  have HW8 := Lib.hid hw8
  clear hw8 hk HS7 HB7 HA7
  go_upto_region 9 with (fail)
  rw [← HW8.out]
  clear l0 l1 l2 l3 f0 f1 f2 f3 HW8
  obtain ⟨s0, s1, s2⟩ := HS8.out.cells
  go_wp2_with fail
  refine (HHS.out _).mono ?_
  rintro e w9 ⟨rfl, hb⟩
  have HA9 := Lib.hid (And.intro (HA8.out.1.below hb) (HA8.out.2.below hb))
  have HS9 := Lib.hid (HS8.out.below hb)
  have HB9 := Lib.hid (below_then HB8.out HB8.out.size hb)
  clear hb s0 s1 s2 HS8 HB8 HA8
  obtain ⟨s0, s1, s2⟩ := HS9.out.cells
  obtain ⟨k0, k1, k2, k3⟩ := HA9.out.1.cells
  obtain ⟨l0, l1, l2, l3⟩ := HA9.out.2.cells
  go_wp2_with fail
  go_loopw [66] (fun iv wr => ∃ i : Nat, i ≤ n ∧ i ≤ 6 ∧ iv = .int .i64 i ∧ Hid (SpBox wr z a p t) ∧ Hid (Below W.heap.size W wr)) (fun iv _ => n - (intOf iv).toNat)
  case atStart => exact ⟨0, Nat.zero_le _, Nat.zero_le _, rfl, HS9, HB9⟩
  case round =>
    obtain ⟨i, hi, hi6, rfl, HSR, HBR⟩ := hrel
    clear s0 s1 s2
    by_cases hlt : i < n
    · have hil : i < gs.length := by have := HN.out; omega
      obtain ⟨b, off, rfl, hcs⟩ := HC.out (by intro e; rw [e] at hil; cases hil)
      obtain ⟨c0, c1⟩ := hcs i hil
      obtain ⟨⟨gv, gd⟩, hge⟩ : ∃ g, g = gs[i] := ⟨_, rfl⟩
      rw [← hge] at c0 c1
      have c0 := below_cell HBR.out c0
      have c1 := below_cell HBR.out c1
      simp only at c0 c1
      clear hcs hge
      obtain ⟨w6, hw6⟩ : ∃ w6 : World, w6 = wr.alloc (.cells #[.int .u64 gv, .bool gd] 36) := ⟨_, rfl⟩
      have hb6 : Below wr.heap.size wr w6 := by rw [hw6]; exact below1 wr _
      have HS6 := Lib.hid (HSR.out.below hb6)
      have HB6 := Lib.hid (below_then HBR.out HBR.out.size hb6)
      have HG6 := Lib.hid (show GBox w6 wr.heap.size gv gd by rw [hw6]; exact World.alloc_heap_new wr _)
      have HW6 := Lib.hid hw6
      clear hw6 hb6
      by_cases h6 : i = 6
      · subst h6
        go_upto_region 24 with (fail)
        rw [← HW6.out]
        obtain ⟨s0, s1, s2⟩ := HS6.out.cells
        go_wp2_with fail
        refine (HLV.out _).mono ?_
        rintro e w8 ⟨rfl, hb⟩
        clear s0 s1 s2
        have HS8 := Lib.hid (HS6.out.below hb)
        have HB8 := Lib.hid (below_then HB6.out HB6.out.size hb)
        obtain ⟨s0, s1, s2⟩ := (HS8.out.below (below2 w8 (.cells #[.int .i64 0, .int .i64 0, .int .u64 0] 24) (.cells #[.int .i64 0, .int .i64 0, .int .u64 0] 24))).cells
        clear hb
        obtain ⟨y, hy⟩ : ∃ y, y = w8.heap.size := ⟨_, rfl⟩
        obtain ⟨w9, hw9⟩ : ∃ w9 : World, w9 = (w8.alloc (.cells #[.int .i64 0, .int .i64 0, .int .u64 0] 24)).alloc (.cells #[.int .i64 0, .int .i64 0, .int .u64 0] 24) := ⟨_, rfl⟩
        have hb9 : Below w8.heap.size w8 w9 := by rw [hw9]; exact below2 w8 _ _
        have HS9 := HS8.out.below hb9
        have HL1 : SpBox w9 y 0 0 0 := by rw [hw9, hy]; exact ((below1 (w8.alloc (.cells #[.int .i64 0, .int .i64 0, .int .u64 0] 24)) _).block _ (by simp)).trans (World.alloc_heap_new w8 _)
        have HL2 : SpBox w9 (y + 1) 0 0 0 := by
          have := World.alloc_heap_new (w8.alloc (.cells #[.int .i64 0, .int .i64 0, .int .u64 0] 24)) (.cells #[.int .i64 0, .int .i64 0, .int .u64 0] 24)
          rw [World.size_alloc, ← hw9, ← hy] at this
          exact this
        have HB9 := Lib.hid (below_then HB8.out HB8.out.size hb9)
        have HW9 := Lib.hid (And.intro hw9 hy)
        have HT9 := Lib.hid (And.intro HS9 (And.intro HL1 HL2))
        clear hw9 hy hb9 HS9 HL1 HL2 HS8 HB8
        go_upto_region 31 with (fail)
        rw [← HW9.out.1, ← HW9.out.2]
        refine wpTwo_begin (T := fun w' => SpBox w' z a p t ∧ SpBox w' y 0 0 0 ∧ SpBox w' (y + 1) 0 0 0) (S := fun _ => True) (late := fun _ => false) (by kernel_rfl) ?_
        obtain ⟨X0, hX0⟩ : ∃ X : World, X = w9.drew := ⟨_, rfl⟩
        rw [← hX0]
        have hbX : Below w9.heap.size w9 X0 := by rw [hX0]; exact (Below.refl _ _).drew
        have hT := And.intro (HT9.out.1.below hbX) (And.intro (HT9.out.2.1.below hbX) (HT9.out.2.2.below hbX))
        have HBX := Lib.hid (below_then HB9.out HB9.out.size hbX)
        clear hX0 hbX HT9 HB9 HW9 s0 s1 s2
        refine wpTwo_takeT (i := 0) (v := .agg #[.int .i64 0, .int .i64 0, .int .u64 0]) rfl (by kernel_rfl) (by kernel_rfl) (by kernel_rfl) (fun _ _ _ h => h) ⟨by rfl, ?_⟩ hT ?_
        · rintro w hTw
          obtain ⟨t0, t1, t2⟩ := hTw.2.1.cells
          go_simp
        (try simp only [Act.put, List.getElem_toArray, List.getElem_cons_zero, List.setIfInBounds_toArray, List.set_cons_succ, List.set_cons_zero])
        refine wpTwo_takeT (i := 1) (v := .agg #[.int .i64 0, .int .i64 0, .int .u64 0]) rfl (by kernel_rfl) (by kernel_rfl) (by kernel_rfl) (fun _ _ _ h => h) ⟨by rfl, ?_⟩ hT ?_
        · rintro w hTw
          obtain ⟨t0, t1, t2⟩ := hTw.2.2.cells
          go_simp
        (try simp only [Act.put, List.getElem_toArray, List.getElem_cons_succ, List.getElem_cons_zero, List.setIfInBounds_toArray, List.set_cons_succ, List.set_cons_zero])
        refine wpTwo_takeT (i := 2) (v := .bool true) rfl (by kernel_rfl) (by kernel_rfl) (by kernel_rfl) (fun _ _ _ h => h) ⟨by rfl, ?_⟩ hT ?_
        · rintro w hTw
          go_simp
        (try simp only [Act.put, List.getElem_toArray, List.getElem_cons_succ, List.getElem_cons_zero, List.setIfInBounds_toArray, List.set_cons_succ, List.set_cons_zero])
        refine wpTwo_takeT (i := 3) (v := .bool true) rfl (by kernel_rfl) (by kernel_rfl) (by kernel_rfl) (fun _ _ _ h => h) ⟨by rfl, ?_⟩ hT ?_
        · rintro w hTw
          go_simp
        (try simp only [Act.put, List.getElem_toArray, List.getElem_cons_succ, List.getElem_cons_zero, List.setIfInBounds_toArray, List.set_cons_succ, List.set_cons_zero])
        refine wpTwo_takeT (i := 4) (v := .int .i64 2) rfl (by kernel_rfl) (by kernel_rfl) (by kernel_rfl) (fun _ _ _ h => h) ⟨by rfl, ?_⟩ hT ?_
        · rintro w hTw
          go_simp
        (try simp only [Act.put, List.getElem_toArray, List.getElem_cons_succ, List.getElem_cons_zero, List.setIfInBounds_toArray, List.set_cons_succ, List.set_cons_zero])
        refine wpTwo_takeT (i := 5) (v := .int .i64 2) rfl (by kernel_rfl) (by kernel_rfl) (by kernel_rfl) (fun _ _ _ h => h) ⟨by rfl, ?_⟩ hT ?_
        · rintro w hTw
          go_simp
        (try simp only [Act.put, List.getElem_toArray, List.getElem_cons_succ, List.getElem_cons_zero, List.setIfInBounds_toArray, List.set_cons_succ, List.set_cons_zero])
        refine wpTwo_takeT (i := 6) (v := .bool true) rfl (by kernel_rfl) (by kernel_rfl) (by kernel_rfl) (fun _ _ _ h => h) ⟨by rfl, ?_⟩ hT ?_
        · rintro w hTw
          go_simp
        (try simp only [Act.put, List.getElem_toArray, List.getElem_cons_succ, List.getElem_cons_zero, List.setIfInBounds_toArray, List.set_cons_succ, List.set_cons_zero])
        refine wpTwo_takeT (i := 7) (v := .bool true) rfl (by kernel_rfl) (by kernel_rfl) (by kernel_rfl) (fun _ _ _ h => h) ⟨by rfl, ?_⟩ hT ?_
        · rintro w hTw
          go_simp
        (try simp only [Act.put, List.getElem_toArray, List.getElem_cons_succ, List.getElem_cons_zero, List.setIfInBounds_toArray, List.set_cons_succ, List.set_cons_zero])
        refine wpTwo_takeT (i := 8) (v := .bool true) rfl (by kernel_rfl) (by kernel_rfl) (by kernel_rfl) (fun _ _ _ h => h) ⟨by rfl, ?_⟩ hT ?_
        · rintro w hTw
          go_simp
        (try simp only [Act.put, List.getElem_toArray, List.getElem_cons_succ, List.getElem_cons_zero, List.setIfInBounds_toArray, List.set_cons_succ, List.set_cons_zero])
        refine wpTwo_takeT (i := 9) (v := .pointer (some ⟨z, 0, none⟩)) rfl (by kernel_rfl) (by kernel_rfl) (by kernel_rfl) (fun _ _ _ h => h) ⟨by rfl, ?_⟩ hT ?_
        · rintro w hTw
          go_simp
        (try simp only [Act.put, List.getElem_toArray, List.getElem_cons_succ, List.getElem_cons_zero, List.setIfInBounds_toArray, List.set_cons_succ, List.set_cons_zero])
        refine wpTwo_takeT (i := 10) (v := .int .i64 a) rfl (by kernel_rfl) (by kernel_rfl) (by kernel_rfl) (fun _ _ _ h => h) ⟨by rfl, ?_⟩ hT ?_
        · rintro w hTw
          obtain ⟨t0, t1, t2⟩ := hTw.1.cells
          go_simp
        (try simp only [Act.put, List.getElem_toArray, List.getElem_cons_succ, List.getElem_cons_zero, List.setIfInBounds_toArray, List.set_cons_succ, List.set_cons_zero])
        refine wpTwo_takeT (i := 12) (v := .pointer (some ⟨z, 0, none⟩)) rfl (by kernel_rfl) (by kernel_rfl) (by kernel_rfl) (fun _ _ _ h => h) ⟨by rfl, ?_⟩ hT ?_
        · rintro w hTw
          go_simp
        (try simp only [Act.put, List.getElem_toArray, List.getElem_cons_succ, List.getElem_cons_zero, List.setIfInBounds_toArray, List.set_cons_succ, List.set_cons_zero])
        refine wpTwo_takeT (i := 13) (v := .int .i64 a) rfl (by kernel_rfl) (by kernel_rfl) (by kernel_rfl) (fun _ _ _ h => h) ⟨by rfl, ?_⟩ hT ?_
        · rintro w hTw
          obtain ⟨t0, t1, t2⟩ := hTw.1.cells
          go_simp
        (try simp only [Act.put, List.getElem_toArray, List.getElem_cons_succ, List.getElem_cons_zero, List.setIfInBounds_toArray, List.set_cons_succ, List.set_cons_zero])
        refine wpTwo_takeT (i := 14) (v := .agg #[.int .i64 a, .int .i64 0, .int .u64 0]) rfl (by kernel_rfl) (by kernel_rfl) (by kernel_rfl) (fun _ _ _ h => h) ⟨by rfl, ?_⟩ hT ?_
        · rintro w hTw
          go_simp
        (try simp only [Act.put, List.getElem_toArray, List.getElem_cons_succ, List.getElem_cons_zero, List.setIfInBounds_toArray, List.set_cons_succ, List.set_cons_zero])
        refine wpTwo_ready (rs := [11]) (by kernel_rfl) (by simp) ?_
        refine (AllTwo.cons rfl (fun K hK => ?_) AllTwo.nil)
        go_simp
        refine (HASK.out _).mono ?_
        rintro e X1 ⟨rfl, hb⟩
        have hT := And.intro (hT.1.below hb) (And.intro (hT.2.1.below hb) (hT.2.2.below hb))
        have HBY := Lib.hid (below_then HBX.out HBX.out.size hb)
        clear hb HBX
        go_wp2_with fail
        refine hK.out _ _ ⟨hT, fun _ _ => trivial⟩ ?_
        clear hK K
        (try simp only [Act.put, List.getElem_toArray, List.getElem_cons_succ, List.getElem_cons_zero, List.setIfInBounds_toArray, List.set_cons_succ, List.set_cons_zero])
        refine wpTwo_takeT (i := 15) (v := .bool true) rfl (by kernel_rfl) (by kernel_rfl) (by kernel_rfl) (fun _ _ _ h => h) ⟨by rfl, ?_⟩ hT ?_
        · rintro w hTw
          go_simp
        (try simp only [Act.put, List.getElem_toArray, List.getElem_cons_succ, List.getElem_cons_zero, List.setIfInBounds_toArray, List.set_cons_succ, List.set_cons_zero])
        refine wpTwo_takeT (i := 16) (v := .bool true) rfl (by kernel_rfl) (by kernel_rfl) (by kernel_rfl) (fun _ _ _ h => h) ⟨by rfl, ?_⟩ hT ?_
        · rintro w hTw
          go_simp
        (try simp only [Act.put, List.getElem_toArray, List.getElem_cons_succ, List.getElem_cons_zero, List.setIfInBounds_toArray, List.set_cons_succ, List.set_cons_zero])
        refine wpTwo_takeT (i := 17) (v := .bool true) rfl (by kernel_rfl) (by kernel_rfl) (by kernel_rfl) (fun _ _ _ h => h) ⟨by rfl, ?_⟩ hT ?_
        · rintro w hTw
          go_simp
        (try simp only [Act.put, List.getElem_toArray, List.getElem_cons_succ, List.getElem_cons_zero, List.setIfInBounds_toArray, List.set_cons_succ, List.set_cons_zero])
        refine wpTwo_end (by kernel_rfl) ?_ _
        go_wp2
        go_ret
        exact ⟨rfl, HBY.out⟩
      · have h6' : ((i : Int) == 6) = false := by rw [beq_eq_false_iff_ne]; omega
        go_upto_region 15 with (fail)
        rw [← HW6.out]
        obtain ⟨s0, s1, s2⟩ := HS6.out.cells
        obtain ⟨g0, g1⟩ := HG6.out.cells
        have HTKV := Lib.hid (HTK.out gv gd)
        have HRKV := Lib.hid (HRK.out gv gd)
        obtain ⟨⟨a2, p2, t2⟩, htk⟩ : ∃ s2, s2 = takeS ⟨a, p, t⟩ gv gd := ⟨_, rfl⟩
        rw [← htk] at HTKV HRKV
        simp only [spV] at HTKV HRKV
        clear htk
        go_wp2_with fail
        refine (HTKV.out _).mono ?_
        rintro e w7 ⟨rfl, hb⟩
        obtain ⟨y2, hy2⟩ : ∃ y, y = w7.heap.size := ⟨_, rfl⟩
        obtain ⟨yg, hyg⟩ : ∃ y, y = wr.heap.size := ⟨_, rfl⟩
        obtain ⟨w8, hw8⟩ : ∃ w8 : World, w8 = (w7.alloc (.cells #[.int .i64 a2, .int .i64 p2, .int .u64 t2] 24)).alloc (.cells #[.int .i64 0, .int .i64 0, .int .u64 0] 24) := ⟨_, rfl⟩
        have hb8 : Below w7.heap.size w7 w8 := by rw [hw8]; exact below2 w7 _ _
        have HN8 := Lib.hid (show SpBox w8 y2 a2 p2 t2 ∧ SpBox w8 (y2 + 1) 0 0 0 by rw [hw8, hy2]; exact two_spin w7 a2 p2 t2 0 0 0)
        have HS7 := Lib.hid (HS6.out.below hb)
        have HS8 := Lib.hid (HS7.out.below hb8)
        have HG7 := Lib.hid (HG6.out.below hb)
        rw [← hyg] at HG7 ⊢
        have HG8 := Lib.hid (HG7.out.below hb8)
        have HB7 := Lib.hid (below_then HB6.out HB6.out.size hb)
        have HB8 := Lib.hid (below_then HB7.out HB7.out.size hb8)
        have hzy2 : z < y2 := by rw [hy2]; exact HS7.out.lt
        have hyW2 : W.heap.size ≤ y2 := by rw [hy2]; exact HB7.out.size
        have HW8 := Lib.hid (And.intro hw8 hy2)
        clear s0 s1 s2 g0 g1 hb c0 c1 hw8 hy2 hyg hb8
        obtain ⟨s0, s1, s2⟩ := HS7.out.cells
        go_upto_region 19 with (fail)
        rw [← HW8.out.1, ← HW8.out.2]
        clear s0 s1 s2 HW8 HS7 HB7 HG7
        obtain ⟨s0, s1, s2⟩ := HS8.out.cells
        go_wp2_with fail
        refine (HHS.out _).mono ?_
        rintro e w9 ⟨rfl, hb⟩
        have HN9 := Lib.hid (And.intro (HN8.out.1.below hb) (HN8.out.2.below hb))
        have HG9 := Lib.hid (HG8.out.below hb)
        have HS9 := Lib.hid (HS8.out.below hb)
        have HB9 := Lib.hid (below_then HB8.out HB8.out.size hb)
        clear s0 s1 s2 hb HN8 HG8 HS8 HB8
        obtain ⟨s0, s1, s2⟩ := HS9.out.cells
        obtain ⟨g0, g1⟩ := HG9.out.cells
        go_wp2_with fail
        refine (HRKV.out _).mono ?_
        rintro e w10 ⟨rfl, hb⟩
        have HN10 := Lib.hid (And.intro (HN9.out.1.below hb) (HN9.out.2.below hb))
        have HS10 := Lib.hid (HS9.out.below hb)
        have HB10 := Lib.hid (below_then HB9.out HB9.out.size hb)
        clear s0 s1 s2 g0 g1 hb HN9 HG9 HS9 HB9
        obtain ⟨n0, n1, n2⟩ := HN10.out.2.cells
        have f0 := HN10.out.2.free 0
        have f1 := HN10.out.2.free 1
        have f2 := HN10.out.2.free 2
        obtain ⟨w11, hw11⟩ : ∃ w11 : World, w11 = ((w10.setCell ⟨y2 + 1, 0, none⟩ (.int .i64 a2)).setCell ⟨y2 + 1, 1, none⟩ (.int .i64 p2)).setCell ⟨y2 + 1, 2, none⟩ (.int .u64 t2) := ⟨_, rfl⟩
        have hk : Keeps (· = y2 + 1) w10 w11 := by
          rw [hw11]
          exact ((Keeps.setCell w10 (S := (· = y2 + 1)) (p := ⟨y2 + 1, 0, none⟩) rfl _).trans (Keeps.setCell _ (S := (· = y2 + 1)) (p := ⟨y2 + 1, 1, none⟩) rfl _)).trans (Keeps.setCell _ (S := (· = y2 + 1)) (p := ⟨y2 + 1, 2, none⟩) rfl _)
        have HN11 := Lib.hid (show SpBox w11 y2 a2 p2 t2 ∧ SpBox w11 (y2 + 1) a2 p2 t2 from ⟨HN10.out.1.keeps hk (fun e => by have e : y2 = y2 + 1 := e; omega), by
          unfold SpBox
          rw [hw11, heap_setCell_same _ (y2 + 1) 2 _ _ _ (heap_setCell_same _ (y2 + 1) 1 _ _ _ (heap_setCell_same w10 (y2 + 1) 0 _ _ _ HN10.out.2))]; rfl⟩)
        have HS11 := Lib.hid (HS10.out.keeps hk (fun e => by have e : z = y2 + 1 := e; omega))
        have HB11 := Lib.hid (HB10.out.trans (hk.below HB10.out.size (fun q hq => by have e : q = y2 + 1 := hq; omega)))
        have HW11 := Lib.hid hw11
        clear hw11 hk HN10 HS10 HB10
        go_upto_region 21 with (fail)
        rw [← HW11.out]
        clear n0 n1 n2 f0 f1 f2 HW11
        obtain ⟨m0, m1, m2⟩ := HN11.out.1.cells
        obtain ⟨n0, n1, n2⟩ := HN11.out.2.cells
        go_wp2
        go_roundw
        case rel => exact ⟨i + 1, by omega, by omega, by go_num, HS11, HB11⟩
        case measure => simp [intOf]; omega
    · go_upto_region 24 with (fail)
      obtain ⟨s0, s1, s2⟩ := HSR.out.cells
      go_wp2_with fail
      refine (HLV.out _).mono ?_
      rintro e w8 ⟨rfl, hb⟩
      clear s0 s1 s2
      have HS8 := Lib.hid (HSR.out.below hb)
      have HB8 := Lib.hid (below_then HBR.out HBR.out.size hb)
      obtain ⟨s0, s1, s2⟩ := (HS8.out.below (below2 w8 (.cells #[.int .i64 0, .int .i64 0, .int .u64 0] 24) (.cells #[.int .i64 0, .int .i64 0, .int .u64 0] 24))).cells
      clear hb
      obtain ⟨y, hy⟩ : ∃ y, y = w8.heap.size := ⟨_, rfl⟩
      obtain ⟨w9, hw9⟩ : ∃ w9 : World, w9 = (w8.alloc (.cells #[.int .i64 0, .int .i64 0, .int .u64 0] 24)).alloc (.cells #[.int .i64 0, .int .i64 0, .int .u64 0] 24) := ⟨_, rfl⟩
      have hb9 : Below w8.heap.size w8 w9 := by rw [hw9]; exact below2 w8 _ _
      have HS9 := HS8.out.below hb9
      have HL1 : SpBox w9 y 0 0 0 := by rw [hw9, hy]; exact ((below1 (w8.alloc (.cells #[.int .i64 0, .int .i64 0, .int .u64 0] 24)) _).block _ (by simp)).trans (World.alloc_heap_new w8 _)
      have HL2 : SpBox w9 (y + 1) 0 0 0 := by
        have := World.alloc_heap_new (w8.alloc (.cells #[.int .i64 0, .int .i64 0, .int .u64 0] 24)) (.cells #[.int .i64 0, .int .i64 0, .int .u64 0] 24)
        rw [World.size_alloc, ← hw9, ← hy] at this
        exact this
      have HB9 := Lib.hid (below_then HB8.out HB8.out.size hb9)
      have HW9 := Lib.hid (And.intro hw9 hy)
      have HT9 := Lib.hid (And.intro HS9 (And.intro HL1 HL2))
      clear hw9 hy hb9 HS9 HL1 HL2 HS8 HB8
      go_upto_region 31 with (fail)
      rw [← HW9.out.1, ← HW9.out.2]
      refine wpTwo_begin (T := fun w' => SpBox w' z a p t ∧ SpBox w' y 0 0 0 ∧ SpBox w' (y + 1) 0 0 0) (S := fun _ => True) (late := fun _ => false) (by kernel_rfl) ?_
      obtain ⟨X0, hX0⟩ : ∃ X : World, X = w9.drew := ⟨_, rfl⟩
      rw [← hX0]
      have hbX : Below w9.heap.size w9 X0 := by rw [hX0]; exact (Below.refl _ _).drew
      have hT := And.intro (HT9.out.1.below hbX) (And.intro (HT9.out.2.1.below hbX) (HT9.out.2.2.below hbX))
      have HBX := Lib.hid (below_then HB9.out HB9.out.size hbX)
      clear hX0 hbX HT9 HB9 HW9 s0 s1 s2
      refine wpTwo_takeT (i := 0) (v := .agg #[.int .i64 0, .int .i64 0, .int .u64 0]) rfl (by kernel_rfl) (by kernel_rfl) (by kernel_rfl) (fun _ _ _ h => h) ⟨by rfl, ?_⟩ hT ?_
      · rintro w hTw
        obtain ⟨t0, t1, t2⟩ := hTw.2.1.cells
        go_simp
      (try simp only [Act.put, List.getElem_toArray, List.getElem_cons_zero, List.setIfInBounds_toArray, List.set_cons_succ, List.set_cons_zero])
      refine wpTwo_takeT (i := 1) (v := .agg #[.int .i64 0, .int .i64 0, .int .u64 0]) rfl (by kernel_rfl) (by kernel_rfl) (by kernel_rfl) (fun _ _ _ h => h) ⟨by rfl, ?_⟩ hT ?_
      · rintro w hTw
        obtain ⟨t0, t1, t2⟩ := hTw.2.2.cells
        go_simp
      (try simp only [Act.put, List.getElem_toArray, List.getElem_cons_succ, List.getElem_cons_zero, List.setIfInBounds_toArray, List.set_cons_succ, List.set_cons_zero])
      refine wpTwo_takeT (i := 2) (v := .bool true) rfl (by kernel_rfl) (by kernel_rfl) (by kernel_rfl) (fun _ _ _ h => h) ⟨by rfl, ?_⟩ hT ?_
      · rintro w hTw
        go_simp
      (try simp only [Act.put, List.getElem_toArray, List.getElem_cons_succ, List.getElem_cons_zero, List.setIfInBounds_toArray, List.set_cons_succ, List.set_cons_zero])
      refine wpTwo_takeT (i := 3) (v := .bool true) rfl (by kernel_rfl) (by kernel_rfl) (by kernel_rfl) (fun _ _ _ h => h) ⟨by rfl, ?_⟩ hT ?_
      · rintro w hTw
        go_simp
      (try simp only [Act.put, List.getElem_toArray, List.getElem_cons_succ, List.getElem_cons_zero, List.setIfInBounds_toArray, List.set_cons_succ, List.set_cons_zero])
      refine wpTwo_takeT (i := 4) (v := .int .i64 2) rfl (by kernel_rfl) (by kernel_rfl) (by kernel_rfl) (fun _ _ _ h => h) ⟨by rfl, ?_⟩ hT ?_
      · rintro w hTw
        go_simp
      (try simp only [Act.put, List.getElem_toArray, List.getElem_cons_succ, List.getElem_cons_zero, List.setIfInBounds_toArray, List.set_cons_succ, List.set_cons_zero])
      refine wpTwo_takeT (i := 5) (v := .int .i64 2) rfl (by kernel_rfl) (by kernel_rfl) (by kernel_rfl) (fun _ _ _ h => h) ⟨by rfl, ?_⟩ hT ?_
      · rintro w hTw
        go_simp
      (try simp only [Act.put, List.getElem_toArray, List.getElem_cons_succ, List.getElem_cons_zero, List.setIfInBounds_toArray, List.set_cons_succ, List.set_cons_zero])
      refine wpTwo_takeT (i := 6) (v := .bool true) rfl (by kernel_rfl) (by kernel_rfl) (by kernel_rfl) (fun _ _ _ h => h) ⟨by rfl, ?_⟩ hT ?_
      · rintro w hTw
        go_simp
      (try simp only [Act.put, List.getElem_toArray, List.getElem_cons_succ, List.getElem_cons_zero, List.setIfInBounds_toArray, List.set_cons_succ, List.set_cons_zero])
      refine wpTwo_takeT (i := 7) (v := .bool true) rfl (by kernel_rfl) (by kernel_rfl) (by kernel_rfl) (fun _ _ _ h => h) ⟨by rfl, ?_⟩ hT ?_
      · rintro w hTw
        go_simp
      (try simp only [Act.put, List.getElem_toArray, List.getElem_cons_succ, List.getElem_cons_zero, List.setIfInBounds_toArray, List.set_cons_succ, List.set_cons_zero])
      refine wpTwo_takeT (i := 8) (v := .bool true) rfl (by kernel_rfl) (by kernel_rfl) (by kernel_rfl) (fun _ _ _ h => h) ⟨by rfl, ?_⟩ hT ?_
      · rintro w hTw
        go_simp
      (try simp only [Act.put, List.getElem_toArray, List.getElem_cons_succ, List.getElem_cons_zero, List.setIfInBounds_toArray, List.set_cons_succ, List.set_cons_zero])
      refine wpTwo_takeT (i := 9) (v := .pointer (some ⟨z, 0, none⟩)) rfl (by kernel_rfl) (by kernel_rfl) (by kernel_rfl) (fun _ _ _ h => h) ⟨by rfl, ?_⟩ hT ?_
      · rintro w hTw
        go_simp
      (try simp only [Act.put, List.getElem_toArray, List.getElem_cons_succ, List.getElem_cons_zero, List.setIfInBounds_toArray, List.set_cons_succ, List.set_cons_zero])
      refine wpTwo_takeT (i := 10) (v := .int .i64 a) rfl (by kernel_rfl) (by kernel_rfl) (by kernel_rfl) (fun _ _ _ h => h) ⟨by rfl, ?_⟩ hT ?_
      · rintro w hTw
        obtain ⟨t0, t1, t2⟩ := hTw.1.cells
        go_simp
      (try simp only [Act.put, List.getElem_toArray, List.getElem_cons_succ, List.getElem_cons_zero, List.setIfInBounds_toArray, List.set_cons_succ, List.set_cons_zero])
      refine wpTwo_takeT (i := 12) (v := .pointer (some ⟨z, 0, none⟩)) rfl (by kernel_rfl) (by kernel_rfl) (by kernel_rfl) (fun _ _ _ h => h) ⟨by rfl, ?_⟩ hT ?_
      · rintro w hTw
        go_simp
      (try simp only [Act.put, List.getElem_toArray, List.getElem_cons_succ, List.getElem_cons_zero, List.setIfInBounds_toArray, List.set_cons_succ, List.set_cons_zero])
      refine wpTwo_takeT (i := 13) (v := .int .i64 a) rfl (by kernel_rfl) (by kernel_rfl) (by kernel_rfl) (fun _ _ _ h => h) ⟨by rfl, ?_⟩ hT ?_
      · rintro w hTw
        obtain ⟨t0, t1, t2⟩ := hTw.1.cells
        go_simp
      (try simp only [Act.put, List.getElem_toArray, List.getElem_cons_succ, List.getElem_cons_zero, List.setIfInBounds_toArray, List.set_cons_succ, List.set_cons_zero])
      refine wpTwo_takeT (i := 14) (v := .agg #[.int .i64 a, .int .i64 0, .int .u64 0]) rfl (by kernel_rfl) (by kernel_rfl) (by kernel_rfl) (fun _ _ _ h => h) ⟨by rfl, ?_⟩ hT ?_
      · rintro w hTw
        go_simp
      (try simp only [Act.put, List.getElem_toArray, List.getElem_cons_succ, List.getElem_cons_zero, List.setIfInBounds_toArray, List.set_cons_succ, List.set_cons_zero])
      refine wpTwo_ready (rs := [11]) (by kernel_rfl) (by simp) ?_
      refine (AllTwo.cons rfl (fun K hK => ?_) AllTwo.nil)
      go_simp
      refine (HASK.out _).mono ?_
      rintro e X1 ⟨rfl, hb⟩
      have hT := And.intro (hT.1.below hb) (And.intro (hT.2.1.below hb) (hT.2.2.below hb))
      have HBY := Lib.hid (below_then HBX.out HBX.out.size hb)
      clear hb HBX
      go_wp2_with fail
      refine hK.out _ _ ⟨hT, fun _ _ => trivial⟩ ?_
      clear hK K
      (try simp only [Act.put, List.getElem_toArray, List.getElem_cons_succ, List.getElem_cons_zero, List.setIfInBounds_toArray, List.set_cons_succ, List.set_cons_zero])
      refine wpTwo_takeT (i := 15) (v := .bool true) rfl (by kernel_rfl) (by kernel_rfl) (by kernel_rfl) (fun _ _ _ h => h) ⟨by rfl, ?_⟩ hT ?_
      · rintro w hTw
        go_simp
      (try simp only [Act.put, List.getElem_toArray, List.getElem_cons_succ, List.getElem_cons_zero, List.setIfInBounds_toArray, List.set_cons_succ, List.set_cons_zero])
      refine wpTwo_takeT (i := 16) (v := .bool true) rfl (by kernel_rfl) (by kernel_rfl) (by kernel_rfl) (fun _ _ _ h => h) ⟨by rfl, ?_⟩ hT ?_
      · rintro w hTw
        go_simp
      (try simp only [Act.put, List.getElem_toArray, List.getElem_cons_succ, List.getElem_cons_zero, List.setIfInBounds_toArray, List.set_cons_succ, List.set_cons_zero])
      refine wpTwo_takeT (i := 17) (v := .bool true) rfl (by kernel_rfl) (by kernel_rfl) (by kernel_rfl) (fun _ _ _ h => h) ⟨by rfl, ?_⟩ hT ?_
      · rintro w hTw
        go_simp
      (try simp only [Act.put, List.getElem_toArray, List.getElem_cons_succ, List.getElem_cons_zero, List.setIfInBounds_toArray, List.set_cons_succ, List.set_cons_zero])
      refine wpTwo_end (by kernel_rfl) ?_ _
      go_wp2
      go_ret
      exact ⟨rfl, HBY.out⟩

set_option maxRecDepth 100000 in
set_option maxHeartbeats 16000000 in
theorem takes_C3 (a t : Int) (hs : SpR ⟨a, 3, t⟩) (hr : rightS ⟨a, 3, t⟩ = true) (v : Value) (gs : List (Int × Bool)) (W : World) (hv : GotsAt W v gs) (hmax : gs.length ≤ 9223372036854775807) :
    Calls Try.prog 3 #[.agg #[.int .i64 a, .int .i64 3, .int .u64 t], v] W fun e w' => e = .returned (.bool true) ∧ Below W.heap.size W w' := by
  obtain ⟨q, cap, rfl, hc⟩ := hv
  obtain ⟨n, hn⟩ : ∃ n, n = gs.length := ⟨_, rfl⟩
  rw [← hn] at hmax
  rw [← hn]
  have HC := Lib.hid hc
  have HN := Lib.hid hn
  have HRT := Lib.hid (show ∀ Z : World, Calls Try.prog 9 #[.agg #[.int .i64 a, .int .i64 3, .int .u64 t]] Z fun e w' => e = .returned (.bool true) ∧ Below Z.heap.size Z w' from fun Z => by
    have := qrright ⟨a, 3, t⟩ Z
    rwa [hr] at this)
  have HCK := Lib.hid (show ∀ (Z : World), Calls Try.prog 10 #[.agg #[.int .i64 a, .int .i64 3, .int .u64 t]] Z fun e w' => e = .returned (.int .i64 0) ∧ Below Z.heap.size Z w' from fun Z => qcheck_yes ⟨a, 3, t⟩ hr Z)
  have HND := Lib.hid (show ∀ (Z : World), Calls Try.prog 11 #[.agg #[.int .i64 a, .int .i64 3, .int .u64 t]] Z fun e w' => e = .returned (.tuple #[.agg #[.int .i64 0, .int .i64 0, .int .u64 0, .int .u64 0], .bool false]) ∧ Below Z.heap.size Z w' from fun Z => qneed_no ⟨a, 3, t⟩ hs (.inr rfl) Z)
  have HHS := Lib.hid (show ∀ (Z : World), Calls Try.prog 12 #[.agg #[.int .i64 a, .int .i64 3, .int .u64 t]] Z fun e w' => e = .returned (.bool false) ∧ Below Z.heap.size Z w' from fun Z => qrhas ⟨a, 3, t⟩ Z)
  have HTK := Lib.hid (show ∀ (v : Int) (d : Bool) (Z : World), Calls Try.prog 14 #[.agg #[.int .i64 a, .int .i64 3, .int .u64 t], .agg #[.int .u64 v, .bool d]] Z fun e w' => e = .returned (.tuple #[.agg #[.int .i64 0, .int .i64 0, .int .u64 0], .int .i64 2]) ∧ Below Z.heap.size Z w' from fun v d Z => qtake_arg ⟨a, 3, t⟩ hr hs rfl v d Z)
  have HLV := Lib.hid (show ∀ (Z : World), Calls Try.prog 16 #[.agg #[.int .i64 a, .int .i64 3, .int .u64 t]] Z fun e w' => e = .returned (.tuple #[.agg #[.int .i64 a, .int .i64 4, .int .u64 t], .int .i64 0]) ∧ Below Z.heap.size Z w' from fun Z => qleave_held ⟨a, 3, t⟩ hr rfl Z)
  have HASK := Lib.hid (show ∀ Z : World, Calls Try.prog 17 #[.int .i64 a] Z fun e w' => e = .returned (.agg #[.int .i64 a, .int .i64 0, .int .u64 0]) ∧ Below Z.heap.size Z w' from fun Z => qask a Z)
  clear hc hn hr
  obtain ⟨z, hz⟩ : ∃ z, z = W.heap.size := ⟨_, rfl⟩
  have HZ := Lib.hid hz
  have hb0 := below1 W (.cells #[.int .i64 a, .int .i64 3, .int .u64 t] 24)
  have HS0 := Lib.hid (show SpBox (W.alloc (.cells #[.int .i64 a, .int .i64 3, .int .u64 t] 24)) z a 3 t by rw [hz]; exact World.alloc_heap_new W _)
  have HB0 := Lib.hid hb0
  clear hb0
  go_enter Try.func3, Try.ntmps3
  go_wp2_with fail
  rw [← hz]
  clear hz
  refine (qwakes _).mono ?_
  rintro e w1 ⟨rfl, hb⟩
  have HS1 := Lib.hid (HS0.out.below hb)
  have HB1 := Lib.hid (below_then HB0.out HB0.out.size hb)
  obtain ⟨s0, s1, s2⟩ := HS1.out.cells
  clear hb HS0 HB0
  go_wp2_with fail
  refine (HRT.out _).mono ?_
  rintro e w2 ⟨rfl, hb⟩
  clear s0 s1 s2
  have HS2 := Lib.hid (HS1.out.below hb)
  have HB2 := Lib.hid (below_then HB1.out HB1.out.size hb)
  obtain ⟨s0, s1, s2⟩ := HS2.out.cells
  clear hb HS1 HB1
  go_wp2_with fail
  refine (HCK.out _).mono ?_
  rintro e w3 ⟨rfl, hb⟩
  clear s0 s1 s2
  have HS3 := Lib.hid (HS2.out.below hb)
  have HB3 := Lib.hid (below_then HB2.out HB2.out.size hb)
  obtain ⟨s0, s1, s2⟩ := HS3.out.cells
  clear hb HS2 HB2
  go_wp2_with fail
  refine (HND.out _).mono ?_
  rintro e w4 ⟨rfl, hb⟩
  clear s0 s1 s2
  have HS4 := Lib.hid (HS3.out.below hb)
  have HB4 := Lib.hid (below_then HB3.out HB3.out.size hb)
  obtain ⟨s0, s1, s2⟩ := HS4.out.cells
  clear hb HS3 HB3
  clear s0 s1 s2
  obtain ⟨s0, s1, s2⟩ := (HS4.out.below (below2 w4 (.cells #[.int .i64 0, .int .i64 0, .int .u64 0, .int .u64 0] 31) (.cells #[.int .i64 0, .int .i64 0, .int .u64 0, .int .u64 0] 31))).cells
  go_wp2_with fail
  obtain ⟨w5, hw5⟩ : ∃ w5 : World, w5 = (w4.alloc (.cells #[.int .i64 0, .int .i64 0, .int .u64 0, .int .u64 0] 31)).alloc (.cells #[.int .i64 0, .int .i64 0, .int .u64 0, .int .u64 0] 31) := ⟨_, rfl⟩
  obtain ⟨y0, hy0⟩ : ∃ y, y = w4.heap.size := ⟨_, rfl⟩
  have hb : Below w4.heap.size w4 w5 := by rw [hw5]; exact below2 w4 _ _
  have HA5 := Lib.hid (show AcBox w5 y0 0 0 0 0 ∧ AcBox w5 (y0 + 1) 0 0 0 0 by rw [hw5, hy0]; exact two_acc w4 0 0 0 0 0 0 0 0)
  have HS5 := Lib.hid (HS4.out.below hb)
  have HB5 := Lib.hid (below_then HB4.out HB4.out.size hb)
  rw [← hw5, ← hy0]
  clear hb hw5 hy0 s0 s1 s2 HS4 HB4
  obtain ⟨s0, s1, s2⟩ := HS5.out.cells
  refine (HHS.out _).mono ?_
  rintro e w6 ⟨rfl, hb⟩
  have HA6 := Lib.hid (And.intro (HA5.out.1.below hb) (HA5.out.2.below hb))
  have HS6 := Lib.hid (HS5.out.below hb)
  have HB6 := Lib.hid (below_then HB5.out HB5.out.size hb)
  clear hb s0 s1 s2 HS5 HB5 HA5
  obtain ⟨s0, s1, s2⟩ := HS6.out.cells
  obtain ⟨k0, k1, k2, k3⟩ := HA6.out.1.cells
  obtain ⟨l0, l1, l2, l3⟩ := HA6.out.2.cells
  go_wp2_with fail
  refine (HHS.out _).mono ?_
  rintro e w7 ⟨rfl, hb⟩
  have HA7 := Lib.hid (And.intro (HA6.out.1.below hb) (HA6.out.2.below hb))
  have HS7 := Lib.hid (HS6.out.below hb)
  have HB7 := Lib.hid (below_then HB6.out HB6.out.size hb)
  clear hb s0 s1 s2 k0 k1 k2 k3 l0 l1 l2 l3 HS6 HB6 HA6
  obtain ⟨s0, s1, s2⟩ := HS7.out.cells
  obtain ⟨k0, k1, k2, k3⟩ := HA7.out.1.cells
  obtain ⟨l0, l1, l2, l3⟩ := HA7.out.2.cells
  go_wp2_with fail
  go_loopw [66] (fun iv wr => ∃ i : Nat, i ≤ n ∧ i ≤ 6 ∧ iv = .int .i64 i ∧ Hid (SpBox wr z a 3 t) ∧ Hid (Below W.heap.size W wr)) (fun iv _ => n - (intOf iv).toNat)
  case atStart => exact ⟨0, Nat.zero_le _, Nat.zero_le _, rfl, HS7, HB7⟩
  case round =>
    obtain ⟨i, hi, hi6, rfl, HSR, HBR⟩ := hrel
    clear s0 s1 s2
    by_cases hlt : i < n
    · have hil : i < gs.length := by have := HN.out; omega
      obtain ⟨b, off, rfl, hcs⟩ := HC.out (by intro e; rw [e] at hil; cases hil)
      obtain ⟨c0, c1⟩ := hcs i hil
      obtain ⟨⟨gv, gd⟩, hge⟩ : ∃ g, g = gs[i] := ⟨_, rfl⟩
      rw [← hge] at c0 c1
      have c0 := below_cell HBR.out c0
      have c1 := below_cell HBR.out c1
      simp only at c0 c1
      clear hcs hge
      obtain ⟨w6, hw6⟩ : ∃ w6 : World, w6 = wr.alloc (.cells #[.int .u64 gv, .bool gd] 36) := ⟨_, rfl⟩
      have hb6 : Below wr.heap.size wr w6 := by rw [hw6]; exact below1 wr _
      have HS6 := Lib.hid (HSR.out.below hb6)
      have HB6 := Lib.hid (below_then HBR.out HBR.out.size hb6)
      have HG6 := Lib.hid (show GBox w6 wr.heap.size gv gd by rw [hw6]; exact World.alloc_heap_new wr _)
      have HW6 := Lib.hid hw6
      clear hw6 hb6
      by_cases h6 : i = 6
      · subst h6
        go_upto_region 24 with (fail)
        rw [← HW6.out]
        obtain ⟨s0, s1, s2⟩ := HS6.out.cells
        go_wp2_with fail
        refine (HLV.out _).mono ?_
        rintro e w8 ⟨rfl, hb⟩
        clear s0 s1 s2
        have HS8 := Lib.hid (HS6.out.below hb)
        have HB8 := Lib.hid (below_then HB6.out HB6.out.size hb)
        obtain ⟨s0, s1, s2⟩ := (HS8.out.below (below2 w8 (.cells #[.int .i64 a, .int .i64 4, .int .u64 t] 24) (.cells #[.int .i64 0, .int .i64 0, .int .u64 0] 24))).cells
        clear hb
        obtain ⟨y, hy⟩ : ∃ y, y = w8.heap.size := ⟨_, rfl⟩
        obtain ⟨w9, hw9⟩ : ∃ w9 : World, w9 = (w8.alloc (.cells #[.int .i64 a, .int .i64 4, .int .u64 t] 24)).alloc (.cells #[.int .i64 a, .int .i64 4, .int .u64 t] 24) := ⟨_, rfl⟩
        have hb9 : Below w8.heap.size w8 w9 := by rw [hw9]; exact below2 w8 _ _
        have HS9 := HS8.out.below hb9
        have HL1 : SpBox w9 y a 4 t := by rw [hw9, hy]; exact ((below1 (w8.alloc (.cells #[.int .i64 a, .int .i64 4, .int .u64 t] 24)) _).block _ (by simp)).trans (World.alloc_heap_new w8 _)
        have HL2 : SpBox w9 (y + 1) a 4 t := by
          have := World.alloc_heap_new (w8.alloc (.cells #[.int .i64 a, .int .i64 4, .int .u64 t] 24)) (.cells #[.int .i64 a, .int .i64 4, .int .u64 t] 24)
          rw [World.size_alloc, ← hw9, ← hy] at this
          exact this
        have HB9 := Lib.hid (below_then HB8.out HB8.out.size hb9)
        have HW9 := Lib.hid (And.intro hw9 hy)
        have HT9 := Lib.hid (And.intro HS9 (And.intro HL1 HL2))
        clear hw9 hy hb9 HS9 HL1 HL2 HS8 HB8
        go_upto_region 31 with (fail)
        rw [← HW9.out.1, ← HW9.out.2]
        refine wpTwo_begin (T := fun w' => SpBox w' z a 3 t ∧ SpBox w' y a 4 t ∧ SpBox w' (y + 1) a 4 t) (S := fun _ => True) (late := fun _ => false) (by kernel_rfl) ?_
        obtain ⟨X0, hX0⟩ : ∃ X : World, X = w9.drew := ⟨_, rfl⟩
        rw [← hX0]
        have hbX : Below w9.heap.size w9 X0 := by rw [hX0]; exact (Below.refl _ _).drew
        have hT := And.intro (HT9.out.1.below hbX) (And.intro (HT9.out.2.1.below hbX) (HT9.out.2.2.below hbX))
        have HBX := Lib.hid (below_then HB9.out HB9.out.size hbX)
        clear hX0 hbX HT9 HB9 HW9 s0 s1 s2
        refine wpTwo_takeT (i := 0) (v := .agg #[.int .i64 a, .int .i64 4, .int .u64 t]) rfl (by kernel_rfl) (by kernel_rfl) (by kernel_rfl) (fun _ _ _ h => h) ⟨by rfl, ?_⟩ hT ?_
        · rintro w hTw
          obtain ⟨t0, t1, t2⟩ := hTw.2.1.cells
          go_simp
        (try simp only [Act.put, List.getElem_toArray, List.getElem_cons_zero, List.setIfInBounds_toArray, List.set_cons_succ, List.set_cons_zero])
        refine wpTwo_takeT (i := 1) (v := .agg #[.int .i64 a, .int .i64 4, .int .u64 t]) rfl (by kernel_rfl) (by kernel_rfl) (by kernel_rfl) (fun _ _ _ h => h) ⟨by rfl, ?_⟩ hT ?_
        · rintro w hTw
          obtain ⟨t0, t1, t2⟩ := hTw.2.2.cells
          go_simp
        (try simp only [Act.put, List.getElem_toArray, List.getElem_cons_succ, List.getElem_cons_zero, List.setIfInBounds_toArray, List.set_cons_succ, List.set_cons_zero])
        refine wpTwo_takeT (i := 2) (v := .bool true) rfl (by kernel_rfl) (by kernel_rfl) (by kernel_rfl) (fun _ _ _ h => h) ⟨by rfl, ?_⟩ hT ?_
        · rintro w hTw
          go_simp
        (try simp only [Act.put, List.getElem_toArray, List.getElem_cons_succ, List.getElem_cons_zero, List.setIfInBounds_toArray, List.set_cons_succ, List.set_cons_zero])
        refine wpTwo_takeT (i := 3) (v := .bool true) rfl (by kernel_rfl) (by kernel_rfl) (by kernel_rfl) (fun _ _ _ h => h) ⟨by rfl, ?_⟩ hT ?_
        · rintro w hTw
          go_simp
        (try simp only [Act.put, List.getElem_toArray, List.getElem_cons_succ, List.getElem_cons_zero, List.setIfInBounds_toArray, List.set_cons_succ, List.set_cons_zero])
        refine wpTwo_takeT (i := 4) (v := .int .i64 0) rfl (by kernel_rfl) (by kernel_rfl) (by kernel_rfl) (fun _ _ _ h => h) ⟨by rfl, ?_⟩ hT ?_
        · rintro w hTw
          go_simp
        (try simp only [Act.put, List.getElem_toArray, List.getElem_cons_succ, List.getElem_cons_zero, List.setIfInBounds_toArray, List.set_cons_succ, List.set_cons_zero])
        refine wpTwo_takeT (i := 5) (v := .int .i64 0) rfl (by kernel_rfl) (by kernel_rfl) (by kernel_rfl) (fun _ _ _ h => h) ⟨by rfl, ?_⟩ hT ?_
        · rintro w hTw
          go_simp
        (try simp only [Act.put, List.getElem_toArray, List.getElem_cons_succ, List.getElem_cons_zero, List.setIfInBounds_toArray, List.set_cons_succ, List.set_cons_zero])
        refine wpTwo_takeT (i := 6) (v := .bool true) rfl (by kernel_rfl) (by kernel_rfl) (by kernel_rfl) (fun _ _ _ h => h) ⟨by rfl, ?_⟩ hT ?_
        · rintro w hTw
          go_simp
        (try simp only [Act.put, List.getElem_toArray, List.getElem_cons_succ, List.getElem_cons_zero, List.setIfInBounds_toArray, List.set_cons_succ, List.set_cons_zero])
        refine wpTwo_takeT (i := 7) (v := .bool true) rfl (by kernel_rfl) (by kernel_rfl) (by kernel_rfl) (fun _ _ _ h => h) ⟨by rfl, ?_⟩ hT ?_
        · rintro w hTw
          go_simp
        (try simp only [Act.put, List.getElem_toArray, List.getElem_cons_succ, List.getElem_cons_zero, List.setIfInBounds_toArray, List.set_cons_succ, List.set_cons_zero])
        refine wpTwo_takeT (i := 8) (v := .bool true) rfl (by kernel_rfl) (by kernel_rfl) (by kernel_rfl) (fun _ _ _ h => h) ⟨by rfl, ?_⟩ hT ?_
        · rintro w hTw
          go_simp
        (try simp only [Act.put, List.getElem_toArray, List.getElem_cons_succ, List.getElem_cons_zero, List.setIfInBounds_toArray, List.set_cons_succ, List.set_cons_zero])
        refine wpTwo_takeT (i := 9) (v := .pointer (some ⟨z, 0, none⟩)) rfl (by kernel_rfl) (by kernel_rfl) (by kernel_rfl) (fun _ _ _ h => h) ⟨by rfl, ?_⟩ hT ?_
        · rintro w hTw
          go_simp
        (try simp only [Act.put, List.getElem_toArray, List.getElem_cons_succ, List.getElem_cons_zero, List.setIfInBounds_toArray, List.set_cons_succ, List.set_cons_zero])
        refine wpTwo_takeT (i := 10) (v := .int .i64 a) rfl (by kernel_rfl) (by kernel_rfl) (by kernel_rfl) (fun _ _ _ h => h) ⟨by rfl, ?_⟩ hT ?_
        · rintro w hTw
          obtain ⟨t0, t1, t2⟩ := hTw.1.cells
          go_simp
        (try simp only [Act.put, List.getElem_toArray, List.getElem_cons_succ, List.getElem_cons_zero, List.setIfInBounds_toArray, List.set_cons_succ, List.set_cons_zero])
        refine wpTwo_takeT (i := 12) (v := .pointer (some ⟨z, 0, none⟩)) rfl (by kernel_rfl) (by kernel_rfl) (by kernel_rfl) (fun _ _ _ h => h) ⟨by rfl, ?_⟩ hT ?_
        · rintro w hTw
          go_simp
        (try simp only [Act.put, List.getElem_toArray, List.getElem_cons_succ, List.getElem_cons_zero, List.setIfInBounds_toArray, List.set_cons_succ, List.set_cons_zero])
        refine wpTwo_takeT (i := 13) (v := .int .i64 a) rfl (by kernel_rfl) (by kernel_rfl) (by kernel_rfl) (fun _ _ _ h => h) ⟨by rfl, ?_⟩ hT ?_
        · rintro w hTw
          obtain ⟨t0, t1, t2⟩ := hTw.1.cells
          go_simp
        (try simp only [Act.put, List.getElem_toArray, List.getElem_cons_succ, List.getElem_cons_zero, List.setIfInBounds_toArray, List.set_cons_succ, List.set_cons_zero])
        refine wpTwo_takeT (i := 14) (v := .agg #[.int .i64 a, .int .i64 0, .int .u64 0]) rfl (by kernel_rfl) (by kernel_rfl) (by kernel_rfl) (fun _ _ _ h => h) ⟨by rfl, ?_⟩ hT ?_
        · rintro w hTw
          go_simp
        (try simp only [Act.put, List.getElem_toArray, List.getElem_cons_succ, List.getElem_cons_zero, List.setIfInBounds_toArray, List.set_cons_succ, List.set_cons_zero])
        refine wpTwo_ready (rs := [11]) (by kernel_rfl) (by simp) ?_
        refine (AllTwo.cons rfl (fun K hK => ?_) AllTwo.nil)
        go_simp
        refine (HASK.out _).mono ?_
        rintro e X1 ⟨rfl, hb⟩
        have hT := And.intro (hT.1.below hb) (And.intro (hT.2.1.below hb) (hT.2.2.below hb))
        have HBY := Lib.hid (below_then HBX.out HBX.out.size hb)
        clear hb HBX
        go_wp2_with fail
        refine hK.out _ _ ⟨hT, fun _ _ => trivial⟩ ?_
        clear hK K
        (try simp only [Act.put, List.getElem_toArray, List.getElem_cons_succ, List.getElem_cons_zero, List.setIfInBounds_toArray, List.set_cons_succ, List.set_cons_zero])
        refine wpTwo_takeT (i := 15) (v := .bool true) rfl (by kernel_rfl) (by kernel_rfl) (by kernel_rfl) (fun _ _ _ h => h) ⟨by rfl, ?_⟩ hT ?_
        · rintro w hTw
          go_simp
        (try simp only [Act.put, List.getElem_toArray, List.getElem_cons_succ, List.getElem_cons_zero, List.setIfInBounds_toArray, List.set_cons_succ, List.set_cons_zero])
        refine wpTwo_takeT (i := 16) (v := .bool true) rfl (by kernel_rfl) (by kernel_rfl) (by kernel_rfl) (fun _ _ _ h => h) ⟨by rfl, ?_⟩ hT ?_
        · rintro w hTw
          go_simp
        (try simp only [Act.put, List.getElem_toArray, List.getElem_cons_succ, List.getElem_cons_zero, List.setIfInBounds_toArray, List.set_cons_succ, List.set_cons_zero])
        refine wpTwo_takeT (i := 17) (v := .bool true) rfl (by kernel_rfl) (by kernel_rfl) (by kernel_rfl) (fun _ _ _ h => h) ⟨by rfl, ?_⟩ hT ?_
        · rintro w hTw
          go_simp
        (try simp only [Act.put, List.getElem_toArray, List.getElem_cons_succ, List.getElem_cons_zero, List.setIfInBounds_toArray, List.set_cons_succ, List.set_cons_zero])
        refine wpTwo_end (by kernel_rfl) ?_ _
        go_wp2
        go_ret
        exact ⟨rfl, HBY.out⟩
      · have h6' : ((i : Int) == 6) = false := by rw [beq_eq_false_iff_ne]; omega
        go_upto_region 15 with (fail)
        rw [← HW6.out]
        obtain ⟨s0, s1, s2⟩ := HS6.out.cells
        obtain ⟨g0, g1⟩ := HG6.out.cells
        go_wp2_with fail
        refine (HTK.out gv gd _).mono ?_
        rintro e w7 ⟨rfl, hb⟩
        obtain ⟨y2, hy2⟩ : ∃ y, y = w7.heap.size := ⟨_, rfl⟩
        obtain ⟨w8, hw8⟩ : ∃ w8 : World, w8 = (w7.alloc (.cells #[.int .i64 0, .int .i64 0, .int .u64 0] 24)).alloc (.cells #[.int .i64 0, .int .i64 0, .int .u64 0] 24) := ⟨_, rfl⟩
        have hb8 : Below w7.heap.size w7 w8 := by rw [hw8]; exact below2 w7 _ _
        have HN8 := Lib.hid (show SpBox w8 y2 0 0 0 ∧ SpBox w8 (y2 + 1) 0 0 0 by rw [hw8, hy2]; exact two_spin w7 0 0 0 0 0 0)
        have HS7 := Lib.hid (HS6.out.below hb)
        have HS8 := Lib.hid (HS7.out.below hb8)
        have HB7 := Lib.hid (below_then HB6.out HB6.out.size hb)
        have HB8 := Lib.hid (below_then HB7.out HB7.out.size hb8)
        have HW8 := Lib.hid (And.intro hw8 hy2)
        clear s0 s1 s2 g0 g1 hb c0 c1 hw8 hy2 hb8
        obtain ⟨s0, s1, s2⟩ := HS7.out.cells
        go_upto_region 19 with (fail)
        rw [← HW8.out.1, ← HW8.out.2]
        clear s0 s1 s2 HW8
        obtain ⟨s0, s1, s2⟩ := HS8.out.cells
        go_wp2_with fail
        refine (HHS.out _).mono ?_
        rintro e w9 ⟨rfl, hb⟩
        obtain ⟨m0, m1, m2⟩ := (HN8.out.1.below hb).cells
        obtain ⟨n0, n1, n2⟩ := (HN8.out.2.below hb).cells
        have HS9 := Lib.hid (HS8.out.below hb)
        have HB9 := Lib.hid (below_then HB8.out HB8.out.size hb)
        clear s0 s1 s2 hb
        go_wp2
        go_roundw
        case rel => exact ⟨i + 1, by omega, by omega, by go_num, HS9, HB9⟩
        case measure => simp [intOf]; omega
    · go_upto_region 24 with (fail)
      obtain ⟨s0, s1, s2⟩ := HSR.out.cells
      go_wp2_with fail
      refine (HLV.out _).mono ?_
      rintro e w8 ⟨rfl, hb⟩
      clear s0 s1 s2
      have HS8 := Lib.hid (HSR.out.below hb)
      have HB8 := Lib.hid (below_then HBR.out HBR.out.size hb)
      obtain ⟨s0, s1, s2⟩ := (HS8.out.below (below2 w8 (.cells #[.int .i64 a, .int .i64 4, .int .u64 t] 24) (.cells #[.int .i64 0, .int .i64 0, .int .u64 0] 24))).cells
      clear hb
      obtain ⟨y, hy⟩ : ∃ y, y = w8.heap.size := ⟨_, rfl⟩
      obtain ⟨w9, hw9⟩ : ∃ w9 : World, w9 = (w8.alloc (.cells #[.int .i64 a, .int .i64 4, .int .u64 t] 24)).alloc (.cells #[.int .i64 a, .int .i64 4, .int .u64 t] 24) := ⟨_, rfl⟩
      have hb9 : Below w8.heap.size w8 w9 := by rw [hw9]; exact below2 w8 _ _
      have HS9 := HS8.out.below hb9
      have HL1 : SpBox w9 y a 4 t := by rw [hw9, hy]; exact ((below1 (w8.alloc (.cells #[.int .i64 a, .int .i64 4, .int .u64 t] 24)) _).block _ (by simp)).trans (World.alloc_heap_new w8 _)
      have HL2 : SpBox w9 (y + 1) a 4 t := by
        have := World.alloc_heap_new (w8.alloc (.cells #[.int .i64 a, .int .i64 4, .int .u64 t] 24)) (.cells #[.int .i64 a, .int .i64 4, .int .u64 t] 24)
        rw [World.size_alloc, ← hw9, ← hy] at this
        exact this
      have HB9 := Lib.hid (below_then HB8.out HB8.out.size hb9)
      have HW9 := Lib.hid (And.intro hw9 hy)
      have HT9 := Lib.hid (And.intro HS9 (And.intro HL1 HL2))
      clear hw9 hy hb9 HS9 HL1 HL2 HS8 HB8
      go_upto_region 31 with (fail)
      rw [← HW9.out.1, ← HW9.out.2]
      refine wpTwo_begin (T := fun w' => SpBox w' z a 3 t ∧ SpBox w' y a 4 t ∧ SpBox w' (y + 1) a 4 t) (S := fun _ => True) (late := fun _ => false) (by kernel_rfl) ?_
      obtain ⟨X0, hX0⟩ : ∃ X : World, X = w9.drew := ⟨_, rfl⟩
      rw [← hX0]
      have hbX : Below w9.heap.size w9 X0 := by rw [hX0]; exact (Below.refl _ _).drew
      have hT := And.intro (HT9.out.1.below hbX) (And.intro (HT9.out.2.1.below hbX) (HT9.out.2.2.below hbX))
      have HBX := Lib.hid (below_then HB9.out HB9.out.size hbX)
      clear hX0 hbX HT9 HB9 HW9 s0 s1 s2
      refine wpTwo_takeT (i := 0) (v := .agg #[.int .i64 a, .int .i64 4, .int .u64 t]) rfl (by kernel_rfl) (by kernel_rfl) (by kernel_rfl) (fun _ _ _ h => h) ⟨by rfl, ?_⟩ hT ?_
      · rintro w hTw
        obtain ⟨t0, t1, t2⟩ := hTw.2.1.cells
        go_simp
      (try simp only [Act.put, List.getElem_toArray, List.getElem_cons_zero, List.setIfInBounds_toArray, List.set_cons_succ, List.set_cons_zero])
      refine wpTwo_takeT (i := 1) (v := .agg #[.int .i64 a, .int .i64 4, .int .u64 t]) rfl (by kernel_rfl) (by kernel_rfl) (by kernel_rfl) (fun _ _ _ h => h) ⟨by rfl, ?_⟩ hT ?_
      · rintro w hTw
        obtain ⟨t0, t1, t2⟩ := hTw.2.2.cells
        go_simp
      (try simp only [Act.put, List.getElem_toArray, List.getElem_cons_succ, List.getElem_cons_zero, List.setIfInBounds_toArray, List.set_cons_succ, List.set_cons_zero])
      refine wpTwo_takeT (i := 2) (v := .bool true) rfl (by kernel_rfl) (by kernel_rfl) (by kernel_rfl) (fun _ _ _ h => h) ⟨by rfl, ?_⟩ hT ?_
      · rintro w hTw
        go_simp
      (try simp only [Act.put, List.getElem_toArray, List.getElem_cons_succ, List.getElem_cons_zero, List.setIfInBounds_toArray, List.set_cons_succ, List.set_cons_zero])
      refine wpTwo_takeT (i := 3) (v := .bool true) rfl (by kernel_rfl) (by kernel_rfl) (by kernel_rfl) (fun _ _ _ h => h) ⟨by rfl, ?_⟩ hT ?_
      · rintro w hTw
        go_simp
      (try simp only [Act.put, List.getElem_toArray, List.getElem_cons_succ, List.getElem_cons_zero, List.setIfInBounds_toArray, List.set_cons_succ, List.set_cons_zero])
      refine wpTwo_takeT (i := 4) (v := .int .i64 0) rfl (by kernel_rfl) (by kernel_rfl) (by kernel_rfl) (fun _ _ _ h => h) ⟨by rfl, ?_⟩ hT ?_
      · rintro w hTw
        go_simp
      (try simp only [Act.put, List.getElem_toArray, List.getElem_cons_succ, List.getElem_cons_zero, List.setIfInBounds_toArray, List.set_cons_succ, List.set_cons_zero])
      refine wpTwo_takeT (i := 5) (v := .int .i64 0) rfl (by kernel_rfl) (by kernel_rfl) (by kernel_rfl) (fun _ _ _ h => h) ⟨by rfl, ?_⟩ hT ?_
      · rintro w hTw
        go_simp
      (try simp only [Act.put, List.getElem_toArray, List.getElem_cons_succ, List.getElem_cons_zero, List.setIfInBounds_toArray, List.set_cons_succ, List.set_cons_zero])
      refine wpTwo_takeT (i := 6) (v := .bool true) rfl (by kernel_rfl) (by kernel_rfl) (by kernel_rfl) (fun _ _ _ h => h) ⟨by rfl, ?_⟩ hT ?_
      · rintro w hTw
        go_simp
      (try simp only [Act.put, List.getElem_toArray, List.getElem_cons_succ, List.getElem_cons_zero, List.setIfInBounds_toArray, List.set_cons_succ, List.set_cons_zero])
      refine wpTwo_takeT (i := 7) (v := .bool true) rfl (by kernel_rfl) (by kernel_rfl) (by kernel_rfl) (fun _ _ _ h => h) ⟨by rfl, ?_⟩ hT ?_
      · rintro w hTw
        go_simp
      (try simp only [Act.put, List.getElem_toArray, List.getElem_cons_succ, List.getElem_cons_zero, List.setIfInBounds_toArray, List.set_cons_succ, List.set_cons_zero])
      refine wpTwo_takeT (i := 8) (v := .bool true) rfl (by kernel_rfl) (by kernel_rfl) (by kernel_rfl) (fun _ _ _ h => h) ⟨by rfl, ?_⟩ hT ?_
      · rintro w hTw
        go_simp
      (try simp only [Act.put, List.getElem_toArray, List.getElem_cons_succ, List.getElem_cons_zero, List.setIfInBounds_toArray, List.set_cons_succ, List.set_cons_zero])
      refine wpTwo_takeT (i := 9) (v := .pointer (some ⟨z, 0, none⟩)) rfl (by kernel_rfl) (by kernel_rfl) (by kernel_rfl) (fun _ _ _ h => h) ⟨by rfl, ?_⟩ hT ?_
      · rintro w hTw
        go_simp
      (try simp only [Act.put, List.getElem_toArray, List.getElem_cons_succ, List.getElem_cons_zero, List.setIfInBounds_toArray, List.set_cons_succ, List.set_cons_zero])
      refine wpTwo_takeT (i := 10) (v := .int .i64 a) rfl (by kernel_rfl) (by kernel_rfl) (by kernel_rfl) (fun _ _ _ h => h) ⟨by rfl, ?_⟩ hT ?_
      · rintro w hTw
        obtain ⟨t0, t1, t2⟩ := hTw.1.cells
        go_simp
      (try simp only [Act.put, List.getElem_toArray, List.getElem_cons_succ, List.getElem_cons_zero, List.setIfInBounds_toArray, List.set_cons_succ, List.set_cons_zero])
      refine wpTwo_takeT (i := 12) (v := .pointer (some ⟨z, 0, none⟩)) rfl (by kernel_rfl) (by kernel_rfl) (by kernel_rfl) (fun _ _ _ h => h) ⟨by rfl, ?_⟩ hT ?_
      · rintro w hTw
        go_simp
      (try simp only [Act.put, List.getElem_toArray, List.getElem_cons_succ, List.getElem_cons_zero, List.setIfInBounds_toArray, List.set_cons_succ, List.set_cons_zero])
      refine wpTwo_takeT (i := 13) (v := .int .i64 a) rfl (by kernel_rfl) (by kernel_rfl) (by kernel_rfl) (fun _ _ _ h => h) ⟨by rfl, ?_⟩ hT ?_
      · rintro w hTw
        obtain ⟨t0, t1, t2⟩ := hTw.1.cells
        go_simp
      (try simp only [Act.put, List.getElem_toArray, List.getElem_cons_succ, List.getElem_cons_zero, List.setIfInBounds_toArray, List.set_cons_succ, List.set_cons_zero])
      refine wpTwo_takeT (i := 14) (v := .agg #[.int .i64 a, .int .i64 0, .int .u64 0]) rfl (by kernel_rfl) (by kernel_rfl) (by kernel_rfl) (fun _ _ _ h => h) ⟨by rfl, ?_⟩ hT ?_
      · rintro w hTw
        go_simp
      (try simp only [Act.put, List.getElem_toArray, List.getElem_cons_succ, List.getElem_cons_zero, List.setIfInBounds_toArray, List.set_cons_succ, List.set_cons_zero])
      refine wpTwo_ready (rs := [11]) (by kernel_rfl) (by simp) ?_
      refine (AllTwo.cons rfl (fun K hK => ?_) AllTwo.nil)
      go_simp
      refine (HASK.out _).mono ?_
      rintro e X1 ⟨rfl, hb⟩
      have hT := And.intro (hT.1.below hb) (And.intro (hT.2.1.below hb) (hT.2.2.below hb))
      have HBY := Lib.hid (below_then HBX.out HBX.out.size hb)
      clear hb HBX
      go_wp2_with fail
      refine hK.out _ _ ⟨hT, fun _ _ => trivial⟩ ?_
      clear hK K
      (try simp only [Act.put, List.getElem_toArray, List.getElem_cons_succ, List.getElem_cons_zero, List.setIfInBounds_toArray, List.set_cons_succ, List.set_cons_zero])
      refine wpTwo_takeT (i := 15) (v := .bool true) rfl (by kernel_rfl) (by kernel_rfl) (by kernel_rfl) (fun _ _ _ h => h) ⟨by rfl, ?_⟩ hT ?_
      · rintro w hTw
        go_simp
      (try simp only [Act.put, List.getElem_toArray, List.getElem_cons_succ, List.getElem_cons_zero, List.setIfInBounds_toArray, List.set_cons_succ, List.set_cons_zero])
      refine wpTwo_takeT (i := 16) (v := .bool true) rfl (by kernel_rfl) (by kernel_rfl) (by kernel_rfl) (fun _ _ _ h => h) ⟨by rfl, ?_⟩ hT ?_
      · rintro w hTw
        go_simp
      (try simp only [Act.put, List.getElem_toArray, List.getElem_cons_succ, List.getElem_cons_zero, List.setIfInBounds_toArray, List.set_cons_succ, List.set_cons_zero])
      refine wpTwo_takeT (i := 17) (v := .bool true) rfl (by kernel_rfl) (by kernel_rfl) (by kernel_rfl) (fun _ _ _ h => h) ⟨by rfl, ?_⟩ hT ?_
      · rintro w hTw
        go_simp
      (try simp only [Act.put, List.getElem_toArray, List.getElem_cons_succ, List.getElem_cons_zero, List.setIfInBounds_toArray, List.set_cons_succ, List.set_cons_zero])
      refine wpTwo_end (by kernel_rfl) ?_ _
      go_wp2
      go_ret
      exact ⟨rfl, HBY.out⟩

set_option maxRecDepth 100000 in
set_option maxHeartbeats 16000000 in
theorem takes_C5 (a t : Int) (hs : SpR ⟨a, 5, t⟩) (hr : rightS ⟨a, 5, t⟩ = true) (v : Value) (gs : List (Int × Bool)) (W : World) (hv : GotsAt W v gs) (hmax : gs.length ≤ 9223372036854775807) :
    Calls Try.prog 3 #[.agg #[.int .i64 a, .int .i64 5, .int .u64 t], v] W fun e w' => e = .returned (.bool true) ∧ Below W.heap.size W w' := by
  obtain ⟨q, cap, rfl, hc⟩ := hv
  obtain ⟨n, hn⟩ : ∃ n, n = gs.length := ⟨_, rfl⟩
  rw [← hn] at hmax
  rw [← hn]
  have HC := Lib.hid hc
  have HN := Lib.hid hn
  have HRT := Lib.hid (show ∀ Z : World, Calls Try.prog 9 #[.agg #[.int .i64 a, .int .i64 5, .int .u64 t]] Z fun e w' => e = .returned (.bool true) ∧ Below Z.heap.size Z w' from fun Z => by
    have := qrright ⟨a, 5, t⟩ Z
    rwa [hr] at this)
  have HCK := Lib.hid (show ∀ (Z : World), Calls Try.prog 10 #[.agg #[.int .i64 a, .int .i64 5, .int .u64 t]] Z fun e w' => e = .returned (.int .i64 0) ∧ Below Z.heap.size Z w' from fun Z => qcheck_yes ⟨a, 5, t⟩ hr Z)
  have HND := Lib.hid (show ∀ (Z : World), Calls Try.prog 11 #[.agg #[.int .i64 a, .int .i64 5, .int .u64 t]] Z fun e w' => e = .returned (.tuple #[.agg #[.int .i64 0, .int .i64 0, .int .u64 0, .int .u64 0], .bool false]) ∧ Below Z.heap.size Z w' from fun Z => qneed_no ⟨a, 5, t⟩ hs (.inr rfl) Z)
  have HHS := Lib.hid (show ∀ (Z : World), Calls Try.prog 12 #[.agg #[.int .i64 a, .int .i64 5, .int .u64 t]] Z fun e w' => e = .returned (.bool false) ∧ Below Z.heap.size Z w' from fun Z => qrhas ⟨a, 5, t⟩ Z)
  have HTK := Lib.hid (show ∀ (v : Int) (d : Bool) (Z : World), Calls Try.prog 14 #[.agg #[.int .i64 a, .int .i64 5, .int .u64 t], .agg #[.int .u64 v, .bool d]] Z fun e w' => e = .returned (.tuple #[.agg #[.int .i64 0, .int .i64 0, .int .u64 0], .int .i64 2]) ∧ Below Z.heap.size Z w' from fun v d Z => qtake_arg ⟨a, 5, t⟩ hr hs rfl v d Z)
  have HLV := Lib.hid (show ∀ (Z : World), Calls Try.prog 16 #[.agg #[.int .i64 a, .int .i64 5, .int .u64 t]] Z fun e w' => e = .returned (.tuple #[.agg #[.int .i64 0, .int .i64 0, .int .u64 0], .int .i64 2]) ∧ Below Z.heap.size Z w' from fun Z => qleave_no ⟨a, 5, t⟩ hr (by simp) Z)
  have HASK := Lib.hid (show ∀ Z : World, Calls Try.prog 17 #[.int .i64 a] Z fun e w' => e = .returned (.agg #[.int .i64 a, .int .i64 0, .int .u64 0]) ∧ Below Z.heap.size Z w' from fun Z => qask a Z)
  clear hc hn hr
  obtain ⟨z, hz⟩ : ∃ z, z = W.heap.size := ⟨_, rfl⟩
  have HZ := Lib.hid hz
  have hb0 := below1 W (.cells #[.int .i64 a, .int .i64 5, .int .u64 t] 24)
  have HS0 := Lib.hid (show SpBox (W.alloc (.cells #[.int .i64 a, .int .i64 5, .int .u64 t] 24)) z a 5 t by rw [hz]; exact World.alloc_heap_new W _)
  have HB0 := Lib.hid hb0
  clear hb0
  go_enter Try.func3, Try.ntmps3
  go_wp2_with fail
  rw [← hz]
  clear hz
  refine (qwakes _).mono ?_
  rintro e w1 ⟨rfl, hb⟩
  have HS1 := Lib.hid (HS0.out.below hb)
  have HB1 := Lib.hid (below_then HB0.out HB0.out.size hb)
  obtain ⟨s0, s1, s2⟩ := HS1.out.cells
  clear hb HS0 HB0
  go_wp2_with fail
  refine (HRT.out _).mono ?_
  rintro e w2 ⟨rfl, hb⟩
  clear s0 s1 s2
  have HS2 := Lib.hid (HS1.out.below hb)
  have HB2 := Lib.hid (below_then HB1.out HB1.out.size hb)
  obtain ⟨s0, s1, s2⟩ := HS2.out.cells
  clear hb HS1 HB1
  go_wp2_with fail
  refine (HCK.out _).mono ?_
  rintro e w3 ⟨rfl, hb⟩
  clear s0 s1 s2
  have HS3 := Lib.hid (HS2.out.below hb)
  have HB3 := Lib.hid (below_then HB2.out HB2.out.size hb)
  obtain ⟨s0, s1, s2⟩ := HS3.out.cells
  clear hb HS2 HB2
  go_wp2_with fail
  refine (HND.out _).mono ?_
  rintro e w4 ⟨rfl, hb⟩
  clear s0 s1 s2
  have HS4 := Lib.hid (HS3.out.below hb)
  have HB4 := Lib.hid (below_then HB3.out HB3.out.size hb)
  obtain ⟨s0, s1, s2⟩ := HS4.out.cells
  clear hb HS3 HB3
  clear s0 s1 s2
  obtain ⟨s0, s1, s2⟩ := (HS4.out.below (below2 w4 (.cells #[.int .i64 0, .int .i64 0, .int .u64 0, .int .u64 0] 31) (.cells #[.int .i64 0, .int .i64 0, .int .u64 0, .int .u64 0] 31))).cells
  go_wp2_with fail
  obtain ⟨w5, hw5⟩ : ∃ w5 : World, w5 = (w4.alloc (.cells #[.int .i64 0, .int .i64 0, .int .u64 0, .int .u64 0] 31)).alloc (.cells #[.int .i64 0, .int .i64 0, .int .u64 0, .int .u64 0] 31) := ⟨_, rfl⟩
  obtain ⟨y0, hy0⟩ : ∃ y, y = w4.heap.size := ⟨_, rfl⟩
  have hb : Below w4.heap.size w4 w5 := by rw [hw5]; exact below2 w4 _ _
  have HA5 := Lib.hid (show AcBox w5 y0 0 0 0 0 ∧ AcBox w5 (y0 + 1) 0 0 0 0 by rw [hw5, hy0]; exact two_acc w4 0 0 0 0 0 0 0 0)
  have HS5 := Lib.hid (HS4.out.below hb)
  have HB5 := Lib.hid (below_then HB4.out HB4.out.size hb)
  rw [← hw5, ← hy0]
  clear hb hw5 hy0 s0 s1 s2 HS4 HB4
  obtain ⟨s0, s1, s2⟩ := HS5.out.cells
  refine (HHS.out _).mono ?_
  rintro e w6 ⟨rfl, hb⟩
  have HA6 := Lib.hid (And.intro (HA5.out.1.below hb) (HA5.out.2.below hb))
  have HS6 := Lib.hid (HS5.out.below hb)
  have HB6 := Lib.hid (below_then HB5.out HB5.out.size hb)
  clear hb s0 s1 s2 HS5 HB5 HA5
  obtain ⟨s0, s1, s2⟩ := HS6.out.cells
  obtain ⟨k0, k1, k2, k3⟩ := HA6.out.1.cells
  obtain ⟨l0, l1, l2, l3⟩ := HA6.out.2.cells
  go_wp2_with fail
  refine (HHS.out _).mono ?_
  rintro e w7 ⟨rfl, hb⟩
  have HA7 := Lib.hid (And.intro (HA6.out.1.below hb) (HA6.out.2.below hb))
  have HS7 := Lib.hid (HS6.out.below hb)
  have HB7 := Lib.hid (below_then HB6.out HB6.out.size hb)
  clear hb s0 s1 s2 k0 k1 k2 k3 l0 l1 l2 l3 HS6 HB6 HA6
  obtain ⟨s0, s1, s2⟩ := HS7.out.cells
  obtain ⟨k0, k1, k2, k3⟩ := HA7.out.1.cells
  obtain ⟨l0, l1, l2, l3⟩ := HA7.out.2.cells
  go_wp2_with fail
  go_loopw [66] (fun iv wr => ∃ i : Nat, i ≤ n ∧ i ≤ 6 ∧ iv = .int .i64 i ∧ Hid (SpBox wr z a 5 t) ∧ Hid (Below W.heap.size W wr)) (fun iv _ => n - (intOf iv).toNat)
  case atStart => exact ⟨0, Nat.zero_le _, Nat.zero_le _, rfl, HS7, HB7⟩
  case round =>
    obtain ⟨i, hi, hi6, rfl, HSR, HBR⟩ := hrel
    clear s0 s1 s2
    by_cases hlt : i < n
    · have hil : i < gs.length := by have := HN.out; omega
      obtain ⟨b, off, rfl, hcs⟩ := HC.out (by intro e; rw [e] at hil; cases hil)
      obtain ⟨c0, c1⟩ := hcs i hil
      obtain ⟨⟨gv, gd⟩, hge⟩ : ∃ g, g = gs[i] := ⟨_, rfl⟩
      rw [← hge] at c0 c1
      have c0 := below_cell HBR.out c0
      have c1 := below_cell HBR.out c1
      simp only at c0 c1
      clear hcs hge
      obtain ⟨w6, hw6⟩ : ∃ w6 : World, w6 = wr.alloc (.cells #[.int .u64 gv, .bool gd] 36) := ⟨_, rfl⟩
      have hb6 : Below wr.heap.size wr w6 := by rw [hw6]; exact below1 wr _
      have HS6 := Lib.hid (HSR.out.below hb6)
      have HB6 := Lib.hid (below_then HBR.out HBR.out.size hb6)
      have HG6 := Lib.hid (show GBox w6 wr.heap.size gv gd by rw [hw6]; exact World.alloc_heap_new wr _)
      have HW6 := Lib.hid hw6
      clear hw6 hb6
      by_cases h6 : i = 6
      · subst h6
        go_upto_region 24 with (fail)
        rw [← HW6.out]
        obtain ⟨s0, s1, s2⟩ := HS6.out.cells
        go_wp2_with fail
        refine (HLV.out _).mono ?_
        rintro e w8 ⟨rfl, hb⟩
        clear s0 s1 s2
        have HS8 := Lib.hid (HS6.out.below hb)
        have HB8 := Lib.hid (below_then HB6.out HB6.out.size hb)
        obtain ⟨s0, s1, s2⟩ := (HS8.out.below (below2 w8 (.cells #[.int .i64 0, .int .i64 0, .int .u64 0] 24) (.cells #[.int .i64 0, .int .i64 0, .int .u64 0] 24))).cells
        clear hb
        obtain ⟨y, hy⟩ : ∃ y, y = w8.heap.size := ⟨_, rfl⟩
        obtain ⟨w9, hw9⟩ : ∃ w9 : World, w9 = (w8.alloc (.cells #[.int .i64 0, .int .i64 0, .int .u64 0] 24)).alloc (.cells #[.int .i64 0, .int .i64 0, .int .u64 0] 24) := ⟨_, rfl⟩
        have hb9 : Below w8.heap.size w8 w9 := by rw [hw9]; exact below2 w8 _ _
        have HS9 := HS8.out.below hb9
        have HL1 : SpBox w9 y 0 0 0 := by rw [hw9, hy]; exact ((below1 (w8.alloc (.cells #[.int .i64 0, .int .i64 0, .int .u64 0] 24)) _).block _ (by simp)).trans (World.alloc_heap_new w8 _)
        have HL2 : SpBox w9 (y + 1) 0 0 0 := by
          have := World.alloc_heap_new (w8.alloc (.cells #[.int .i64 0, .int .i64 0, .int .u64 0] 24)) (.cells #[.int .i64 0, .int .i64 0, .int .u64 0] 24)
          rw [World.size_alloc, ← hw9, ← hy] at this
          exact this
        have HB9 := Lib.hid (below_then HB8.out HB8.out.size hb9)
        have HW9 := Lib.hid (And.intro hw9 hy)
        have HT9 := Lib.hid (And.intro HS9 (And.intro HL1 HL2))
        clear hw9 hy hb9 HS9 HL1 HL2 HS8 HB8
        go_upto_region 31 with (fail)
        rw [← HW9.out.1, ← HW9.out.2]
        refine wpTwo_begin (T := fun w' => SpBox w' z a 5 t ∧ SpBox w' y 0 0 0 ∧ SpBox w' (y + 1) 0 0 0) (S := fun _ => True) (late := fun _ => false) (by kernel_rfl) ?_
        obtain ⟨X0, hX0⟩ : ∃ X : World, X = w9.drew := ⟨_, rfl⟩
        rw [← hX0]
        have hbX : Below w9.heap.size w9 X0 := by rw [hX0]; exact (Below.refl _ _).drew
        have hT := And.intro (HT9.out.1.below hbX) (And.intro (HT9.out.2.1.below hbX) (HT9.out.2.2.below hbX))
        have HBX := Lib.hid (below_then HB9.out HB9.out.size hbX)
        clear hX0 hbX HT9 HB9 HW9 s0 s1 s2
        refine wpTwo_takeT (i := 0) (v := .agg #[.int .i64 0, .int .i64 0, .int .u64 0]) rfl (by kernel_rfl) (by kernel_rfl) (by kernel_rfl) (fun _ _ _ h => h) ⟨by rfl, ?_⟩ hT ?_
        · rintro w hTw
          obtain ⟨t0, t1, t2⟩ := hTw.2.1.cells
          go_simp
        (try simp only [Act.put, List.getElem_toArray, List.getElem_cons_zero, List.setIfInBounds_toArray, List.set_cons_succ, List.set_cons_zero])
        refine wpTwo_takeT (i := 1) (v := .agg #[.int .i64 0, .int .i64 0, .int .u64 0]) rfl (by kernel_rfl) (by kernel_rfl) (by kernel_rfl) (fun _ _ _ h => h) ⟨by rfl, ?_⟩ hT ?_
        · rintro w hTw
          obtain ⟨t0, t1, t2⟩ := hTw.2.2.cells
          go_simp
        (try simp only [Act.put, List.getElem_toArray, List.getElem_cons_succ, List.getElem_cons_zero, List.setIfInBounds_toArray, List.set_cons_succ, List.set_cons_zero])
        refine wpTwo_takeT (i := 2) (v := .bool true) rfl (by kernel_rfl) (by kernel_rfl) (by kernel_rfl) (fun _ _ _ h => h) ⟨by rfl, ?_⟩ hT ?_
        · rintro w hTw
          go_simp
        (try simp only [Act.put, List.getElem_toArray, List.getElem_cons_succ, List.getElem_cons_zero, List.setIfInBounds_toArray, List.set_cons_succ, List.set_cons_zero])
        refine wpTwo_takeT (i := 3) (v := .bool true) rfl (by kernel_rfl) (by kernel_rfl) (by kernel_rfl) (fun _ _ _ h => h) ⟨by rfl, ?_⟩ hT ?_
        · rintro w hTw
          go_simp
        (try simp only [Act.put, List.getElem_toArray, List.getElem_cons_succ, List.getElem_cons_zero, List.setIfInBounds_toArray, List.set_cons_succ, List.set_cons_zero])
        refine wpTwo_takeT (i := 4) (v := .int .i64 2) rfl (by kernel_rfl) (by kernel_rfl) (by kernel_rfl) (fun _ _ _ h => h) ⟨by rfl, ?_⟩ hT ?_
        · rintro w hTw
          go_simp
        (try simp only [Act.put, List.getElem_toArray, List.getElem_cons_succ, List.getElem_cons_zero, List.setIfInBounds_toArray, List.set_cons_succ, List.set_cons_zero])
        refine wpTwo_takeT (i := 5) (v := .int .i64 2) rfl (by kernel_rfl) (by kernel_rfl) (by kernel_rfl) (fun _ _ _ h => h) ⟨by rfl, ?_⟩ hT ?_
        · rintro w hTw
          go_simp
        (try simp only [Act.put, List.getElem_toArray, List.getElem_cons_succ, List.getElem_cons_zero, List.setIfInBounds_toArray, List.set_cons_succ, List.set_cons_zero])
        refine wpTwo_takeT (i := 6) (v := .bool true) rfl (by kernel_rfl) (by kernel_rfl) (by kernel_rfl) (fun _ _ _ h => h) ⟨by rfl, ?_⟩ hT ?_
        · rintro w hTw
          go_simp
        (try simp only [Act.put, List.getElem_toArray, List.getElem_cons_succ, List.getElem_cons_zero, List.setIfInBounds_toArray, List.set_cons_succ, List.set_cons_zero])
        refine wpTwo_takeT (i := 7) (v := .bool true) rfl (by kernel_rfl) (by kernel_rfl) (by kernel_rfl) (fun _ _ _ h => h) ⟨by rfl, ?_⟩ hT ?_
        · rintro w hTw
          go_simp
        (try simp only [Act.put, List.getElem_toArray, List.getElem_cons_succ, List.getElem_cons_zero, List.setIfInBounds_toArray, List.set_cons_succ, List.set_cons_zero])
        refine wpTwo_takeT (i := 8) (v := .bool true) rfl (by kernel_rfl) (by kernel_rfl) (by kernel_rfl) (fun _ _ _ h => h) ⟨by rfl, ?_⟩ hT ?_
        · rintro w hTw
          go_simp
        (try simp only [Act.put, List.getElem_toArray, List.getElem_cons_succ, List.getElem_cons_zero, List.setIfInBounds_toArray, List.set_cons_succ, List.set_cons_zero])
        refine wpTwo_takeT (i := 9) (v := .pointer (some ⟨z, 0, none⟩)) rfl (by kernel_rfl) (by kernel_rfl) (by kernel_rfl) (fun _ _ _ h => h) ⟨by rfl, ?_⟩ hT ?_
        · rintro w hTw
          go_simp
        (try simp only [Act.put, List.getElem_toArray, List.getElem_cons_succ, List.getElem_cons_zero, List.setIfInBounds_toArray, List.set_cons_succ, List.set_cons_zero])
        refine wpTwo_takeT (i := 10) (v := .int .i64 a) rfl (by kernel_rfl) (by kernel_rfl) (by kernel_rfl) (fun _ _ _ h => h) ⟨by rfl, ?_⟩ hT ?_
        · rintro w hTw
          obtain ⟨t0, t1, t2⟩ := hTw.1.cells
          go_simp
        (try simp only [Act.put, List.getElem_toArray, List.getElem_cons_succ, List.getElem_cons_zero, List.setIfInBounds_toArray, List.set_cons_succ, List.set_cons_zero])
        refine wpTwo_takeT (i := 12) (v := .pointer (some ⟨z, 0, none⟩)) rfl (by kernel_rfl) (by kernel_rfl) (by kernel_rfl) (fun _ _ _ h => h) ⟨by rfl, ?_⟩ hT ?_
        · rintro w hTw
          go_simp
        (try simp only [Act.put, List.getElem_toArray, List.getElem_cons_succ, List.getElem_cons_zero, List.setIfInBounds_toArray, List.set_cons_succ, List.set_cons_zero])
        refine wpTwo_takeT (i := 13) (v := .int .i64 a) rfl (by kernel_rfl) (by kernel_rfl) (by kernel_rfl) (fun _ _ _ h => h) ⟨by rfl, ?_⟩ hT ?_
        · rintro w hTw
          obtain ⟨t0, t1, t2⟩ := hTw.1.cells
          go_simp
        (try simp only [Act.put, List.getElem_toArray, List.getElem_cons_succ, List.getElem_cons_zero, List.setIfInBounds_toArray, List.set_cons_succ, List.set_cons_zero])
        refine wpTwo_takeT (i := 14) (v := .agg #[.int .i64 a, .int .i64 0, .int .u64 0]) rfl (by kernel_rfl) (by kernel_rfl) (by kernel_rfl) (fun _ _ _ h => h) ⟨by rfl, ?_⟩ hT ?_
        · rintro w hTw
          go_simp
        (try simp only [Act.put, List.getElem_toArray, List.getElem_cons_succ, List.getElem_cons_zero, List.setIfInBounds_toArray, List.set_cons_succ, List.set_cons_zero])
        refine wpTwo_ready (rs := [11]) (by kernel_rfl) (by simp) ?_
        refine (AllTwo.cons rfl (fun K hK => ?_) AllTwo.nil)
        go_simp
        refine (HASK.out _).mono ?_
        rintro e X1 ⟨rfl, hb⟩
        have hT := And.intro (hT.1.below hb) (And.intro (hT.2.1.below hb) (hT.2.2.below hb))
        have HBY := Lib.hid (below_then HBX.out HBX.out.size hb)
        clear hb HBX
        go_wp2_with fail
        refine hK.out _ _ ⟨hT, fun _ _ => trivial⟩ ?_
        clear hK K
        (try simp only [Act.put, List.getElem_toArray, List.getElem_cons_succ, List.getElem_cons_zero, List.setIfInBounds_toArray, List.set_cons_succ, List.set_cons_zero])
        refine wpTwo_takeT (i := 15) (v := .bool true) rfl (by kernel_rfl) (by kernel_rfl) (by kernel_rfl) (fun _ _ _ h => h) ⟨by rfl, ?_⟩ hT ?_
        · rintro w hTw
          go_simp
        (try simp only [Act.put, List.getElem_toArray, List.getElem_cons_succ, List.getElem_cons_zero, List.setIfInBounds_toArray, List.set_cons_succ, List.set_cons_zero])
        refine wpTwo_takeT (i := 16) (v := .bool true) rfl (by kernel_rfl) (by kernel_rfl) (by kernel_rfl) (fun _ _ _ h => h) ⟨by rfl, ?_⟩ hT ?_
        · rintro w hTw
          go_simp
        (try simp only [Act.put, List.getElem_toArray, List.getElem_cons_succ, List.getElem_cons_zero, List.setIfInBounds_toArray, List.set_cons_succ, List.set_cons_zero])
        refine wpTwo_takeT (i := 17) (v := .bool true) rfl (by kernel_rfl) (by kernel_rfl) (by kernel_rfl) (fun _ _ _ h => h) ⟨by rfl, ?_⟩ hT ?_
        · rintro w hTw
          go_simp
        (try simp only [Act.put, List.getElem_toArray, List.getElem_cons_succ, List.getElem_cons_zero, List.setIfInBounds_toArray, List.set_cons_succ, List.set_cons_zero])
        refine wpTwo_end (by kernel_rfl) ?_ _
        go_wp2
        go_ret
        exact ⟨rfl, HBY.out⟩
      · have h6' : ((i : Int) == 6) = false := by rw [beq_eq_false_iff_ne]; omega
        go_upto_region 15 with (fail)
        rw [← HW6.out]
        obtain ⟨s0, s1, s2⟩ := HS6.out.cells
        obtain ⟨g0, g1⟩ := HG6.out.cells
        go_wp2_with fail
        refine (HTK.out gv gd _).mono ?_
        rintro e w7 ⟨rfl, hb⟩
        obtain ⟨y2, hy2⟩ : ∃ y, y = w7.heap.size := ⟨_, rfl⟩
        obtain ⟨w8, hw8⟩ : ∃ w8 : World, w8 = (w7.alloc (.cells #[.int .i64 0, .int .i64 0, .int .u64 0] 24)).alloc (.cells #[.int .i64 0, .int .i64 0, .int .u64 0] 24) := ⟨_, rfl⟩
        have hb8 : Below w7.heap.size w7 w8 := by rw [hw8]; exact below2 w7 _ _
        have HN8 := Lib.hid (show SpBox w8 y2 0 0 0 ∧ SpBox w8 (y2 + 1) 0 0 0 by rw [hw8, hy2]; exact two_spin w7 0 0 0 0 0 0)
        have HS7 := Lib.hid (HS6.out.below hb)
        have HS8 := Lib.hid (HS7.out.below hb8)
        have HB7 := Lib.hid (below_then HB6.out HB6.out.size hb)
        have HB8 := Lib.hid (below_then HB7.out HB7.out.size hb8)
        have HW8 := Lib.hid (And.intro hw8 hy2)
        clear s0 s1 s2 g0 g1 hb c0 c1 hw8 hy2 hb8
        obtain ⟨s0, s1, s2⟩ := HS7.out.cells
        go_upto_region 19 with (fail)
        rw [← HW8.out.1, ← HW8.out.2]
        clear s0 s1 s2 HW8
        obtain ⟨s0, s1, s2⟩ := HS8.out.cells
        go_wp2_with fail
        refine (HHS.out _).mono ?_
        rintro e w9 ⟨rfl, hb⟩
        obtain ⟨m0, m1, m2⟩ := (HN8.out.1.below hb).cells
        obtain ⟨n0, n1, n2⟩ := (HN8.out.2.below hb).cells
        have HS9 := Lib.hid (HS8.out.below hb)
        have HB9 := Lib.hid (below_then HB8.out HB8.out.size hb)
        clear s0 s1 s2 hb
        go_wp2
        go_roundw
        case rel => exact ⟨i + 1, by omega, by omega, by go_num, HS9, HB9⟩
        case measure => simp [intOf]; omega
    · go_upto_region 24 with (fail)
      obtain ⟨s0, s1, s2⟩ := HSR.out.cells
      go_wp2_with fail
      refine (HLV.out _).mono ?_
      rintro e w8 ⟨rfl, hb⟩
      clear s0 s1 s2
      have HS8 := Lib.hid (HSR.out.below hb)
      have HB8 := Lib.hid (below_then HBR.out HBR.out.size hb)
      obtain ⟨s0, s1, s2⟩ := (HS8.out.below (below2 w8 (.cells #[.int .i64 0, .int .i64 0, .int .u64 0] 24) (.cells #[.int .i64 0, .int .i64 0, .int .u64 0] 24))).cells
      clear hb
      obtain ⟨y, hy⟩ : ∃ y, y = w8.heap.size := ⟨_, rfl⟩
      obtain ⟨w9, hw9⟩ : ∃ w9 : World, w9 = (w8.alloc (.cells #[.int .i64 0, .int .i64 0, .int .u64 0] 24)).alloc (.cells #[.int .i64 0, .int .i64 0, .int .u64 0] 24) := ⟨_, rfl⟩
      have hb9 : Below w8.heap.size w8 w9 := by rw [hw9]; exact below2 w8 _ _
      have HS9 := HS8.out.below hb9
      have HL1 : SpBox w9 y 0 0 0 := by rw [hw9, hy]; exact ((below1 (w8.alloc (.cells #[.int .i64 0, .int .i64 0, .int .u64 0] 24)) _).block _ (by simp)).trans (World.alloc_heap_new w8 _)
      have HL2 : SpBox w9 (y + 1) 0 0 0 := by
        have := World.alloc_heap_new (w8.alloc (.cells #[.int .i64 0, .int .i64 0, .int .u64 0] 24)) (.cells #[.int .i64 0, .int .i64 0, .int .u64 0] 24)
        rw [World.size_alloc, ← hw9, ← hy] at this
        exact this
      have HB9 := Lib.hid (below_then HB8.out HB8.out.size hb9)
      have HW9 := Lib.hid (And.intro hw9 hy)
      have HT9 := Lib.hid (And.intro HS9 (And.intro HL1 HL2))
      clear hw9 hy hb9 HS9 HL1 HL2 HS8 HB8
      go_upto_region 31 with (fail)
      rw [← HW9.out.1, ← HW9.out.2]
      refine wpTwo_begin (T := fun w' => SpBox w' z a 5 t ∧ SpBox w' y 0 0 0 ∧ SpBox w' (y + 1) 0 0 0) (S := fun _ => True) (late := fun _ => false) (by kernel_rfl) ?_
      obtain ⟨X0, hX0⟩ : ∃ X : World, X = w9.drew := ⟨_, rfl⟩
      rw [← hX0]
      have hbX : Below w9.heap.size w9 X0 := by rw [hX0]; exact (Below.refl _ _).drew
      have hT := And.intro (HT9.out.1.below hbX) (And.intro (HT9.out.2.1.below hbX) (HT9.out.2.2.below hbX))
      have HBX := Lib.hid (below_then HB9.out HB9.out.size hbX)
      clear hX0 hbX HT9 HB9 HW9 s0 s1 s2
      refine wpTwo_takeT (i := 0) (v := .agg #[.int .i64 0, .int .i64 0, .int .u64 0]) rfl (by kernel_rfl) (by kernel_rfl) (by kernel_rfl) (fun _ _ _ h => h) ⟨by rfl, ?_⟩ hT ?_
      · rintro w hTw
        obtain ⟨t0, t1, t2⟩ := hTw.2.1.cells
        go_simp
      (try simp only [Act.put, List.getElem_toArray, List.getElem_cons_zero, List.setIfInBounds_toArray, List.set_cons_succ, List.set_cons_zero])
      refine wpTwo_takeT (i := 1) (v := .agg #[.int .i64 0, .int .i64 0, .int .u64 0]) rfl (by kernel_rfl) (by kernel_rfl) (by kernel_rfl) (fun _ _ _ h => h) ⟨by rfl, ?_⟩ hT ?_
      · rintro w hTw
        obtain ⟨t0, t1, t2⟩ := hTw.2.2.cells
        go_simp
      (try simp only [Act.put, List.getElem_toArray, List.getElem_cons_succ, List.getElem_cons_zero, List.setIfInBounds_toArray, List.set_cons_succ, List.set_cons_zero])
      refine wpTwo_takeT (i := 2) (v := .bool true) rfl (by kernel_rfl) (by kernel_rfl) (by kernel_rfl) (fun _ _ _ h => h) ⟨by rfl, ?_⟩ hT ?_
      · rintro w hTw
        go_simp
      (try simp only [Act.put, List.getElem_toArray, List.getElem_cons_succ, List.getElem_cons_zero, List.setIfInBounds_toArray, List.set_cons_succ, List.set_cons_zero])
      refine wpTwo_takeT (i := 3) (v := .bool true) rfl (by kernel_rfl) (by kernel_rfl) (by kernel_rfl) (fun _ _ _ h => h) ⟨by rfl, ?_⟩ hT ?_
      · rintro w hTw
        go_simp
      (try simp only [Act.put, List.getElem_toArray, List.getElem_cons_succ, List.getElem_cons_zero, List.setIfInBounds_toArray, List.set_cons_succ, List.set_cons_zero])
      refine wpTwo_takeT (i := 4) (v := .int .i64 2) rfl (by kernel_rfl) (by kernel_rfl) (by kernel_rfl) (fun _ _ _ h => h) ⟨by rfl, ?_⟩ hT ?_
      · rintro w hTw
        go_simp
      (try simp only [Act.put, List.getElem_toArray, List.getElem_cons_succ, List.getElem_cons_zero, List.setIfInBounds_toArray, List.set_cons_succ, List.set_cons_zero])
      refine wpTwo_takeT (i := 5) (v := .int .i64 2) rfl (by kernel_rfl) (by kernel_rfl) (by kernel_rfl) (fun _ _ _ h => h) ⟨by rfl, ?_⟩ hT ?_
      · rintro w hTw
        go_simp
      (try simp only [Act.put, List.getElem_toArray, List.getElem_cons_succ, List.getElem_cons_zero, List.setIfInBounds_toArray, List.set_cons_succ, List.set_cons_zero])
      refine wpTwo_takeT (i := 6) (v := .bool true) rfl (by kernel_rfl) (by kernel_rfl) (by kernel_rfl) (fun _ _ _ h => h) ⟨by rfl, ?_⟩ hT ?_
      · rintro w hTw
        go_simp
      (try simp only [Act.put, List.getElem_toArray, List.getElem_cons_succ, List.getElem_cons_zero, List.setIfInBounds_toArray, List.set_cons_succ, List.set_cons_zero])
      refine wpTwo_takeT (i := 7) (v := .bool true) rfl (by kernel_rfl) (by kernel_rfl) (by kernel_rfl) (fun _ _ _ h => h) ⟨by rfl, ?_⟩ hT ?_
      · rintro w hTw
        go_simp
      (try simp only [Act.put, List.getElem_toArray, List.getElem_cons_succ, List.getElem_cons_zero, List.setIfInBounds_toArray, List.set_cons_succ, List.set_cons_zero])
      refine wpTwo_takeT (i := 8) (v := .bool true) rfl (by kernel_rfl) (by kernel_rfl) (by kernel_rfl) (fun _ _ _ h => h) ⟨by rfl, ?_⟩ hT ?_
      · rintro w hTw
        go_simp
      (try simp only [Act.put, List.getElem_toArray, List.getElem_cons_succ, List.getElem_cons_zero, List.setIfInBounds_toArray, List.set_cons_succ, List.set_cons_zero])
      refine wpTwo_takeT (i := 9) (v := .pointer (some ⟨z, 0, none⟩)) rfl (by kernel_rfl) (by kernel_rfl) (by kernel_rfl) (fun _ _ _ h => h) ⟨by rfl, ?_⟩ hT ?_
      · rintro w hTw
        go_simp
      (try simp only [Act.put, List.getElem_toArray, List.getElem_cons_succ, List.getElem_cons_zero, List.setIfInBounds_toArray, List.set_cons_succ, List.set_cons_zero])
      refine wpTwo_takeT (i := 10) (v := .int .i64 a) rfl (by kernel_rfl) (by kernel_rfl) (by kernel_rfl) (fun _ _ _ h => h) ⟨by rfl, ?_⟩ hT ?_
      · rintro w hTw
        obtain ⟨t0, t1, t2⟩ := hTw.1.cells
        go_simp
      (try simp only [Act.put, List.getElem_toArray, List.getElem_cons_succ, List.getElem_cons_zero, List.setIfInBounds_toArray, List.set_cons_succ, List.set_cons_zero])
      refine wpTwo_takeT (i := 12) (v := .pointer (some ⟨z, 0, none⟩)) rfl (by kernel_rfl) (by kernel_rfl) (by kernel_rfl) (fun _ _ _ h => h) ⟨by rfl, ?_⟩ hT ?_
      · rintro w hTw
        go_simp
      (try simp only [Act.put, List.getElem_toArray, List.getElem_cons_succ, List.getElem_cons_zero, List.setIfInBounds_toArray, List.set_cons_succ, List.set_cons_zero])
      refine wpTwo_takeT (i := 13) (v := .int .i64 a) rfl (by kernel_rfl) (by kernel_rfl) (by kernel_rfl) (fun _ _ _ h => h) ⟨by rfl, ?_⟩ hT ?_
      · rintro w hTw
        obtain ⟨t0, t1, t2⟩ := hTw.1.cells
        go_simp
      (try simp only [Act.put, List.getElem_toArray, List.getElem_cons_succ, List.getElem_cons_zero, List.setIfInBounds_toArray, List.set_cons_succ, List.set_cons_zero])
      refine wpTwo_takeT (i := 14) (v := .agg #[.int .i64 a, .int .i64 0, .int .u64 0]) rfl (by kernel_rfl) (by kernel_rfl) (by kernel_rfl) (fun _ _ _ h => h) ⟨by rfl, ?_⟩ hT ?_
      · rintro w hTw
        go_simp
      (try simp only [Act.put, List.getElem_toArray, List.getElem_cons_succ, List.getElem_cons_zero, List.setIfInBounds_toArray, List.set_cons_succ, List.set_cons_zero])
      refine wpTwo_ready (rs := [11]) (by kernel_rfl) (by simp) ?_
      refine (AllTwo.cons rfl (fun K hK => ?_) AllTwo.nil)
      go_simp
      refine (HASK.out _).mono ?_
      rintro e X1 ⟨rfl, hb⟩
      have hT := And.intro (hT.1.below hb) (And.intro (hT.2.1.below hb) (hT.2.2.below hb))
      have HBY := Lib.hid (below_then HBX.out HBX.out.size hb)
      clear hb HBX
      go_wp2_with fail
      refine hK.out _ _ ⟨hT, fun _ _ => trivial⟩ ?_
      clear hK K
      (try simp only [Act.put, List.getElem_toArray, List.getElem_cons_succ, List.getElem_cons_zero, List.setIfInBounds_toArray, List.set_cons_succ, List.set_cons_zero])
      refine wpTwo_takeT (i := 15) (v := .bool true) rfl (by kernel_rfl) (by kernel_rfl) (by kernel_rfl) (fun _ _ _ h => h) ⟨by rfl, ?_⟩ hT ?_
      · rintro w hTw
        go_simp
      (try simp only [Act.put, List.getElem_toArray, List.getElem_cons_succ, List.getElem_cons_zero, List.setIfInBounds_toArray, List.set_cons_succ, List.set_cons_zero])
      refine wpTwo_takeT (i := 16) (v := .bool true) rfl (by kernel_rfl) (by kernel_rfl) (by kernel_rfl) (fun _ _ _ h => h) ⟨by rfl, ?_⟩ hT ?_
      · rintro w hTw
        go_simp
      (try simp only [Act.put, List.getElem_toArray, List.getElem_cons_succ, List.getElem_cons_zero, List.setIfInBounds_toArray, List.set_cons_succ, List.set_cons_zero])
      refine wpTwo_takeT (i := 17) (v := .bool true) rfl (by kernel_rfl) (by kernel_rfl) (by kernel_rfl) (fun _ _ _ h => h) ⟨by rfl, ?_⟩ hT ?_
      · rintro w hTw
        go_simp
      (try simp only [Act.put, List.getElem_toArray, List.getElem_cons_succ, List.getElem_cons_zero, List.setIfInBounds_toArray, List.set_cons_succ, List.set_cons_zero])
      refine wpTwo_end (by kernel_rfl) ?_ _
      go_wp2
      go_ret
      exact ⟨rfl, HBY.out⟩

/-- The statement's body. -/
theorem takes_law (s : SpM) (hs : SpR s) (v : Value) (gs : List (Int × Bool)) (W : World) (hv : GotsAt W v gs) (hmax : gs.length ≤ 9223372036854775807) :
    Calls Try.prog 3 #[.agg #[.int .i64 s.a, .int .i64 s.p, .int .u64 s.t], v] W fun e w' => e = .returned (.bool true) ∧ Below W.heap.size W w' := by
  obtain ⟨a, p, t⟩ := s
  rcases Bool.eq_false_or_eq_true (rightS ⟨a, p, t⟩) with hr | hr
  · rcases Bool.eq_false_or_eq_true (hasS ⟨a, p, t⟩) with hh | hh
    · exact takes_B a p t hs hr hh (by
        rw [beq_eq_false_iff_ne]
        rintro rfl
        revert hh
        simp [hasS]) v gs W hv hmax
    · have h1 := (rightS_iff.1 hr).2
      simp only at h1
      rcases h1 with ⟨rfl, _⟩ | rfl | rfl | rfl | rfl | rfl
      · simp [hasS] at hh
      · simp [hasS] at hh
      · simp [hasS] at hh
      · exact takes_C3 a t hs hr v gs W hv hmax
      · simp [hasS] at hh
      · exact takes_C5 a t hs hr v gs W hv hmax
  · exact takes_A a p t hr v gs W hv hmax

end Go.Proofs.Ytcledklajcdfiaa
