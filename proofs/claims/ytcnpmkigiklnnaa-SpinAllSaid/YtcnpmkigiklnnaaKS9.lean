/-
  Plays of those who want locks: the mathematics, and how a play lies in memory.
  Conditions: as each has them.
-/
import Derived.Test.YtcnpmkigiklnnaaKS7
import Derived.Test.YtcnpmkigiklnnaaKS8
import Derived.Test.YtcnpmkigiklnnaaKS4
/-
  Leave, of package spin; Right, Has, Need and Take of the document's answers of layer 5.
  Conditions: none but the ranges of Go's types.
-/
namespace Go.Proofs.Ytcnpmkigiklnnaa
open Go.RowKit Go.Shelf
attribute [local go_sem] spV ndV

theorem ne_eq {p n : Int} (h : p ≠ n) : (p == n) = false := by rw [beq_eq_false_iff_ne]; exact h
theorem ne_ne {p n : Int} (h : p ≠ n) : (p != n) = true := by rw [bne_iff_ne]; exact h

set_option maxRecDepth 100000 in
set_option maxHeartbeats 2000000 in
theorem qrright (s : SpM) (W : World) : Calls Try.prog 9 #[spV s] W fun e w' => e = .returned (.bool (rightS s)) ∧ Below W.heap.size W w' := by
  obtain ⟨a, p, t⟩ := s
  unfold spV
  have hc : (rightS ⟨a, p, t⟩ = false ∧ (a < 0 ∨ (0 ≤ a ∧ p < 0) ∨ (0 ≤ a ∧ 0 ≤ p ∧ 5 < p) ∨ (0 ≤ a ∧ p = 0 ∧ t ≠ 0))) ∨ (rightS ⟨a, p, t⟩ = true ∧ 0 ≤ a ∧ ((p = 0 ∧ t = 0) ∨ (p ≠ 0 ∧ 0 ≤ p ∧ p ≤ 5))) := by
    cases h : rightS ⟨a, p, t⟩ with
    | false => left; refine ⟨rfl, ?_⟩; simp [rightS] at h; omega
    | true => right; refine ⟨rfl, ?_⟩; obtain ⟨h1, h2⟩ := rightS_iff.1 h; simp only at h1 h2; omega
  rcases hc with ⟨hr, h1 | ⟨h1, h2⟩ | ⟨h1, h2, h3⟩ | ⟨h1, h2, h3⟩⟩ | ⟨hr, h1, ⟨h2, h3⟩ | ⟨h2, h3, h4⟩⟩
  · rw [hr]
    clear hr
    go_enter Try.func9, Try.ntmps9
    go_wp2
    go_ret
    exact ⟨rfl, below1 _ _⟩
  · rw [hr]
    clear hr
    go_enter Try.func9, Try.ntmps9
    go_wp2
    go_ret
    exact ⟨rfl, below1 _ _⟩
  · rw [hr]
    clear hr
    go_enter Try.func9, Try.ntmps9
    go_wp2
    go_ret
    exact ⟨rfl, below1 _ _⟩
  · rw [hr]
    have h4 := ne_eq h3
    subst h2
    clear hr h3
    go_enter Try.func9, Try.ntmps9
    go_wp2
    go_ret
    exact ⟨rfl, below1 _ _⟩
  · rw [hr]
    subst h2 h3
    clear hr
    go_enter Try.func9, Try.ntmps9
    go_wp2
    go_ret
    exact ⟨rfl, below1 _ _⟩
  · rw [hr]
    have h5 := ne_ne h2
    clear hr h2
    go_enter Try.func9, Try.ntmps9
    go_wp2
    go_ret
    exact ⟨rfl, below1 _ _⟩
set_option maxRecDepth 100000 in
set_option maxHeartbeats 2000000 in
theorem qrhas (s : SpM) (W : World) : Calls Try.prog 12 #[spV s] W fun e w' => e = .returned (.bool (hasS s)) ∧ Below W.heap.size W w' := by
  obtain ⟨a, p, t⟩ := s
  unfold spV
  by_cases h3 : p = 3
  · subst h3
    have hr : hasS ⟨a, 3, t⟩ = false := rfl
    rw [hr]
    clear hr
    go_enter Try.func12, Try.ntmps12
    go_wp2
    go_ret
    exact ⟨rfl, below1 _ _⟩
  · by_cases h5 : p = 5
    · subst h5
      have hr : hasS ⟨a, 5, t⟩ = false := rfl
      rw [hr]
      clear hr h3
      go_enter Try.func12, Try.ntmps12
      go_wp2
      go_ret
      exact ⟨rfl, below1 _ _⟩
    · have hr : hasS ⟨a, p, t⟩ = true := by simp [hasS, h3, h5]
      rw [hr]
      have g3 := ne_ne h3
      have g5 := ne_ne h5
      clear hr h3 h5
      go_enter Try.func12, Try.ntmps12
      go_wp2
      go_ret
      exact ⟨rfl, below1 _ _⟩
set_option maxRecDepth 100000 in
set_option maxHeartbeats 2000000 in
theorem qrneed (s : SpM) (W : World) : Calls Try.prog 13 #[spV s] W fun e w' => e = .returned (ndV (needS s)) ∧ Below W.heap.size W w' := by
  obtain ⟨a, p, t⟩ := s
  unfold spV ndV
  by_cases h0 : p = 0
  · subst h0
    go_enter Try.func13, Try.ntmps13
    go_wp2
    exact bodyPost_ret (v := .agg #[.int .i64 1, .int .i64 a, .int .u64 0, .int .u64 0]) (by simp [results, Try.results13, go_sem]) rfl ⟨rfl, below2 _ _ _⟩
  · by_cases h1 : p = 1
    · subst h1
      clear h0
      go_enter Try.func13, Try.ntmps13
      go_wp2
      exact bodyPost_ret (v := .agg #[.int .i64 3, .int .i64 a, .int .u64 t, .int .u64 (IntKind.u64.wrap (t + 1))]) (by simp [results, Try.results13, go_sem]) rfl ⟨rfl, below2 _ _ _⟩
    · by_cases h2 : p = 2
      · subst h2
        clear h0 h1
        go_enter Try.func13, Try.ntmps13
        go_wp2
        exact bodyPost_ret (v := .agg #[.int .i64 1, .int .i64 (wrap64 (a + 1)), .int .u64 0, .int .u64 0]) (by simp [results, Try.results13, go_sem]) rfl ⟨rfl, below2 _ _ _⟩
      · have hr : needS ⟨a, p, t⟩ = ⟨2, incI a, 0, incU t⟩ := by simp [needS, h0, h1, h2]
        rw [hr]
        have g0 := ne_eq h0
        have g1 := ne_eq h1
        have g2 := ne_eq h2
        clear hr h0 h1 h2
        go_enter Try.func13, Try.ntmps13
        go_wp2
        exact bodyPost_ret (v := .agg #[.int .i64 2, .int .i64 (wrap64 (a + 1)), .int .u64 0, .int .u64 (IntKind.u64.wrap (t + 1))]) (by simp [results, Try.results13, go_sem]) rfl ⟨rfl, below2 _ _ _⟩
set_option maxRecDepth 100000 in
set_option maxHeartbeats 2000000 in
theorem qrtake1 (a t v : Int) (W : World) : Calls Try.prog 15 #[.agg #[.int .i64 a, .int .i64 1, .int .u64 t], .agg #[.int .u64 v, .bool true]] W fun e w' => e = .returned (.agg #[.int .i64 a, .int .i64 2, .int .u64 t]) ∧ Below W.heap.size W w' := by
  go_enter Try.func15, Try.ntmps15
  go_wp2
  exact bodyPost_ret (v := .agg #[.int .i64 a, .int .i64 2, .int .u64 t]) (by simp [results, Try.results15, go_sem]) rfl ⟨rfl, by (first | exact below1 _ _ | exact below2 _ _ _ | exact below3 _ _ _ _ | exact below4 _ _ _ _ _ | exact below5 _ _ _ _ _ _ | exact below6 _ _ _ _ _ _ _ | exact (below1 _ _).drew | exact (below2 _ _ _).drew | exact (below3 _ _ _ _).drew)⟩
set_option maxRecDepth 100000 in
set_option maxHeartbeats 2000000 in
theorem qrtake1n (a t v : Int) (W : World) : Calls Try.prog 15 #[.agg #[.int .i64 a, .int .i64 1, .int .u64 t], .agg #[.int .u64 v, .bool false]] W fun e w' => e = .returned (.agg #[.int .i64 a, .int .i64 0, .int .u64 0]) ∧ Below W.heap.size W w' := by
  go_enter Try.func15, Try.ntmps15
  go_wp2
  exact bodyPost_ret (v := .agg #[.int .i64 a, .int .i64 0, .int .u64 0]) (by simp [results, Try.results15, go_sem]) rfl ⟨rfl, by (first | exact below1 _ _ | exact below2 _ _ _ | exact below3 _ _ _ _ | exact below4 _ _ _ _ _ | exact below5 _ _ _ _ _ _ | exact below6 _ _ _ _ _ _ _ | exact (below1 _ _).drew | exact (below2 _ _ _).drew | exact (below3 _ _ _ _).drew)⟩
set_option maxRecDepth 100000 in
set_option maxHeartbeats 2000000 in
theorem qrtakeN (a p t v : Int) (h1 : (p == 1) = false) (W : World) : Calls Try.prog 15 #[.agg #[.int .i64 a, .int .i64 p, .int .u64 t], .agg #[.int .u64 v, .bool false]] W fun e w' => e = .returned (.agg #[.int .i64 a, .int .i64 p, .int .u64 t]) ∧ Below W.heap.size W w' := by
  go_enter Try.func15, Try.ntmps15
  go_wp2
  exact bodyPost_ret (v := .agg #[.int .i64 a, .int .i64 p, .int .u64 t]) (by simp [results, Try.results15, go_sem]) rfl ⟨rfl, by (first | exact below1 _ _ | exact below2 _ _ _ | exact below3 _ _ _ _ | exact below4 _ _ _ _ _ | exact below5 _ _ _ _ _ _ | exact below6 _ _ _ _ _ _ _ | exact (below1 _ _).drew | exact (below2 _ _ _).drew | exact (below3 _ _ _ _).drew)⟩
set_option maxRecDepth 100000 in
set_option maxHeartbeats 2000000 in
theorem qrtake0 (a t v : Int) (W : World) : Calls Try.prog 15 #[.agg #[.int .i64 a, .int .i64 0, .int .u64 t], .agg #[.int .u64 v, .bool true]] W fun e w' => e = .returned (.agg #[.int .i64 a, .int .i64 1, .int .u64 v]) ∧ Below W.heap.size W w' := by
  go_enter Try.func15, Try.ntmps15
  go_wp2
  go_region
  all_goals
    go_wp2
    exact bodyPost_ret (v := .agg #[.int .i64 a, .int .i64 1, .int .u64 v]) (by simp [results, Try.results15, go_sem]) rfl ⟨rfl, by (first | exact below1 _ _ | exact below2 _ _ _ | exact below3 _ _ _ _ | exact below4 _ _ _ _ _ | exact below5 _ _ _ _ _ _ | exact below6 _ _ _ _ _ _ _ | exact (below1 _ _).drew | exact (below2 _ _ _).drew | exact (below3 _ _ _ _).drew)⟩
set_option maxRecDepth 100000 in
set_option maxHeartbeats 2000000 in
theorem qrtake2 (a t : Int) (W : World) : Calls Try.prog 15 #[.agg #[.int .i64 a, .int .i64 2, .int .u64 t], .agg #[.int .u64 t, .bool true]] W fun e w' => e = .returned (.agg #[.int .i64 a, .int .i64 3, .int .u64 t]) ∧ Below W.heap.size W w' := by
  go_enter Try.func15, Try.ntmps15
  go_wp2
  exact bodyPost_ret (v := .agg #[.int .i64 a, .int .i64 3, .int .u64 t]) (by simp [results, Try.results15, go_sem]) rfl ⟨rfl, by (first | exact below1 _ _ | exact below2 _ _ _ | exact below3 _ _ _ _ | exact below4 _ _ _ _ _ | exact below5 _ _ _ _ _ _ | exact below6 _ _ _ _ _ _ _ | exact (below1 _ _).drew | exact (below2 _ _ _).drew | exact (below3 _ _ _ _).drew)⟩
set_option maxRecDepth 100000 in
set_option maxHeartbeats 2000000 in
theorem qrtake2o (a t v : Int) (hv : (v == t) = false) (W : World) : Calls Try.prog 15 #[.agg #[.int .i64 a, .int .i64 2, .int .u64 t], .agg #[.int .u64 v, .bool true]] W fun e w' => e = .returned (.agg #[.int .i64 a, .int .i64 2, .int .u64 t]) ∧ Below W.heap.size W w' := by
  go_enter Try.func15, Try.ntmps15
  go_wp2
  exact bodyPost_ret (v := .agg #[.int .i64 a, .int .i64 2, .int .u64 t]) (by simp [results, Try.results15, go_sem]) rfl ⟨rfl, by (first | exact below1 _ _ | exact below2 _ _ _ | exact below3 _ _ _ _ | exact below4 _ _ _ _ _ | exact below5 _ _ _ _ _ _ | exact below6 _ _ _ _ _ _ _ | exact (below1 _ _).drew | exact (below2 _ _ _).drew | exact (below3 _ _ _ _).drew)⟩
set_option maxRecDepth 100000 in
set_option maxHeartbeats 2000000 in
theorem qrtake4 (a t v : Int) (W : World) : Calls Try.prog 15 #[.agg #[.int .i64 a, .int .i64 4, .int .u64 t], .agg #[.int .u64 v, .bool true]] W fun e w' => e = .returned (.agg #[.int .i64 a, .int .i64 5, .int .u64 t]) ∧ Below W.heap.size W w' := by
  go_enter Try.func15, Try.ntmps15
  go_wp2
  exact bodyPost_ret (v := .agg #[.int .i64 a, .int .i64 5, .int .u64 t]) (by simp [results, Try.results15, go_sem]) rfl ⟨rfl, by (first | exact below1 _ _ | exact below2 _ _ _ | exact below3 _ _ _ _ | exact below4 _ _ _ _ _ | exact below5 _ _ _ _ _ _ | exact below6 _ _ _ _ _ _ _ | exact (below1 _ _).drew | exact (below2 _ _ _).drew | exact (below3 _ _ _ _).drew)⟩
set_option maxRecDepth 100000 in
set_option maxHeartbeats 2000000 in
theorem qrtakeO (a p t v : Int) (h1 : (p == 1) = false) (h0 : (p == 0) = false) (h2 : (p == 2) = false) (h4 : (p == 4) = false) (W : World) : Calls Try.prog 15 #[.agg #[.int .i64 a, .int .i64 p, .int .u64 t], .agg #[.int .u64 v, .bool true]] W fun e w' => e = .returned (.agg #[.int .i64 a, .int .i64 p, .int .u64 t]) ∧ Below W.heap.size W w' := by
  go_enter Try.func15, Try.ntmps15
  go_wp2
  exact bodyPost_ret (v := .agg #[.int .i64 a, .int .i64 p, .int .u64 t]) (by simp [results, Try.results15, go_sem]) rfl ⟨rfl, by (first | exact below1 _ _ | exact below2 _ _ _ | exact below3 _ _ _ _ | exact below4 _ _ _ _ _ | exact below5 _ _ _ _ _ _ | exact below6 _ _ _ _ _ _ _ | exact (below1 _ _).drew | exact (below2 _ _ _).drew | exact (below3 _ _ _ _).drew)⟩
theorem qrtake (s : SpM) (v : Int) (d : Bool) (W : World) : Calls Try.prog 15 #[spV s, .agg #[.int .u64 v, .bool d]] W fun e w' => e = .returned (spV (takeS s v d)) ∧ Below W.heap.size W w' := by
  obtain ⟨a, p, t⟩ := s
  by_cases h1 : p = 1
  · subst h1
    cases d
    · exact qrtake1n a t v W
    · exact qrtake1 a t v W
  · cases d
    · have e : takeS ⟨a, p, t⟩ v false = ⟨a, p, t⟩ := by simp [takeS, h1]
      rw [e]
      exact qrtakeN a p t v (ne_eq h1) W
    · by_cases h0 : p = 0
      · subst h0
        exact qrtake0 a t v W
      · by_cases h2 : p = 2
        · subst h2
          by_cases hv : v = t
          · subst hv
            have e : takeS ⟨a, 2, v⟩ v true = ⟨a, 3, v⟩ := by simp [takeS]
            rw [e]
            exact qrtake2 a v W
          · have e : takeS ⟨a, 2, t⟩ v true = ⟨a, 2, t⟩ := by simp [takeS, hv]
            rw [e]
            exact qrtake2o a t v (ne_eq hv) W
        · by_cases h4 : p = 4
          · subst h4
            exact qrtake4 a t v W
          · have e : takeS ⟨a, p, t⟩ v true = ⟨a, p, t⟩ := by simp [takeS, h1, h0, h2, h4]
            rw [e]
            exact qrtakeO a p t v (ne_eq h1) (ne_eq h0) (ne_eq h2) (ne_eq h4) W
set_option maxRecDepth 100000 in
set_option maxHeartbeats 2000000 in
theorem qleave_bad (s : SpM) (h : rightS s = false) (W : World) : Calls Try.prog 16 #[spV s] W fun e w' => e = .returned (.tuple #[spV ⟨0, 0, 0⟩, .int .i64 150]) ∧ Below W.heap.size W w' := by
  obtain ⟨a, p, t⟩ := s
  have HCK := Lib.hid (show ∀ W', Calls Try.prog 10 #[.agg #[.int .i64 a, .int .i64 p, .int .u64 t]] W' fun e w' => e = .returned (.int .i64 150) ∧ Below W'.heap.size W' w' from fun W' => qcheck_no ⟨a, p, t⟩ h W')
  clear h
  unfold spV
  obtain ⟨y, hy⟩ : ∃ y, y = W.heap.size := ⟨_, rfl⟩
  obtain ⟨w0, hw0⟩ : ∃ w : World, w = (W.alloc (.cells #[.int .i64 a, .int .i64 p, .int .u64 t] 24)).alloc (.cells #[.int .i64 0, .int .i64 0, .int .u64 0] 24) := ⟨_, rfl⟩
  have hB0 : Below W.heap.size W w0 := by rw [hw0]; exact below2 _ _ _
  have hX : SpBox w0 y a p t := by rw [hw0, hy]; exact ((below1 (W.alloc (.cells #[.int .i64 a, .int .i64 p, .int .u64 t] 24)) _).block _ (by simp)).trans (World.alloc_heap_new W _)
  have hR : SpBox w0 (y + 1) 0 0 0 := by
    have := World.alloc_heap_new (W.alloc (.cells #[.int .i64 a, .int .i64 p, .int .u64 t] 24)) (.cells #[.int .i64 0, .int .i64 0, .int .u64 0] 24)
    rw [World.size_alloc] at this
    rw [hw0, hy]; exact this
  have HBX := Lib.hid (And.intro hX hR)
  have HE := Lib.hid (And.intro hw0 hy)
  have HB0 := Lib.hid hB0
  have hs0 := hB0.size
  have hyW : W.heap.size ≤ y := Nat.le_of_eq hy.symm
  clear hw0 hy hB0 hX hR
  obtain ⟨b0, b1, b2⟩ := HBX.out.1.cells
  go_enter Try.func16, Try.ntmps16
  go_upto_region 1 with (fail)
  rw [← HE.out.1, ← HE.out.2]
  go_wp2_with fail
  refine (HCK.out _).mono ?_
  rintro e w1 ⟨rfl, hb1⟩
  have HB1 := Lib.hid (below_then HB0.out HB0.out.size hb1)
  have HX1 := Lib.hid (And.intro (HBX.out.1.below hb1) (HBX.out.2.below hb1))
  clear b0 b1 b2 hb1 HBX HB0 HCK HE
  clear hs0
  obtain ⟨r0, r1, r2⟩ := HX1.out.2.cells
  have rf := HX1.out.2.free
  have rf0 := rf 0
  have rf1 := rf 1
  have rf2 := rf 2
  clear rf HX1
  go_wp2
  exact bodyPost_ret (v := .tuple #[.agg #[.int .i64 0, .int .i64 0, .int .u64 0], .int .i64 150]) (by simp [results, Try.results16, go_sem, r0, r1, r2]) rfl ⟨rfl, below_set3 HB1.out (by omega) _ _ _⟩
set_option maxRecDepth 100000 in
set_option maxHeartbeats 2000000 in
theorem qleave_no (s : SpM) (h : rightS s = true) (h3 : s.p ≠ 3) (W : World) : Calls Try.prog 16 #[spV s] W fun e w' => e = .returned (.tuple #[spV ⟨0, 0, 0⟩, .int .i64 2]) ∧ Below W.heap.size W w' := by
  obtain ⟨a, p, t⟩ := s
  have HCK := Lib.hid (show ∀ W', Calls Try.prog 10 #[.agg #[.int .i64 a, .int .i64 p, .int .u64 t]] W' fun e w' => e = .returned (.int .i64 0) ∧ Below W'.heap.size W' w' from fun W' => qcheck_yes ⟨a, p, t⟩ h W')
  have g3 := ne_ne h3
  simp only at g3
  clear h h3
  unfold spV
  obtain ⟨y, hy⟩ : ∃ y, y = W.heap.size := ⟨_, rfl⟩
  obtain ⟨w0, hw0⟩ : ∃ w : World, w = (W.alloc (.cells #[.int .i64 a, .int .i64 p, .int .u64 t] 24)).alloc (.cells #[.int .i64 0, .int .i64 0, .int .u64 0] 24) := ⟨_, rfl⟩
  have hB0 : Below W.heap.size W w0 := by rw [hw0]; exact below2 _ _ _
  have hX : SpBox w0 y a p t := by rw [hw0, hy]; exact ((below1 (W.alloc (.cells #[.int .i64 a, .int .i64 p, .int .u64 t] 24)) _).block _ (by simp)).trans (World.alloc_heap_new W _)
  have hR : SpBox w0 (y + 1) 0 0 0 := by
    have := World.alloc_heap_new (W.alloc (.cells #[.int .i64 a, .int .i64 p, .int .u64 t] 24)) (.cells #[.int .i64 0, .int .i64 0, .int .u64 0] 24)
    rw [World.size_alloc] at this
    rw [hw0, hy]; exact this
  have HBX := Lib.hid (And.intro hX hR)
  have HE := Lib.hid (And.intro hw0 hy)
  have HB0 := Lib.hid hB0
  have hs0 := hB0.size
  have hyW : W.heap.size ≤ y := Nat.le_of_eq hy.symm
  clear hw0 hy hB0 hX hR
  obtain ⟨b0, b1, b2⟩ := HBX.out.1.cells
  go_enter Try.func16, Try.ntmps16
  go_upto_region 1 with (fail)
  rw [← HE.out.1, ← HE.out.2]
  go_wp2_with fail
  refine (HCK.out _).mono ?_
  rintro e w1 ⟨rfl, hb1⟩
  have HB1 := Lib.hid (below_then HB0.out HB0.out.size hb1)
  have HX1 := Lib.hid (And.intro (HBX.out.1.below hb1) (HBX.out.2.below hb1))
  clear b0 b1 b2 hb1 HBX HB0 HCK HE
  clear hs0
  obtain ⟨b0, b1, b2⟩ := HX1.out.1.cells
  obtain ⟨r0, r1, r2⟩ := HX1.out.2.cells
  have rf := HX1.out.2.free
  have rf0 := rf 0
  have rf1 := rf 1
  have rf2 := rf 2
  clear rf HX1
  go_wp2
  exact bodyPost_ret (v := .tuple #[.agg #[.int .i64 0, .int .i64 0, .int .u64 0], .int .i64 2]) (by simp [results, Try.results16, go_sem, r0, r1, r2]) rfl ⟨rfl, below_set3 HB1.out (by omega) _ _ _⟩
set_option maxRecDepth 100000 in
set_option maxHeartbeats 2000000 in
theorem qleave_yes (a t : Int) (ha : 0 ≤ a) (W : World) : Calls Try.prog 16 #[.agg #[.int .i64 a, .int .i64 3, .int .u64 t]] W fun e w' => e = .returned (.tuple #[.agg #[.int .i64 a, .int .i64 4, .int .u64 t], .int .i64 0]) ∧ Below W.heap.size W w' := by
  have HCK := Lib.hid (show ∀ W', Calls Try.prog 10 #[.agg #[.int .i64 a, .int .i64 3, .int .u64 t]] W' fun e w' => e = .returned (.int .i64 0) ∧ Below W'.heap.size W' w' from fun W' => qcheck_yes ⟨a, 3, t⟩ (rightS_iff.2 ⟨ha, .inr (.inr (.inr (.inl rfl)))⟩) W')
  obtain ⟨y, hy⟩ : ∃ y, y = W.heap.size := ⟨_, rfl⟩
  obtain ⟨w0, hw0⟩ : ∃ w : World, w = (W.alloc (.cells #[.int .i64 a, .int .i64 3, .int .u64 t] 24)).alloc (.cells #[.int .i64 0, .int .i64 0, .int .u64 0] 24) := ⟨_, rfl⟩
  have hB0 : Below W.heap.size W w0 := by rw [hw0]; exact below2 _ _ _
  have hX : SpBox w0 y a 3 t := by rw [hw0, hy]; exact ((below1 (W.alloc (.cells #[.int .i64 a, .int .i64 3, .int .u64 t] 24)) _).block _ (by simp)).trans (World.alloc_heap_new W _)
  have hR : SpBox w0 (y + 1) 0 0 0 := by
    have := World.alloc_heap_new (W.alloc (.cells #[.int .i64 a, .int .i64 3, .int .u64 t] 24)) (.cells #[.int .i64 0, .int .i64 0, .int .u64 0] 24)
    rw [World.size_alloc] at this
    rw [hw0, hy]; exact this
  have HBX := Lib.hid (And.intro hX hR)
  have HE := Lib.hid (And.intro hw0 hy)
  have HB0 := Lib.hid hB0
  have hs0 := hB0.size
  have hyW : W.heap.size ≤ y := Nat.le_of_eq hy.symm
  clear hw0 hy hB0 hX hR
  obtain ⟨b0, b1, b2⟩ := HBX.out.1.cells
  go_enter Try.func16, Try.ntmps16
  go_upto_region 1 with (fail)
  rw [← HE.out.1, ← HE.out.2]
  go_wp2_with fail
  refine (HCK.out _).mono ?_
  rintro e w1 ⟨rfl, hb1⟩
  have HB1 := Lib.hid (below_then HB0.out HB0.out.size hb1)
  have HX1 := Lib.hid (And.intro (HBX.out.1.below hb1) (HBX.out.2.below hb1))
  clear b0 b1 b2 hb1 HBX HB0 HCK HE
  obtain ⟨b0, b1, b2⟩ := HX1.out.1.cells
  have bf := HX1.out.1.free 1
  obtain ⟨x2, hx2⟩ : ∃ w : World, w = w1.setCell ⟨y, 1, none⟩ (.int .i64 4) := ⟨_, rfl⟩
  have hk : Keeps (fun q => q = y) w1 x2 := by rw [hx2]; exact Keeps.setCell w1 (S := fun q => q = y) (p := ⟨y, 1, none⟩) rfl _
  have HY := Lib.hid (show SpBox x2 y a 4 t by rw [hx2]; unfold SpBox; rw [heap_setCell_same w1 y 1 _ _ _ HX1.out.1]; rfl)
  have HR := Lib.hid (HX1.out.2.keeps hk (fun e => by have e : y + 1 = y := e; omega))
  have HB2 := Lib.hid (show Below W.heap.size W x2 by rw [hx2]; exact HB1.out.setCell (p := ⟨y, 1, none⟩) hyW _)
  have HE := Lib.hid hx2
  clear hk hx2 HX1
  go_upto_region 7 with (fail)
  rw [← HE.out]
  clear b0 b1 b2 bf
  obtain ⟨b0, b1, b2⟩ := HY.out.cells
  obtain ⟨r0, r1, r2⟩ := HR.out.cells
  have rf := HR.out.free
  have rf0 := rf 0
  have rf1 := rf 1
  have rf2 := rf 2
  clear rf HE hs0
  go_wp2
  exact bodyPost_ret (v := .tuple #[.agg #[.int .i64 a, .int .i64 4, .int .u64 t], .int .i64 0]) (by simp [results, Try.results16, go_sem, r0, r1, r2]) rfl ⟨rfl, below_set3 HB2.out (by omega) _ _ _⟩
theorem qleave_held (s : SpM) (h : rightS s = true) (h3 : s.p = 3) (W : World) : Calls Try.prog 16 #[spV s] W fun e w' => e = .returned (.tuple #[spV ⟨s.a, 4, s.t⟩, .int .i64 0]) ∧ Below W.heap.size W w' := by
  obtain ⟨a, p, t⟩ := s
  simp only at h3
  subst h3
  exact qleave_yes a t (rightS_iff.1 h).1 W

end Go.Proofs.Ytcnpmkigiklnnaa
namespace Go.Proofs.Ytcnpmkigiklnnaa
open Go.RowKit Go.Shelf

/-- A play: words, the fault, and all who want locks. -/
structure PlM where
  ws : List Int
  f : Bool
  ss : List SpM
/-- The step of one of them. -/
def stepM (ls : List Bool) (ws : List Int) (f : Bool) (s : SpM) : List Int × Bool × SpM :=
  if hasS s = true then ((accM ws ls f (needS s).k (needS s).a (needS s).o (needS s).n).1, (accM ws ls f (needS s).k (needS s).a (needS s).o (needS s).n).2.1, takeS s (accM ws ls f (needS s).k (needS s).a (needS s).o (needS s).n).2.2.1 (accM ws ls f (needS s).k (needS s).a (needS s).o (needS s).n).2.2.2)
  else (ws, f, s)
def dS : SpM := ⟨0, 0, 0⟩
def stepP (ls : List Bool) (P : PlM) (i : Nat) : PlM :=
  ⟨(stepM ls P.ws P.f (P.ss.getD i dS)).1, (stepM ls P.ws P.f (P.ss.getD i dS)).2.1, P.ss.set i (stepM ls P.ws P.f (P.ss.getD i dS)).2.2⟩
/-- Who has the lock is about to let it go. -/
def leaveS (s : SpM) : SpM := if s.p = 3 then ⟨s.a, 4, s.t⟩ else s
def turnP (ls : List Bool) (P : PlM) (i : Nat) : PlM := stepP ls ⟨P.ws, P.f, P.ss.set i (leaveS (P.ss.getD i dS))⟩ i
/-- What holds of all plays. -/
structure PlOk (ls : List Bool) (P : PlM) : Prop where
  mem : rightB P.ws ls = true
  rng : WRange P.ws
  may : ∀ s ∈ P.ss, rightS s = true
  sr : ∀ s ∈ P.ss, SpR s

theorem accM_rng {ws : List Int} (h : WRange ws) (ls : List Bool) (f : Bool) (k a o n : Int) (hn : 0 ≤ n ∧ n ≤ 18446744073709551615) :
    WRange (accM ws ls f k a o n).1 ∧ 0 ≤ (accM ws ls f k a o n).2.2.1 ∧ (accM ws ls f k a o n).2.2.1 ≤ 18446744073709551615 := by
  have hg : 0 ≤ ws.getD a.toNat 0 ∧ ws.getD a.toNat 0 ≤ 18446744073709551615 := by
    rw [List.getD_eq_getElem?_getD]
    cases hi : ws[a.toNat]? with
    | none => simp
    | some x => exact h x (List.mem_of_getElem? hi)
  have hs : WRange (ws.set a.toNat n) := fun x hx => by
    rcases List.mem_or_eq_of_mem_set hx with hx | rfl
    · exact h x hx
    · exact hn
  unfold accM
  split
  · split
    · exact ⟨h, hg.1, hg.2⟩
    · split
      · exact ⟨hs, hg.1, hg.2⟩
      · exact ⟨h, hg.1, hg.2⟩
  · exact ⟨h, (by decide : (0 : Int) ≤ 0), (by decide : (0 : Int) ≤ 18446744073709551615)⟩
theorem needS_rng (s : SpM) : kindB (needS s).k = true ∧ 0 ≤ (needS s).n ∧ (needS s).n ≤ 18446744073709551615 := by
  have h1 := incU_rng s.t
  unfold needS
  repeat' split
  all_goals exact ⟨by rw [kindB_iff]; simp, by first | exact h1.1 | exact (by decide : (0 : Int) ≤ 0), by first | exact h1.2 | exact (by decide : (0 : Int) ≤ 18446744073709551615)⟩
theorem accM_right {ws : List Int} {ls : List Bool} (h : rightB ws ls = true) (f : Bool) (k a o n : Int) : rightB (accM ws ls f k a o n).1 ls = true := by
  unfold accM
  split
  · rename_i hl
    split
    · exact h
    · split
      · obtain ⟨h1, h2, h3, h4⟩ := rightB_iff.1 h
        refine rightB_iff.2 ⟨by simpa using h1, by simpa using h2, by simpa using h3, fun i hi hi' => ?_⟩
        rw [List.getElem_set]
        split
        · rename_i e
          simp only [liveAt, Bool.and_eq_true] at hl
          have hd := hl.2
          rw [List.getD_eq_getElem?_getD, e, List.getElem?_eq_getElem hi'] at hd
          have hd' : ls[i] = true := by simpa using hd
          rw [hd']; rfl
        · exact h4 i (by simpa using hi) hi'
      · exact h
  · exact h
theorem stepM_ok {ls : List Bool} {ws : List Int} {f : Bool} {s : SpM} (hm : rightB ws ls = true) (hr : WRange ws) (h1 : rightS s = true) (h2 : SpR s) :
    rightB (stepM ls ws f s).1 ls = true ∧ WRange (stepM ls ws f s).1 ∧ rightS (stepM ls ws f s).2.2 = true ∧ SpR (stepM ls ws f s).2.2 ∧ (stepM ls ws f s).1.length = ws.length := by
  unfold stepM
  split
  · obtain ⟨hk, hn0, hn1⟩ := needS_rng s
    have hA := accM_rng hr ls f (needS s).k (needS s).a (needS s).o (needS s).n ⟨hn0, hn1⟩
    exact ⟨accM_right hm _ _ _ _ _, hA.1, takeS_right h1 _ _, takeS_rng h2 hA.2.1 hA.2.2 _, accM_length ..⟩
  · exact ⟨hm, hr, h1, h2, rfl⟩
theorem leaveS_ok {s : SpM} (h1 : rightS s = true) (h2 : SpR s) : rightS (leaveS s) = true ∧ SpR (leaveS s) := by
  unfold leaveS
  split
  · rename_i hp
    obtain ⟨ha, _⟩ := rightS_iff.1 h1
    exact ⟨rightS_iff.2 ⟨ha, .inr (.inr (.inr (.inr (.inl rfl))))⟩, ⟨h2.a0, h2.a1, (by decide : (-9223372036854775808 : Int) ≤ 4), (by decide : (4 : Int) ≤ 9223372036854775807), h2.t0, h2.t1⟩⟩
  · exact ⟨h1, h2⟩
theorem getD_mem {ss : List SpM} {i : Nat} (h : i < ss.length) : ss.getD i dS ∈ ss := by
  rw [List.getD_eq_getElem?_getD, List.getElem?_eq_getElem h]
  exact List.getElem_mem h
theorem PlOk.put {ls : List Bool} {P : PlM} (h : PlOk ls P) (i : Nat) {s : SpM} (h1 : rightS s = true) (h2 : SpR s) : PlOk ls ⟨P.ws, P.f, P.ss.set i s⟩ :=
  ⟨h.mem, h.rng, fun x hx => by
    rcases List.mem_or_eq_of_mem_set hx with hx | rfl
    · exact h.may x hx
    · exact h1, fun x hx => by
    rcases List.mem_or_eq_of_mem_set hx with hx | rfl
    · exact h.sr x hx
    · exact h2⟩
theorem PlOk.step {ls : List Bool} {P : PlM} (h : PlOk ls P) {i : Nat} (hi : i < P.ss.length) : PlOk ls (stepP ls P i) := by
  have hm := getD_mem hi
  obtain ⟨g1, g2, g3, g4, _⟩ := stepM_ok (f := P.f) h.mem h.rng (h.may _ hm) (h.sr _ hm)
  exact ⟨g1, g2, fun x hx => by
    rcases List.mem_or_eq_of_mem_set hx with hx | rfl
    · exact h.may x hx
    · exact g3, fun x hx => by
    rcases List.mem_or_eq_of_mem_set hx with hx | rfl
    · exact h.sr x hx
    · exact g4⟩
theorem PlOk.turn {ls : List Bool} {P : PlM} (h : PlOk ls P) {i : Nat} (hi : i < P.ss.length) : PlOk ls (turnP ls P i) := by
  have hm := getD_mem hi
  obtain ⟨g1, g2⟩ := leaveS_ok (h.may _ hm) (h.sr _ hm)
  exact (h.put i g1 g2).step (by simpa using hi)
theorem stepP_len (ls : List Bool) (P : PlM) (i : Nat) : (stepP ls P i).ss.length = P.ss.length := by simp [stepP]
theorem turnP_len (ls : List Bool) (P : PlM) (i : Nat) : (turnP ls P i).ss.length = P.ss.length := by simp [turnP, stepP]

/-- The cells of those who want locks. -/
def flatS : List SpM → List Value
  | [] => []
  | s :: r => .int .i64 s.a :: .int .i64 s.p :: .int .u64 s.t :: flatS r
theorem flatS_length : ∀ l : List SpM, (flatS l).length = l.length * 3
  | [] => rfl
  | s :: r => by simp only [flatS, List.length_cons, flatS_length r]; omega
theorem flatS_append : ∀ l m : List SpM, flatS (l ++ m) = flatS l ++ flatS m
  | [], _ => rfl
  | s :: r, m => by simp only [List.cons_append, flatS, flatS_append r m]
theorem flatS_get : ∀ (l : List SpM) (i : Nat) (h : i < l.length), (flatS l)[i * 3]? = some (.int .i64 l[i].a) ∧ (flatS l)[i * 3 + 1]? = some (.int .i64 l[i].p) ∧ (flatS l)[i * 3 + 2]? = some (.int .u64 l[i].t)
  | s :: r, 0, _ => ⟨rfl, rfl, rfl⟩
  | s :: r, i + 1, h => by
    have := flatS_get r i (by simpa using h)
    simp only [List.getElem_cons_succ, flatS, show (i + 1) * 3 = i * 3 + 1 + 1 + 1 by omega, show i * 3 + 1 + 1 + 1 + 1 = (i * 3 + 1) + 1 + 1 + 1 by omega, show i * 3 + 1 + 1 + 1 + 2 = (i * 3 + 2) + 1 + 1 + 1 by omega, List.getElem?_cons_succ]
    exact this
theorem flatS_set : ∀ (l : List SpM) (i : Nat) (s : SpM), (((flatS l).set (i * 3) (.int .i64 s.a)).set (i * 3 + 1) (.int .i64 s.p)).set (i * 3 + 2) (.int .u64 s.t) = flatS (l.set i s)
  | [], i, s => by simp [flatS]
  | x :: r, 0, s => rfl
  | x :: r, i + 1, s => by
    simp only [List.set_cons_succ, flatS, show (i + 1) * 3 = i * 3 + 1 + 1 + 1 by omega, show i * 3 + 1 + 1 + 1 + 1 = (i * 3 + 1) + 1 + 1 + 1 by omega, show i * 3 + 1 + 1 + 1 + 2 = (i * 3 + 2) + 1 + 1 + 1 by omega]
    rw [flatS_set r i s]
theorem flatS_one (l : List SpM) : ∀ u ∈ flatS l, u.oneCell' = true := by
  induction l with
  | nil => intro u h; cases h
  | cons s r ih =>
    intro u h
    simp only [flatS, List.mem_cons] at h
    rcases h with rfl | rfl | rfl | h
    · rfl
    · rfl
    · rfl
    · exact ih u h

/-- Block r is a play: a memory, and the places. -/
def YBox (w : World) (r : Nat) (x y : Value) (f : Bool) (l : Value) : Prop := w.heap[r]? = some (.cells #[x, y, .bool f, l] 90 (0, 0))
theorem YBox.lt {w : World} {r : Nat} {x y : Value} {f : Bool} {l : Value} (h : YBox w r x y f l) : r < w.heap.size := (Array.getElem?_eq_some_iff.1 h).1
theorem YBox.keeps {S : Nat → Prop} {w w' : World} {r : Nat} {x y : Value} {f : Bool} {l : Value} (h : YBox w r x y f l) (hk : Keeps S w w') (hr : ¬ S r) : YBox w' r x y f l := (hk.block r h.lt hr).trans h
theorem YBox.below {w w' : World} {r : Nat} {x y : Value} {f : Bool} {l : Value} (h : YBox w r x y f l) (hb : Below w.heap.size w w') : YBox w' r x y f l := (hb.block r h.lt).trans h
theorem YBox.cells {w : World} {r : Nat} {x y : Value} {f : Bool} {l : Value} (h : YBox w r x y f l) : w.cell? ⟨r, 0, none⟩ = some x ∧ w.cell? ⟨r, 1, none⟩ = some y ∧ w.cell? ⟨r, 2, none⟩ = some (.bool f) ∧ w.cell? ⟨r, 3, none⟩ = some l := by
  have h' : w.heap[r]? = _ := h
  simp [World.cell?, h']
theorem YBox.free {w : World} {r : Nat} {x y : Value} {f : Bool} {l : Value} (h : YBox w r x y f l) (i : Nat) : w.frozen? ⟨r, i, none⟩ = false := by
  have h' : w.heap[r]? = _ := h
  simp [World.frozen?, h']
theorem YBox.set {w : World} {r : Nat} {x y : Value} {f : Bool} {l : Value} (h : YBox w r x y f l) (x' y' : Value) (f' : Bool) : YBox (((w.setCell ⟨r, 0, none⟩ x').setCell ⟨r, 1, none⟩ y').setCell ⟨r, 2, none⟩ (.bool f')) r x' y' f' l := by
  unfold YBox
  rw [heap_setCell_same _ r 2 _ _ _ (heap_setCell_same _ r 1 _ _ _ (heap_setCell_same w r 0 _ _ _ h))]; rfl
/-- A play lies so: all of it in memory from block B on. -/
structure PlayIn (w : World) (B r g : Nat) (ls : List Bool) (P : PlM) (x y : Value) (n : Nat) : Prop where
  box : YBox w r x y P.f (.slice (some ⟨g, 0, none⟩) n n)
  words : w.ownsRow B 22 1 x P.ws.length (P.ws.map (Value.int .u64))
  lives : w.ownsRow B 4 1 y ls.length (ls.map Value.bool)
  places : w.ownsRow B 24 3 (.slice (some ⟨g, 0, none⟩) n n) n (flatS P.ss)
  len : P.ss.length = n
  lo : B ≤ r
def PlayAt (w : World) (B r g : Nat) (ls : List Bool) (P : PlM) (n : Nat) : Prop := ∃ x y, PlayIn w B r g ls P x y n
theorem PlayIn.keeps {S : Nat → Prop} {w w' : World} {B r g : Nat} {ls : List Bool} {P : PlM} {x y : Value} {n : Nat} (h : PlayIn w B r g ls P x y n) (hk : Keeps S w w') (hS : ∀ q, B ≤ q → q < w.heap.size → ¬ S q) : PlayIn w' B r g ls P x y n :=
  ⟨h.box.keeps hk (hS r h.lo h.box.lt), hk.row h.words (fun q hq => hS q (h.words.lt q hq).1 (h.words.lt q hq).2), hk.row h.lives (fun q hq => hS q (h.lives.lt q hq).1 (h.lives.lt q hq).2), hk.row h.places (fun q hq => hS q (h.places.lt q hq).1 (h.places.lt q hq).2), h.len, h.lo⟩
theorem PlayIn.below {w w' : World} {B r g : Nat} {ls : List Bool} {P : PlM} {x y : Value} {n : Nat} (h : PlayIn w B r g ls P x y n) (hb : Below w.heap.size w w') : PlayIn w' B r g ls P x y n :=
  h.keeps (S := fun _ => False) (Keeps.of_below hb) (fun _ _ _ h => h)
theorem PlayAt.below {w w' : World} {B r g : Nat} {ls : List Bool} {P : PlM} {n : Nat} (h : PlayAt w B r g ls P n) (hb : Below w.heap.size w w') : PlayAt w' B r g ls P n := by
  obtain ⟨x, y, h⟩ := h
  exact ⟨x, y, h.below hb⟩
theorem PlayIn.mem {w : World} {B r g : Nat} {ls : List Bool} {P : PlM} {x y : Value} {n : Nat} (h : PlayIn w B r g ls P x y n) : MemAt w (.agg #[x, y, .bool P.f]) P.ws ls P.f := ⟨_, _, rfl, nums_of_owns rfl h.words, bools_of_owns rfl h.lives⟩
theorem PlayIn.cell {w : World} {B r g : Nat} {ls : List Bool} {P : PlM} {x y : Value} {n : Nat} (h : PlayIn w B r g ls P x y n) {i : Nat} (hi : i < n) :
    (w.cell? ⟨g, i * 3, none⟩ = some (.int .i64 (P.ss.getD i dS).a) ∧ w.cell? ⟨g, i * 3 + 1, none⟩ = some (.int .i64 (P.ss.getD i dS).p) ∧ w.cell? ⟨g, i * 3 + 2, none⟩ = some (.int .u64 (P.ss.getD i dS).t)) ∧ (∀ j, w.frozen? ⟨g, j, none⟩ = false) ∧ g < w.heap.size := by
  have hl := h.len
  have hi' : i < P.ss.length := by omega
  have e : P.ss.getD i dS = P.ss[i] := by rw [List.getD_eq_getElem?_getD, List.getElem?_eq_getElem hi']; rfl
  rw [e]
  obtain ⟨f0, f1, f2⟩ := flatS_get P.ss i hi'
  exact ⟨⟨(h.places.cellAt _ (by omega)).trans f0, (h.places.cellAt _ (by omega)).trans f1, (h.places.cellAt _ (by omega)).trans f2⟩, fun j => h.places.frozenAt j, (h.places.lt g rfl).2⟩
theorem PlayIn.ne {w : World} {B r g : Nat} {ls : List Bool} {P : PlM} {x y : Value} {n : Nat} (h : PlayIn w B r g ls P x y n) : r ≠ g := by
  rintro rfl
  obtain ⟨c, f, h1⟩ := Lib.ownsRow_kind h.places _ rfl
  rw [show w.heap[r]? = _ from h.box] at h1
  simp at h1
/-- One of the places is another one. -/
theorem PlayIn.put {w w' : World} {B r g : Nat} {ls : List Bool} {P : PlM} {x y : Value} {n i : Nat} (h : PlayIn w B r g ls P x y n) (s : SpM) (hw : w' = ((w.setCell ⟨g, i * 3, none⟩ (.int .i64 s.a)).setCell ⟨g, i * 3 + 1, none⟩ (.int .i64 s.p)).setCell ⟨g, i * 3 + 2, none⟩ (.int .u64 s.t)) :
    PlayIn w' B r g ls ⟨P.ws, P.f, P.ss.set i s⟩ x y n ∧ Keeps (fun q => q = g) w w' := by
  have k0 : ∀ (X : World) (i : Nat) (v : Value), Keeps (fun q => q = g) X (X.setCell ⟨g, i, none⟩ v) := fun X i v => Keeps.setCell X (S := fun q => q = g) (p := ⟨g, i, none⟩) rfl v
  have hk : Keeps (fun q => q = g) w w' := by rw [hw]; exact ((k0 _ _ _).trans (k0 _ _ _)).trans (k0 _ _ _)
  have hs : w'.ownsRow B 24 3 (.slice (some ⟨g, 0, none⟩) n n) n (flatS (P.ss.set i s)) := by
    rw [hw, ← flatS_set]
    exact (((h.places.stored _ _).1.stored _ _).1.stored _ _).1
  refine ⟨⟨h.box.keeps hk h.ne, hk.row h.words (fun q hq e => ?_), hk.row h.lives (fun q hq e => ?_), hs, by rw [List.length_set]; exact h.len, h.lo⟩, hk⟩
  · exact owns_ne h.words h.places (by decide) hq rfl e
  · exact owns_ne h.lives h.places (by decide) hq rfl e

end Go.Proofs.Ytcnpmkigiklnnaa
