/-
  Leave, of package spin; Right, Has, Need and Take of the document's answers of layer 5.
  Conditions: none but the ranges of Go's types.
-/
import Derived.Test.YtcledklajcdfiaaQNeed
namespace Go.Proofs.Ytcledklajcdfiaa
open Go.RowKit Go.Shelf
attribute [local go_sem] spV ndV

theorem ne_eq {p n : Int} (h : p ≠ n) : (p == n) = false := by rw [beq_eq_false_iff_ne]; exact h
theorem ne_ne {p n : Int} (h : p ≠ n) : (p != n) = true := by rw [bne_iff_ne]; exact h

set_option maxRecDepth 100000 in
set_option maxHeartbeats 2000000 in
theorem qrright (s : SpM) (W : World) : Calls Try.prog 9 #[spV s] W fun e w' => e = .returned (.bool (rightS s)) ∧ Below W.heap.size W w' := by
  obtain ⟨a, p, t⟩ := s
  unfold spV
  have hc : (rightS ⟨a, p, t⟩ = false ∧ (a < 0 ∨ (0 ≤ a ∧ p < 0) ∨ (0 ≤ a ∧ 0 ≤ p ∧ 5 < p) ∨ (0 ≤ a ∧ p = 0 ∧ t ≠ 0))) ∨ (rightS ⟨a, p, t⟩ = true ∧ 0 ≤ a ∧ ((p = 0 ∧ t = 0) ∨ (p ≠ 0 ∧ 0 ≤ p ∧ p ≤ 5))) := by
    cases h : rightS ⟨a, p, t⟩ with
    | false => left; refine ⟨rfl, ?_⟩; simp [rightS] at h; omega
    | true => right; refine ⟨rfl, ?_⟩; obtain ⟨h1, h2⟩ := rightS_iff.1 h; simp only at h1 h2; omega
  rcases hc with ⟨hr, h1 | ⟨h1, h2⟩ | ⟨h1, h2, h3⟩ | ⟨h1, h2, h3⟩⟩ | ⟨hr, h1, ⟨h2, h3⟩ | ⟨h2, h3, h4⟩⟩
  · rw [hr]
    clear hr
    go_enter Try.func9, Try.ntmps9
    go_wp2
    go_ret
    exact ⟨rfl, below1 _ _⟩
  · rw [hr]
    clear hr
    go_enter Try.func9, Try.ntmps9
    go_wp2
    go_ret
    exact ⟨rfl, below1 _ _⟩
  · rw [hr]
    clear hr
    go_enter Try.func9, Try.ntmps9
    go_wp2
    go_ret
    exact ⟨rfl, below1 _ _⟩
  · rw [hr]
    have h4 := ne_eq h3
    subst h2
    clear hr h3
    go_enter Try.func9, Try.ntmps9
    go_wp2
    go_ret
    exact ⟨rfl, below1 _ _⟩
  · rw [hr]
    subst h2 h3
    clear hr
    go_enter Try.func9, Try.ntmps9
    go_wp2
    go_ret
    exact ⟨rfl, below1 _ _⟩
  · rw [hr]
    have h5 := ne_ne h2
    clear hr h2
    go_enter Try.func9, Try.ntmps9
    go_wp2
    go_ret
    exact ⟨rfl, below1 _ _⟩
set_option maxRecDepth 100000 in
set_option maxHeartbeats 2000000 in
theorem qrhas (s : SpM) (W : World) : Calls Try.prog 12 #[spV s] W fun e w' => e = .returned (.bool (hasS s)) ∧ Below W.heap.size W w' := by
  obtain ⟨a, p, t⟩ := s
  unfold spV
  by_cases h3 : p = 3
  · subst h3
    have hr : hasS ⟨a, 3, t⟩ = false := rfl
    rw [hr]
    clear hr
    go_enter Try.func12, Try.ntmps12
    go_wp2
    go_ret
    exact ⟨rfl, below1 _ _⟩
  · by_cases h5 : p = 5
    · subst h5
      have hr : hasS ⟨a, 5, t⟩ = false := rfl
      rw [hr]
      clear hr h3
      go_enter Try.func12, Try.ntmps12
      go_wp2
      go_ret
      exact ⟨rfl, below1 _ _⟩
    · have hr : hasS ⟨a, p, t⟩ = true := by simp [hasS, h3, h5]
      rw [hr]
      have g3 := ne_ne h3
      have g5 := ne_ne h5
      clear hr h3 h5
      go_enter Try.func12, Try.ntmps12
      go_wp2
      go_ret
      exact ⟨rfl, below1 _ _⟩
set_option maxRecDepth 100000 in
set_option maxHeartbeats 2000000 in
theorem qrneed (s : SpM) (W : World) : Calls Try.prog 13 #[spV s] W fun e w' => e = .returned (ndV (needS s)) ∧ Below W.heap.size W w' := by
  obtain ⟨a, p, t⟩ := s
  unfold spV ndV
  by_cases h0 : p = 0
  · subst h0
    go_enter Try.func13, Try.ntmps13
    go_wp2
    exact bodyPost_ret (v := .agg #[.int .i64 1, .int .i64 a, .int .u64 0, .int .u64 0]) (by simp [results, Try.results13, go_sem]) rfl ⟨rfl, below2 _ _ _⟩
  · by_cases h1 : p = 1
    · subst h1
      clear h0
      go_enter Try.func13, Try.ntmps13
      go_wp2
      exact bodyPost_ret (v := .agg #[.int .i64 3, .int .i64 a, .int .u64 t, .int .u64 (IntKind.u64.wrap (t + 1))]) (by simp [results, Try.results13, go_sem]) rfl ⟨rfl, below2 _ _ _⟩
    · by_cases h2 : p = 2
      · subst h2
        clear h0 h1
        go_enter Try.func13, Try.ntmps13
        go_wp2
        exact bodyPost_ret (v := .agg #[.int .i64 1, .int .i64 (wrap64 (a + 1)), .int .u64 0, .int .u64 0]) (by simp [results, Try.results13, go_sem]) rfl ⟨rfl, below2 _ _ _⟩
      · have hr : needS ⟨a, p, t⟩ = ⟨2, incI a, 0, incU t⟩ := by simp [needS, h0, h1, h2]
        rw [hr]
        have g0 := ne_eq h0
        have g1 := ne_eq h1
        have g2 := ne_eq h2
        clear hr h0 h1 h2
        go_enter Try.func13, Try.ntmps13
        go_wp2
        exact bodyPost_ret (v := .agg #[.int .i64 2, .int .i64 (wrap64 (a + 1)), .int .u64 0, .int .u64 (IntKind.u64.wrap (t + 1))]) (by simp [results, Try.results13, go_sem]) rfl ⟨rfl, below2 _ _ _⟩
set_option maxRecDepth 100000 in
set_option maxHeartbeats 2000000 in
theorem qrtake1 (a t v : Int) (W : World) : Calls Try.prog 15 #[.agg #[.int .i64 a, .int .i64 1, .int .u64 t], .agg #[.int .u64 v, .bool true]] W fun e w' => e = .returned (.agg #[.int .i64 a, .int .i64 2, .int .u64 t]) ∧ Below W.heap.size W w' := by
  go_enter Try.func15, Try.ntmps15
  go_wp2
  exact bodyPost_ret (v := .agg #[.int .i64 a, .int .i64 2, .int .u64 t]) (by simp [results, Try.results15, go_sem]) rfl ⟨rfl, by (first | exact below1 _ _ | exact below2 _ _ _ | exact below3 _ _ _ _ | exact below4 _ _ _ _ _ | exact below5 _ _ _ _ _ _ | exact below6 _ _ _ _ _ _ _ | exact (below1 _ _).drew | exact (below2 _ _ _).drew | exact (below3 _ _ _ _).drew)⟩
set_option maxRecDepth 100000 in
set_option maxHeartbeats 2000000 in
theorem qrtake1n (a t v : Int) (W : World) : Calls Try.prog 15 #[.agg #[.int .i64 a, .int .i64 1, .int .u64 t], .agg #[.int .u64 v, .bool false]] W fun e w' => e = .returned (.agg #[.int .i64 a, .int .i64 0, .int .u64 0]) ∧ Below W.heap.size W w' := by
  go_enter Try.func15, Try.ntmps15
  go_wp2
  exact bodyPost_ret (v := .agg #[.int .i64 a, .int .i64 0, .int .u64 0]) (by simp [results, Try.results15, go_sem]) rfl ⟨rfl, by (first | exact below1 _ _ | exact below2 _ _ _ | exact below3 _ _ _ _ | exact below4 _ _ _ _ _ | exact below5 _ _ _ _ _ _ | exact below6 _ _ _ _ _ _ _ | exact (below1 _ _).drew | exact (below2 _ _ _).drew | exact (below3 _ _ _ _).drew)⟩
set_option maxRecDepth 100000 in
set_option maxHeartbeats 2000000 in
theorem qrtakeN (a p t v : Int) (h1 : (p == 1) = false) (W : World) : Calls Try.prog 15 #[.agg #[.int .i64 a, .int .i64 p, .int .u64 t], .agg #[.int .u64 v, .bool false]] W fun e w' => e = .returned (.agg #[.int .i64 a, .int .i64 p, .int .u64 t]) ∧ Below W.heap.size W w' := by
  go_enter Try.func15, Try.ntmps15
  go_wp2
  exact bodyPost_ret (v := .agg #[.int .i64 a, .int .i64 p, .int .u64 t]) (by simp [results, Try.results15, go_sem]) rfl ⟨rfl, by (first | exact below1 _ _ | exact below2 _ _ _ | exact below3 _ _ _ _ | exact below4 _ _ _ _ _ | exact below5 _ _ _ _ _ _ | exact below6 _ _ _ _ _ _ _ | exact (below1 _ _).drew | exact (below2 _ _ _).drew | exact (below3 _ _ _ _).drew)⟩
set_option maxRecDepth 100000 in
set_option maxHeartbeats 2000000 in
theorem qrtake0 (a t v : Int) (W : World) : Calls Try.prog 15 #[.agg #[.int .i64 a, .int .i64 0, .int .u64 t], .agg #[.int .u64 v, .bool true]] W fun e w' => e = .returned (.agg #[.int .i64 a, .int .i64 1, .int .u64 v]) ∧ Below W.heap.size W w' := by
  go_enter Try.func15, Try.ntmps15
  go_wp2
  go_region
  all_goals
    go_wp2
    exact bodyPost_ret (v := .agg #[.int .i64 a, .int .i64 1, .int .u64 v]) (by simp [results, Try.results15, go_sem]) rfl ⟨rfl, by (first | exact below1 _ _ | exact below2 _ _ _ | exact below3 _ _ _ _ | exact below4 _ _ _ _ _ | exact below5 _ _ _ _ _ _ | exact below6 _ _ _ _ _ _ _ | exact (below1 _ _).drew | exact (below2 _ _ _).drew | exact (below3 _ _ _ _).drew)⟩
set_option maxRecDepth 100000 in
set_option maxHeartbeats 2000000 in
theorem qrtake2 (a t : Int) (W : World) : Calls Try.prog 15 #[.agg #[.int .i64 a, .int .i64 2, .int .u64 t], .agg #[.int .u64 t, .bool true]] W fun e w' => e = .returned (.agg #[.int .i64 a, .int .i64 3, .int .u64 t]) ∧ Below W.heap.size W w' := by
  go_enter Try.func15, Try.ntmps15
  go_wp2
  exact bodyPost_ret (v := .agg #[.int .i64 a, .int .i64 3, .int .u64 t]) (by simp [results, Try.results15, go_sem]) rfl ⟨rfl, by (first | exact below1 _ _ | exact below2 _ _ _ | exact below3 _ _ _ _ | exact below4 _ _ _ _ _ | exact below5 _ _ _ _ _ _ | exact below6 _ _ _ _ _ _ _ | exact (below1 _ _).drew | exact (below2 _ _ _).drew | exact (below3 _ _ _ _).drew)⟩
set_option maxRecDepth 100000 in
set_option maxHeartbeats 2000000 in
theorem qrtake2o (a t v : Int) (hv : (v == t) = false) (W : World) : Calls Try.prog 15 #[.agg #[.int .i64 a, .int .i64 2, .int .u64 t], .agg #[.int .u64 v, .bool true]] W fun e w' => e = .returned (.agg #[.int .i64 a, .int .i64 2, .int .u64 t]) ∧ Below W.heap.size W w' := by
  go_enter Try.func15, Try.ntmps15
  go_wp2
  exact bodyPost_ret (v := .agg #[.int .i64 a, .int .i64 2, .int .u64 t]) (by simp [results, Try.results15, go_sem]) rfl ⟨rfl, by (first | exact below1 _ _ | exact below2 _ _ _ | exact below3 _ _ _ _ | exact below4 _ _ _ _ _ | exact below5 _ _ _ _ _ _ | exact below6 _ _ _ _ _ _ _ | exact (below1 _ _).drew | exact (below2 _ _ _).drew | exact (below3 _ _ _ _).drew)⟩
set_option maxRecDepth 100000 in
set_option maxHeartbeats 2000000 in
theorem qrtake4 (a t v : Int) (W : World) : Calls Try.prog 15 #[.agg #[.int .i64 a, .int .i64 4, .int .u64 t], .agg #[.int .u64 v, .bool true]] W fun e w' => e = .returned (.agg #[.int .i64 a, .int .i64 5, .int .u64 t]) ∧ Below W.heap.size W w' := by
  go_enter Try.func15, Try.ntmps15
  go_wp2
  exact bodyPost_ret (v := .agg #[.int .i64 a, .int .i64 5, .int .u64 t]) (by simp [results, Try.results15, go_sem]) rfl ⟨rfl, by (first | exact below1 _ _ | exact below2 _ _ _ | exact below3 _ _ _ _ | exact below4 _ _ _ _ _ | exact below5 _ _ _ _ _ _ | exact below6 _ _ _ _ _ _ _ | exact (below1 _ _).drew | exact (below2 _ _ _).drew | exact (below3 _ _ _ _).drew)⟩
set_option maxRecDepth 100000 in
set_option maxHeartbeats 2000000 in
theorem qrtakeO (a p t v : Int) (h1 : (p == 1) = false) (h0 : (p == 0) = false) (h2 : (p == 2) = false) (h4 : (p == 4) = false) (W : World) : Calls Try.prog 15 #[.agg #[.int .i64 a, .int .i64 p, .int .u64 t], .agg #[.int .u64 v, .bool true]] W fun e w' => e = .returned (.agg #[.int .i64 a, .int .i64 p, .int .u64 t]) ∧ Below W.heap.size W w' := by
  go_enter Try.func15, Try.ntmps15
  go_wp2
  exact bodyPost_ret (v := .agg #[.int .i64 a, .int .i64 p, .int .u64 t]) (by simp [results, Try.results15, go_sem]) rfl ⟨rfl, by (first | exact below1 _ _ | exact below2 _ _ _ | exact below3 _ _ _ _ | exact below4 _ _ _ _ _ | exact below5 _ _ _ _ _ _ | exact below6 _ _ _ _ _ _ _ | exact (below1 _ _).drew | exact (below2 _ _ _).drew | exact (below3 _ _ _ _).drew)⟩
theorem qrtake (s : SpM) (v : Int) (d : Bool) (W : World) : Calls Try.prog 15 #[spV s, .agg #[.int .u64 v, .bool d]] W fun e w' => e = .returned (spV (takeS s v d)) ∧ Below W.heap.size W w' := by
  obtain ⟨a, p, t⟩ := s
  by_cases h1 : p = 1
  · subst h1
    cases d
    · exact qrtake1n a t v W
    · exact qrtake1 a t v W
  · cases d
    · have e : takeS ⟨a, p, t⟩ v false = ⟨a, p, t⟩ := by simp [takeS, h1]
      rw [e]
      exact qrtakeN a p t v (ne_eq h1) W
    · by_cases h0 : p = 0
      · subst h0
        exact qrtake0 a t v W
      · by_cases h2 : p = 2
        · subst h2
          by_cases hv : v = t
          · subst hv
            have e : takeS ⟨a, 2, v⟩ v true = ⟨a, 3, v⟩ := by simp [takeS]
            rw [e]
            exact qrtake2 a v W
          · have e : takeS ⟨a, 2, t⟩ v true = ⟨a, 2, t⟩ := by simp [takeS, hv]
            rw [e]
            exact qrtake2o a t v (ne_eq hv) W
        · by_cases h4 : p = 4
          · subst h4
            exact qrtake4 a t v W
          · have e : takeS ⟨a, p, t⟩ v true = ⟨a, p, t⟩ := by simp [takeS, h1, h0, h2, h4]
            rw [e]
            exact qrtakeO a p t v (ne_eq h1) (ne_eq h0) (ne_eq h2) (ne_eq h4) W
set_option maxRecDepth 100000 in
set_option maxHeartbeats 2000000 in
theorem qleave_bad (s : SpM) (h : rightS s = false) (W : World) : Calls Try.prog 16 #[spV s] W fun e w' => e = .returned (.tuple #[spV ⟨0, 0, 0⟩, .int .i64 150]) ∧ Below W.heap.size W w' := by
  obtain ⟨a, p, t⟩ := s
  have HCK := Lib.hid (show ∀ W', Calls Try.prog 10 #[.agg #[.int .i64 a, .int .i64 p, .int .u64 t]] W' fun e w' => e = .returned (.int .i64 150) ∧ Below W'.heap.size W' w' from fun W' => qcheck_no ⟨a, p, t⟩ h W')
  clear h
  unfold spV
  obtain ⟨y, hy⟩ : ∃ y, y = W.heap.size := ⟨_, rfl⟩
  obtain ⟨w0, hw0⟩ : ∃ w : World, w = (W.alloc (.cells #[.int .i64 a, .int .i64 p, .int .u64 t] 24)).alloc (.cells #[.int .i64 0, .int .i64 0, .int .u64 0] 24) := ⟨_, rfl⟩
  have hB0 : Below W.heap.size W w0 := by rw [hw0]; exact below2 _ _ _
  have hX : SpBox w0 y a p t := by rw [hw0, hy]; exact ((below1 (W.alloc (.cells #[.int .i64 a, .int .i64 p, .int .u64 t] 24)) _).block _ (by simp)).trans (World.alloc_heap_new W _)
  have hR : SpBox w0 (y + 1) 0 0 0 := by
    have := World.alloc_heap_new (W.alloc (.cells #[.int .i64 a, .int .i64 p, .int .u64 t] 24)) (.cells #[.int .i64 0, .int .i64 0, .int .u64 0] 24)
    rw [World.size_alloc] at this
    rw [hw0, hy]; exact this
  have HBX := Lib.hid (And.intro hX hR)
  have HE := Lib.hid (And.intro hw0 hy)
  have HB0 := Lib.hid hB0
  have hs0 := hB0.size
  have hyW : W.heap.size ≤ y := Nat.le_of_eq hy.symm
  clear hw0 hy hB0 hX hR
  obtain ⟨b0, b1, b2⟩ := HBX.out.1.cells
  go_enter Try.func16, Try.ntmps16
  go_upto_region 1 with (fail)
  rw [← HE.out.1, ← HE.out.2]
  go_wp2_with fail
  refine (HCK.out _).mono ?_
  rintro e w1 ⟨rfl, hb1⟩
  have HB1 := Lib.hid (below_then HB0.out HB0.out.size hb1)
  have HX1 := Lib.hid (And.intro (HBX.out.1.below hb1) (HBX.out.2.below hb1))
  clear b0 b1 b2 hb1 HBX HB0 HCK HE
  clear hs0
  obtain ⟨r0, r1, r2⟩ := HX1.out.2.cells
  have rf := HX1.out.2.free
  have rf0 := rf 0
  have rf1 := rf 1
  have rf2 := rf 2
  clear rf HX1
  go_wp2
  exact bodyPost_ret (v := .tuple #[.agg #[.int .i64 0, .int .i64 0, .int .u64 0], .int .i64 150]) (by simp [results, Try.results16, go_sem, r0, r1, r2]) rfl ⟨rfl, below_set3 HB1.out (by omega) _ _ _⟩
set_option maxRecDepth 100000 in
set_option maxHeartbeats 2000000 in
theorem qleave_no (s : SpM) (h : rightS s = true) (h3 : s.p ≠ 3) (W : World) : Calls Try.prog 16 #[spV s] W fun e w' => e = .returned (.tuple #[spV ⟨0, 0, 0⟩, .int .i64 2]) ∧ Below W.heap.size W w' := by
  obtain ⟨a, p, t⟩ := s
  have HCK := Lib.hid (show ∀ W', Calls Try.prog 10 #[.agg #[.int .i64 a, .int .i64 p, .int .u64 t]] W' fun e w' => e = .returned (.int .i64 0) ∧ Below W'.heap.size W' w' from fun W' => qcheck_yes ⟨a, p, t⟩ h W')
  have g3 := ne_ne h3
  simp only at g3
  clear h h3
  unfold spV
  obtain ⟨y, hy⟩ : ∃ y, y = W.heap.size := ⟨_, rfl⟩
  obtain ⟨w0, hw0⟩ : ∃ w : World, w = (W.alloc (.cells #[.int .i64 a, .int .i64 p, .int .u64 t] 24)).alloc (.cells #[.int .i64 0, .int .i64 0, .int .u64 0] 24) := ⟨_, rfl⟩
  have hB0 : Below W.heap.size W w0 := by rw [hw0]; exact below2 _ _ _
  have hX : SpBox w0 y a p t := by rw [hw0, hy]; exact ((below1 (W.alloc (.cells #[.int .i64 a, .int .i64 p, .int .u64 t] 24)) _).block _ (by simp)).trans (World.alloc_heap_new W _)
  have hR : SpBox w0 (y + 1) 0 0 0 := by
    have := World.alloc_heap_new (W.alloc (.cells #[.int .i64 a, .int .i64 p, .int .u64 t] 24)) (.cells #[.int .i64 0, .int .i64 0, .int .u64 0] 24)
    rw [World.size_alloc] at this
    rw [hw0, hy]; exact this
  have HBX := Lib.hid (And.intro hX hR)
  have HE := Lib.hid (And.intro hw0 hy)
  have HB0 := Lib.hid hB0
  have hs0 := hB0.size
  have hyW : W.heap.size ≤ y := Nat.le_of_eq hy.symm
  clear hw0 hy hB0 hX hR
  obtain ⟨b0, b1, b2⟩ := HBX.out.1.cells
  go_enter Try.func16, Try.ntmps16
  go_upto_region 1 with (fail)
  rw [← HE.out.1, ← HE.out.2]
  go_wp2_with fail
  refine (HCK.out _).mono ?_
  rintro e w1 ⟨rfl, hb1⟩
  have HB1 := Lib.hid (below_then HB0.out HB0.out.size hb1)
  have HX1 := Lib.hid (And.intro (HBX.out.1.below hb1) (HBX.out.2.below hb1))
  clear b0 b1 b2 hb1 HBX HB0 HCK HE
  clear hs0
  obtain ⟨b0, b1, b2⟩ := HX1.out.1.cells
  obtain ⟨r0, r1, r2⟩ := HX1.out.2.cells
  have rf := HX1.out.2.free
  have rf0 := rf 0
  have rf1 := rf 1
  have rf2 := rf 2
  clear rf HX1
  go_wp2
  exact bodyPost_ret (v := .tuple #[.agg #[.int .i64 0, .int .i64 0, .int .u64 0], .int .i64 2]) (by simp [results, Try.results16, go_sem, r0, r1, r2]) rfl ⟨rfl, below_set3 HB1.out (by omega) _ _ _⟩
set_option maxRecDepth 100000 in
set_option maxHeartbeats 2000000 in
theorem qleave_yes (a t : Int) (ha : 0 ≤ a) (W : World) : Calls Try.prog 16 #[.agg #[.int .i64 a, .int .i64 3, .int .u64 t]] W fun e w' => e = .returned (.tuple #[.agg #[.int .i64 a, .int .i64 4, .int .u64 t], .int .i64 0]) ∧ Below W.heap.size W w' := by
  have HCK := Lib.hid (show ∀ W', Calls Try.prog 10 #[.agg #[.int .i64 a, .int .i64 3, .int .u64 t]] W' fun e w' => e = .returned (.int .i64 0) ∧ Below W'.heap.size W' w' from fun W' => qcheck_yes ⟨a, 3, t⟩ (rightS_iff.2 ⟨ha, .inr (.inr (.inr (.inl rfl)))⟩) W')
  obtain ⟨y, hy⟩ : ∃ y, y = W.heap.size := ⟨_, rfl⟩
  obtain ⟨w0, hw0⟩ : ∃ w : World, w = (W.alloc (.cells #[.int .i64 a, .int .i64 3, .int .u64 t] 24)).alloc (.cells #[.int .i64 0, .int .i64 0, .int .u64 0] 24) := ⟨_, rfl⟩
  have hB0 : Below W.heap.size W w0 := by rw [hw0]; exact below2 _ _ _
  have hX : SpBox w0 y a 3 t := by rw [hw0, hy]; exact ((below1 (W.alloc (.cells #[.int .i64 a, .int .i64 3, .int .u64 t] 24)) _).block _ (by simp)).trans (World.alloc_heap_new W _)
  have hR : SpBox w0 (y + 1) 0 0 0 := by
    have := World.alloc_heap_new (W.alloc (.cells #[.int .i64 a, .int .i64 3, .int .u64 t] 24)) (.cells #[.int .i64 0, .int .i64 0, .int .u64 0] 24)
    rw [World.size_alloc] at this
    rw [hw0, hy]; exact this
  have HBX := Lib.hid (And.intro hX hR)
  have HE := Lib.hid (And.intro hw0 hy)
  have HB0 := Lib.hid hB0
  have hs0 := hB0.size
  have hyW : W.heap.size ≤ y := Nat.le_of_eq hy.symm
  clear hw0 hy hB0 hX hR
  obtain ⟨b0, b1, b2⟩ := HBX.out.1.cells
  go_enter Try.func16, Try.ntmps16
  go_upto_region 1 with (fail)
  rw [← HE.out.1, ← HE.out.2]
  go_wp2_with fail
  refine (HCK.out _).mono ?_
  rintro e w1 ⟨rfl, hb1⟩
  have HB1 := Lib.hid (below_then HB0.out HB0.out.size hb1)
  have HX1 := Lib.hid (And.intro (HBX.out.1.below hb1) (HBX.out.2.below hb1))
  clear b0 b1 b2 hb1 HBX HB0 HCK HE
  obtain ⟨b0, b1, b2⟩ := HX1.out.1.cells
  have bf := HX1.out.1.free 1
  obtain ⟨x2, hx2⟩ : ∃ w : World, w = w1.setCell ⟨y, 1, none⟩ (.int .i64 4) := ⟨_, rfl⟩
  have hk : Keeps (fun q => q = y) w1 x2 := by rw [hx2]; exact Keeps.setCell w1 (S := fun q => q = y) (p := ⟨y, 1, none⟩) rfl _
  have HY := Lib.hid (show SpBox x2 y a 4 t by rw [hx2]; unfold SpBox; rw [heap_setCell_same w1 y 1 _ _ _ HX1.out.1]; rfl)
  have HR := Lib.hid (HX1.out.2.keeps hk (fun e => by have e : y + 1 = y := e; omega))
  have HB2 := Lib.hid (show Below W.heap.size W x2 by rw [hx2]; exact HB1.out.setCell (p := ⟨y, 1, none⟩) hyW _)
  have HE := Lib.hid hx2
  clear hk hx2 HX1
  go_upto_region 7 with (fail)
  rw [← HE.out]
  clear b0 b1 b2 bf
  obtain ⟨b0, b1, b2⟩ := HY.out.cells
  obtain ⟨r0, r1, r2⟩ := HR.out.cells
  have rf := HR.out.free
  have rf0 := rf 0
  have rf1 := rf 1
  have rf2 := rf 2
  clear rf HE hs0
  go_wp2
  exact bodyPost_ret (v := .tuple #[.agg #[.int .i64 a, .int .i64 4, .int .u64 t], .int .i64 0]) (by simp [results, Try.results16, go_sem, r0, r1, r2]) rfl ⟨rfl, below_set3 HB2.out (by omega) _ _ _⟩
theorem qleave_held (s : SpM) (h : rightS s = true) (h3 : s.p = 3) (W : World) : Calls Try.prog 16 #[spV s] W fun e w' => e = .returned (.tuple #[spV ⟨s.a, 4, s.t⟩, .int .i64 0]) ∧ Below W.heap.size W w' := by
  obtain ⟨a, p, t⟩ := s
  simp only at h3
  subst h3
  exact qleave_yes a t (rightS_iff.1 h).1 W

end Go.Proofs.Ytcledklajcdfiaa
