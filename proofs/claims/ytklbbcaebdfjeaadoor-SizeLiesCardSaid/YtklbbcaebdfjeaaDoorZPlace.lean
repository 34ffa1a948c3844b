/-
  Package size: Place.
  Conditions: the package's table of sizes is as it was laid; the ranges of Go's types.
-/
import Derived.Test.YtklbbcaebdfjeaaDoorZBase2
namespace Go.Proofs.YtklbbcaebdfjeaaDoor
open Go.RowKit Go.Shelf
attribute [local go_sem] Oper.semAt_some

/-- A variable that holds a block. -/
def BBox (w : World) (z : Nat) (a c : Int) : Prop := w.heap[z]? = some (.cells #[.int .i64 a, .int .i64 c] 33 (0, 0))
theorem BBox.new (w : World) (a c : Int) : BBox (w.alloc (.cells #[.int .i64 a, .int .i64 c] 33)) w.heap.size a c := World.alloc_heap_new _ _
theorem BBox.lt {w : World} {z : Nat} {a c : Int} (h : BBox w z a c) : z < w.heap.size := (Array.getElem?_eq_some_iff.1 h).1
theorem BBox.cells {w : World} {z : Nat} {a c : Int} (h : BBox w z a c) : w.cell? ⟨z, 0, none⟩ = some (.int .i64 a) ∧ w.cell? ⟨z, 1, none⟩ = some (.int .i64 c) := by
  unfold BBox at h
  simp [World.cell?, h]
theorem BBox.free {w : World} {z : Nat} {a c : Int} (h : BBox w z a c) : w.frozen? ⟨z, 0, none⟩ = false ∧ w.frozen? ⟨z, 1, none⟩ = false := by
  unfold BBox at h
  simp [World.frozen?, h]
theorem BBox.below {w w' : World} {z : Nat} {a c : Int} (h : BBox w z a c) (hb : Below w.heap.size w w') : BBox w' z a c := (hb.block z h.lt).trans h
theorem BBox.put {w : World} {z : Nat} {a c : Int} (h : BBox w z a c) (a' c' : Int) : BBox ((w.setCell ⟨z, 0, none⟩ (.int .i64 a')).setCell ⟨z, 1, none⟩ (.int .i64 c')) z a' c' := by
  unfold BBox at h ⊢
  rw [heap_setCell_same _ z 1 _ _ _ (heap_setCell_same w z 0 _ _ _ h)]
  simp
theorem below_put2 {B : Nat} (w : World) (z : Nat) (h : B ≤ z) (u v : Value) : Below B w ((w.setCell ⟨z, 0, none⟩ u).setCell ⟨z, 1, none⟩ v) := ((Below.refl B w).setCell (p := ⟨z, 0, none⟩) h u).setCell (p := ⟨z, 1, none⟩) h v

/-- Is there such a place? -/
def placeB (c p n : Int) : Bool := isB c && decide (0 ≤ p ∧ 0 ≤ n ∧ n < ((16 / szN c.toNat : Nat) : Int))
/-- What Place answers. -/
def placeA (c p n : Int) : Int × Int × Int := if placeB c p n = true then (if p < 256 then (p * 16 + n * (szN c.toNat : Int), c, 0) else (0, 0, 3)) else (0, 0, 2)
abbrev placeV (x : Int × Int × Int) : Value := .tuple #[blkV x.1 x.2.1, .int .i64 x.2.2]
theorem many_small {k : Nat} (hk : k < 4) : 16 / szN k ≤ 8 ∧ 1 ≤ 16 / szN k ∧ (16 / szN k) * szN k = 16 := by
  rcases k with _ | _ | _ | _ | k <;> first | decide | omega
set_option maxRecDepth 100000 in
set_option maxHeartbeats 4000000 in
theorem place_c (c p n : Int) (hp : I64 p) (hn : I64 n) (W : World) (hT : Tab W) : Calls Tryd.prog 20 #[.int .i64 c, .int .i64 p, .int .i64 n] W fun e w' => e = .returned (placeV (placeA c p n)) ∧ Below W.heap.size W w' := by
  obtain ⟨w1, hw1⟩ : ∃ X : World, X = W.alloc (.cells #[.int .i64 0, .int .i64 0] 33) := ⟨_, rfl⟩
  have hb : Below W.heap.size W w1 := by rw [hw1]; exact (Below.refl _ _).alloc (Nat.le_refl _) _
  have hT1 := hT.below hb
  have HX := Lib.hid (show BBox w1 W.heap.size 0 0 by rw [hw1]; exact BBox.new _ _ _)
  obtain ⟨hp1, hp2⟩ := hp
  obtain ⟨hn1, hn2⟩ := hn
  have HB := Lib.hid (show ∀ u v : Value, Below W.heap.size W ((w1.setCell ⟨W.heap.size, 0, none⟩ u).setCell ⟨W.heap.size, 1, none⟩ v) from fun u v => hb.trans (below_put2 w1 _ (Nat.le_refl _) u v))
  obtain ⟨hc0, hc1⟩ := HX.out.cells
  obtain ⟨hf0, hf1⟩ := HX.out.free
  generalize hA : placeA c p n = A
  unfold placeA placeB at hA
  clear hT hb
  cases hI : isB c with
  | false =>
    rw [hI] at hA
    clear hT1
    obtain rfl : (0, 0, 2) = A := by first | exact hA | (rw [← hA]; rfl) | (rw [← hA]; simp; done)
    obtain ⟨hr0, hr1⟩ := (HX.out.put (0) (0)).cells
    have HB2 := Lib.hid (HB.out (.int .i64 (0)) (.int .i64 (0)))
    clear hA HX HB
    go_enter Tryd.func20, Tryd.ntmps20
    go_wp2_with fail
    rw [← hw1]
    clear hw1
    refine (is_c c _).mono ?_
    rintro e w2 ⟨rfl, rfl⟩
    rw [hI]
    go_wp2
    generalize World.setCell _ ⟨W.heap.size, 1, none⟩ _ = w3 at *
    exact bodyPost_ret (v := placeV (0, 0, 2)) (by simp [results, Tryd.results20, go_sem, hr0, hr1]) rfl ⟨rfl, HB2.out⟩
  | true =>
    obtain ⟨k, rfl, hk⟩ := isB_yes hI
    rw [hI, Int.toNat_natCast, Bool.true_and] at hA
    obtain ⟨hs1, hs2⟩ := sz_ok hk
    obtain ⟨hm1, hm2, -⟩ := many_small hk
    have hc := hT1 k hk
    have HM := Lib.hid (many_c k hk _ hT1)
    generalize 16 / szN k = m at *
    generalize szN k = s at *
    clear hT1
    by_cases h0 : 0 ≤ p
    · by_cases h1 : 0 ≤ n
      · by_cases h2 : n < (m : Int)
        · rw [if_pos (by simp; omega)] at hA
          by_cases h3 : p < 256
          · rw [if_pos h3] at hA
            have hmul : 0 ≤ n * (s : Int) ∧ n * (s : Int) ≤ 128 := ⟨Int.mul_nonneg h1 (by omega), by
              have : n * (s : Int) ≤ 8 * 16 := Int.mul_le_mul (by omega) (by omega) (by omega) (by omega)
              omega⟩
            obtain rfl : (p * 16 + n * (s : Int), (k : Int), 0) = A := by first | exact hA | (rw [← hA]; rfl) | (rw [← hA]; simp; done)
            obtain ⟨hr0, hr1⟩ := (HX.out.put (p * 16 + n * (s : Int)) (k : Int)).cells
            have HB2 := Lib.hid (HB.out (.int .i64 (p * 16 + n * (s : Int))) (.int .i64 (k : Int)))
            clear hA HX HB
            go_enter Tryd.func20, Tryd.ntmps20
            go_wp2_with fail
            rw [← hw1]
            clear hw1
            refine (is_c k _).mono ?_
            rintro e w2 ⟨rfl, rfl⟩
            rw [hI]
            go_wp2_with fail
            refine HM.out.mono ?_
            rintro e w2 ⟨rfl, rfl⟩
            go_wp2
            generalize World.setCell _ ⟨W.heap.size, 1, none⟩ _ = w3 at *
            exact bodyPost_ret (v := placeV (p * 16 + n * (s : Int), (k : Int), 0)) (by simp [results, Tryd.results20, go_sem, hr0, hr1]) rfl ⟨rfl, HB2.out⟩
          · rw [if_neg h3] at hA
            obtain rfl : (0, 0, 3) = A := by first | exact hA | (rw [← hA]; rfl) | (rw [← hA]; simp; done)
            obtain ⟨hr0, hr1⟩ := (HX.out.put (0) (0)).cells
            have HB2 := Lib.hid (HB.out (.int .i64 (0)) (.int .i64 (0)))
            clear hA HX HB
            go_enter Tryd.func20, Tryd.ntmps20
            go_wp2_with fail
            rw [← hw1]
            clear hw1
            refine (is_c k _).mono ?_
            rintro e w2 ⟨rfl, rfl⟩
            rw [hI]
            go_wp2_with fail
            refine HM.out.mono ?_
            rintro e w2 ⟨rfl, rfl⟩
            go_wp2
            generalize World.setCell _ ⟨W.heap.size, 1, none⟩ _ = w3 at *
            exact bodyPost_ret (v := placeV (0, 0, 3)) (by simp [results, Tryd.results20, go_sem, hr0, hr1]) rfl ⟨rfl, HB2.out⟩
        · rw [if_neg (by simp; omega)] at hA
          obtain rfl : (0, 0, 2) = A := by first | exact hA | (rw [← hA]; rfl) | (rw [← hA]; simp; done)
          obtain ⟨hr0, hr1⟩ := (HX.out.put (0) (0)).cells
          have HB2 := Lib.hid (HB.out (.int .i64 (0)) (.int .i64 (0)))
          clear hA HX HB
          go_enter Tryd.func20, Tryd.ntmps20
          go_wp2_with fail
          rw [← hw1]
          clear hw1
          refine (is_c k _).mono ?_
          rintro e w2 ⟨rfl, rfl⟩
          rw [hI]
          go_wp2_with fail
          refine HM.out.mono ?_
          rintro e w2 ⟨rfl, rfl⟩
          go_wp2
          generalize World.setCell _ ⟨W.heap.size, 1, none⟩ _ = w3 at *
          exact bodyPost_ret (v := placeV (0, 0, 2)) (by simp [results, Tryd.results20, go_sem, hr0, hr1]) rfl ⟨rfl, HB2.out⟩
      · rw [if_neg (by simp; omega)] at hA
        obtain rfl : (0, 0, 2) = A := by first | exact hA | (rw [← hA]; rfl) | (rw [← hA]; simp; done)
        obtain ⟨hr0, hr1⟩ := (HX.out.put (0) (0)).cells
        have HB2 := Lib.hid (HB.out (.int .i64 (0)) (.int .i64 (0)))
        clear hA HX HB
        go_enter Tryd.func20, Tryd.ntmps20
        go_wp2_with fail
        rw [← hw1]
        clear hw1
        refine (is_c k _).mono ?_
        rintro e w2 ⟨rfl, rfl⟩
        rw [hI]
        go_wp2
        generalize World.setCell _ ⟨W.heap.size, 1, none⟩ _ = w3 at *
        exact bodyPost_ret (v := placeV (0, 0, 2)) (by simp [results, Tryd.results20, go_sem, hr0, hr1]) rfl ⟨rfl, HB2.out⟩
    · rw [if_neg (by simp; omega)] at hA
      obtain rfl : (0, 0, 2) = A := by first | exact hA | (rw [← hA]; rfl) | (rw [← hA]; simp; done)
      obtain ⟨hr0, hr1⟩ := (HX.out.put (0) (0)).cells
      have HB2 := Lib.hid (HB.out (.int .i64 (0)) (.int .i64 (0)))
      clear hA HX HB
      go_enter Tryd.func20, Tryd.ntmps20
      go_wp2_with fail
      rw [← hw1]
      clear hw1
      refine (is_c k _).mono ?_
      rintro e w2 ⟨rfl, rfl⟩
      rw [hI]
      go_wp2
      generalize World.setCell _ ⟨W.heap.size, 1, none⟩ _ = w3 at *
      exact bodyPost_ret (v := placeV (0, 0, 2)) (by simp [results, Tryd.results20, go_sem, hr0, hr1]) rfl ⟨rfl, HB2.out⟩

end Go.Proofs.YtklbbcaebdfjeaaDoor
