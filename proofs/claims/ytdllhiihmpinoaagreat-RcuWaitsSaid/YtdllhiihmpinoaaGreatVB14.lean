/-
  RcuWaits, called with any number and any row of ops: it answers true.
  Conditions: the ranges of Go's types.
-/
import Derived.Test.YtdllhiihmpinoaaGreatVB13
/-
  RcuWaits: append to a row that is cut in front; its two regions of the map of the rows that draw their order.
  Conditions: as each has them.
-/
namespace Go.Proofs.YtdllhiihmpinoaaGreat
set_option maxRecDepth 100000
open Go.RowKit Go.Shelf Go.Maps
attribute [local go_sem] Oper.semAt_some

theorem run_app_put (B : Nat) (v : Value) (xs : List Int) (w : World) (h : PutR B v xs w) (b c : Nat) (y : Int) (h0 : w.cell? ⟨b, 0, none⟩ = some (.int .u64 y)) (hl : xs.length ≤ 1000000) (hB : B ≤ w.heap.size) :
    ∃ g off r w', (Builtin.append_ #[40, 40] 40 #[v, .slice (some ⟨b, 0, none⟩) 1 c]).run Tryz.prog w = .ok (.slice (some ⟨g, off, none⟩) (xs.length + 1) r) w' ∧ PutR B (.slice (some ⟨g, off, none⟩) (xs.length + 1) r) (xs ++ [y]) w' ∧ Keeps (fun k => some k = v.ownBlock) w w' ∧ (some g = v.ownBlock ∨ w.heap.size ≤ g) := by
  obtain ⟨i0, hi, hz0, hz1, hz2⟩ := info_parts U.info_w
  have hnews : ∀ j u, [Value.int .u64 y][j]? = some u → w.cell? ((⟨b, 0, none⟩ : Addr).add j) = some u := fun j u hj => by
    rw [addr_add_off, Nat.zero_add]
    match j, hj with
    | 0, hj => simp only [List.getElem?_cons_zero, Option.some.injEq] at hj; rw [← hj]; exact h0
  have h1c : ∀ u ∈ [Value.int .u64 y], u.oneCell' = true := fun u hu => by rw [List.mem_singleton.1 hu]; rfl
  have grown : ∀ {v' w'}, w'.ownsRow w.heap.size 35 1 v' (xs.length + 1) (xs.map (Value.int .u64) ++ [.int .u64 y]) → w.grownBy w' none → ∃ g c', v' = .slice (some ⟨g, 0, none⟩) (xs.length + 1) c' ∧ PutR B v' (xs ++ [y]) w' ∧ Keeps (fun k => some k = v.ownBlock) w w' ∧ w.heap.size ≤ g := fun {v' w'} r1 r2 => by
    have e : xs.map (Value.int .u64) ++ [.int .u64 y] = (xs ++ [y]).map (Value.int .u64) := by simp
    rw [e] at r1
    obtain ⟨g, c', rfl, hg, hp⟩ := putR_of_owns (B := B) r1 (by omega) hB
    exact ⟨g, c', rfl, hp, ⟨r2.os, r2.tape, r2.output, r2.size, fun k hk _ => r2.block k hk (by simp)⟩, hg⟩
  rcases h with ⟨rfl, rfl⟩ | ⟨g, off, cp, cur, rfl, g1, g2, g3, g4, g5, g6⟩
  · obtain ⟨v', w', hr, h3, h4, _, h5⟩ := run_append_own_at (P := Tryz.prog) w w.heap.size 40 40 35 i0 (.int .u64 0) 1 8 Tryz.underlying40 hi hz0 hz1 hz2 rfl (by decide) (.slice none 0 0) 0 [] (World.ownsRow_nil _ _ _ _) ⟨b, 0, none⟩ 1 c [.int .u64 y] rfl hnews h1c (by unfold maxLen; omega) (by omega) (Nat.le_refl _)
    obtain ⟨g, c', rfl, hp, hk, hg⟩ := grown h3 h4
    exact ⟨g, 0, c', w', hr, hp, hk, .inr hg⟩
  · by_cases hr : xs.length + 1 ≤ cp
    · have hcell : ∀ j, j < cp → (w.cell? ⟨g, off + j, none⟩).isSome = true := fun j hj => by
        simp only [World.cell?, g2]
        rw [Array.getElem?_eq_getElem (by omega)]; rfl
      have hrun := run_append_room_cells (P := Tryz.prog) w 40 40 35 i0 Tryz.underlying40 hi g off xs.length cp ⟨b, 0, none⟩ 1 c [.int .u64 y] (by rw [hz1]; rfl) hnews h1c hr (fun j hj => by
        have hj' : j = 0 := by simpa using hj
        subst hj'
        rw [hz1]
        simpa using hcell xs.length (by omega)) (fun j hj => by simp [World.frozen?, g2])
      rw [hz1, Nat.mul_one] at hrun
      have hh := heap_setCell_same w g (off + xs.length) cur _ (.int .u64 y) g2
      refine ⟨g, off, cp, _, hrun, .inr ⟨g, off, cp, _, by simp, g1, hh, by simp; omega, g4, by simpa using g5, fun j hj => ?_⟩, (Keeps.setCell w (S := (· = g)) (p := ⟨g, off + xs.length, none⟩) rfl _).sub fun k _ e => by rw [e]; rfl, .inl rfl⟩
      rw [List.length_append, List.length_singleton] at hj
      by_cases hjx : j < xs.length
      · rw [Array.getElem?_setIfInBounds_ne (by omega), g6 j hjx, List.getElem_append_left hjx]
      · obtain rfl : j = xs.length := by omega
        rw [Array.getElem?_setIfInBounds_self_of_lt (by omega)]
        simp
    · obtain ⟨v', w', hrun, r1, r2⟩ := run_append_arg_grows (P := Tryz.prog) w 40 40 35 i0 (.int .u64 0) 1 8 Tryz.underlying40 hi hz0 hz1 hz2 rfl (by decide) ⟨g, off, none⟩ xs.length cp (xs.map (Value.int .u64)) (by simp) (fun j u hj => by
        rw [List.getElem?_map] at hj
        obtain ⟨z, hz, rfl⟩ := Option.map_eq_some_iff.1 hj
        obtain ⟨hlt, hz'⟩ := List.getElem?_eq_some_iff.1 hz
        have := g6 j hlt
        rw [hz'] at this
        rw [addr_add_off]
        simp only [World.cell?, g2]
        exact this) ⟨b, 0, none⟩ 1 c [.int .u64 y] rfl hnews (by omega) (by unfold maxLen; omega) (by omega)
      obtain ⟨g', c', rfl, hp, hk, hg⟩ := grown r1 r2
      exact ⟨g', 0, c', w', hrun, hp, hk, .inr hg⟩

noncomputable def wt_ops23 : Array Oper := (regDeep 23 (Tryz.f5.body.getD .skip)).getD #[]
set_option maxHeartbeats 32000000 in
theorem wt_reg23 (B mq zo k2 n c : Nat) (F : Nat → Value) (xs : List Int) (kd x0' y : Int) (x0 x1 x2 x3 x4 x5 x6 x7 x10 x12 x13 x14 x15 x16 x17 x18 x19 x20 x21 x22 x23 x24 x25 x26 x27 x28 x29 x30 x31 x32 x33 x34 x35 x36 x37 x38 x39 x40 x41 x42 x43 x44 x45 x46 x47 x48 x49 x50 x51 x52 x53 x54 x55 x56 x57 x58 x59 x60 x61 x62 x63 x64 x65 x66 x67 x68 x69 x70 x71 x72 x73 x74 x75 x76 x77 x78 x79 x80 x81 x82 x83 x84 x85 x86 x87 x88 x89 x90 x91 x92 x93 x94 x95 x96 x97 x98 x99 x100 x101 x102 x103 x104 x105 x106 x107 x108 x109 x110 x111 x112 x113 x114 x115 x116 x117 x118 x119 x120 x121 x122 x123 x124 x125 x126 x127 x128 x129 x130 x131 x132 : Value) (wA : World) (hA : ABox wA zo kd (c : Int) x0') (hM : MapQ wA mq k2 n F) (hP : PutR B (F c) xs wA) (hc : c < n) (hn : n ≤ 8) (hk2l : k2 < 1000000000) (hxl : xs.length ≤ 1000000) (hB : mq < B ∧ mq < zo ∧ B ≤ wA.heap.size) (hzo : some zo ≠ (F c).ownBlock)
    (ops : Array Oper) (hops : ops = wt_ops23) (Q : Exit → Act → World → Prop) (hQp : ∀ c (a : Act) i v w, Q (.panic c) (a.put i v) w → Q (.panic c) a w)
    (hQ : ∀ (tb g off rc : Nat) (X : World), (PutR B (.slice (some ⟨g, off, none⟩) (xs.length + 1) rc) (xs ++ [y]) X ∧ MapQ X mq (k2 + 1) n (fun j => if j = c then .slice (some ⟨g, off, none⟩) (xs.length + 1) rc else F j) ∧ Keeps (fun k => k = mq ∨ some k = (F c).ownBlock) wA X ∧ (some g = (F c).ownBlock ∨ wA.heap.size ≤ g)) → Q .normal { tmps := List.toArray (x0 :: x1 :: x2 :: x3 :: x4 :: x5 :: x6 :: x7 :: .map (some mq) :: .int .u64 y :: x10 :: .pointer (some ⟨zo, 0, none⟩) :: x12 :: x13 :: x14 :: x15 :: x16 :: x17 :: x18 :: x19 :: x20 :: x21 :: x22 :: x23 :: x24 :: x25 :: x26 :: x27 :: x28 :: x29 :: x30 :: x31 :: x32 :: x33 :: x34 :: x35 :: x36 :: x37 :: x38 :: x39 :: x40 :: x41 :: x42 :: x43 :: x44 :: x45 :: x46 :: x47 :: x48 :: x49 :: x50 :: x51 :: x52 :: x53 :: x54 :: x55 :: x56 :: x57 :: x58 :: x59 :: x60 :: x61 :: x62 :: x63 :: x64 :: x65 :: x66 :: x67 :: x68 :: .map (some mq) :: .pointer (some ⟨zo, 1, none⟩) :: .int .i64 (c : Int) :: .map (some mq) :: .pointer (some ⟨zo, 1, none⟩) :: .int .i64 (c : Int) :: F c :: .int .u64 y :: .slice (some ⟨tb, 0, none⟩) 1 1 :: .slice (some ⟨g, off, none⟩) (xs.length + 1) rc :: x79 :: x80 :: x81 :: x82 :: x83 :: x84 :: x85 :: x86 :: x87 :: x88 :: x89 :: x90 :: x91 :: x92 :: x93 :: x94 :: x95 :: x96 :: x97 :: x98 :: x99 :: x100 :: x101 :: x102 :: x103 :: x104 :: x105 :: x106 :: x107 :: x108 :: x109 :: x110 :: x111 :: x112 :: x113 :: x114 :: x115 :: x116 :: x117 :: x118 :: x119 :: x120 :: x121 :: x122 :: x123 :: x124 :: x125 :: x126 :: x127 :: x128 :: x129 :: x130 :: x131 :: x132 :: []), defers := [] } X) :
    (Code.region 23 ops true).wp Tryz.prog Q { tmps := List.toArray (x0 :: x1 :: x2 :: x3 :: x4 :: x5 :: x6 :: x7 :: .map (some mq) :: .int .u64 y :: x10 :: .pointer (some ⟨zo, 0, none⟩) :: x12 :: x13 :: x14 :: x15 :: x16 :: x17 :: x18 :: x19 :: x20 :: x21 :: x22 :: x23 :: x24 :: x25 :: x26 :: x27 :: x28 :: x29 :: x30 :: x31 :: x32 :: x33 :: x34 :: x35 :: x36 :: x37 :: x38 :: x39 :: x40 :: x41 :: x42 :: x43 :: x44 :: x45 :: x46 :: x47 :: x48 :: x49 :: x50 :: x51 :: x52 :: x53 :: x54 :: x55 :: x56 :: x57 :: x58 :: x59 :: x60 :: x61 :: x62 :: x63 :: x64 :: x65 :: x66 :: x67 :: x68 :: x69 :: x70 :: x71 :: x72 :: x73 :: x74 :: x75 :: x76 :: x77 :: x78 :: x79 :: x80 :: x81 :: x82 :: x83 :: x84 :: x85 :: x86 :: x87 :: x88 :: x89 :: x90 :: x91 :: x92 :: x93 :: x94 :: x95 :: x96 :: x97 :: x98 :: x99 :: x100 :: x101 :: x102 :: x103 :: x104 :: x105 :: x106 :: x107 :: x108 :: x109 :: x110 :: x111 :: x112 :: x113 :: x114 :: x115 :: x116 :: x117 :: x118 :: x119 :: x120 :: x121 :: x122 :: x123 :: x124 :: x125 :: x126 :: x127 :: x128 :: x129 :: x130 :: x131 :: x132 :: []), defers := [] } wA := by
  simp only [wt_ops23, Tryz.f5, Option.getD, regDeep, reduceIte, Nat.reduceEqDiff] at hops
  subst hops
  refine wpTwo_begin (T := fun w' => ABox w' zo kd (c : Int) x0') (S := fun w' => MapQ w' mq k2 n F) (late := fun j => [10].contains j) (by kernel_rfl) ?_
  obtain ⟨X, hX⟩ : ∃ Y : World, Y = wA.drew := ⟨_, rfl⟩
  rw [← hX]
  have hbx : Below wA.heap.size wA X := by rw [hX]; exact (Below.refl _ _).drew
  clear hX
  have hT0 := hA.below hbx
  have hS0 := hM.below hbx
  have hP0 := hP.below hbx
  refine wpTwo_takeT (i := 0) (v := .map (some mq)) rfl (by kernel_rfl) (by kernel_rfl) (by kernel_rfl) (fun c a w h => hQp c a _ _ w h) ⟨by rfl, ?_⟩ hT0 ?_
  · intro w _
    go_simp
  (try simp only [Act.put, List.getElem_toArray, List.getElem_cons_zero, List.setIfInBounds_toArray, List.set_cons_succ, List.set_cons_zero])
  refine wpTwo_takeT (i := 1) (v := .pointer (some ⟨zo, 1, none⟩)) rfl (by kernel_rfl) (by kernel_rfl) (by kernel_rfl) (fun c a w h => hQp c a _ _ w h) ⟨by rfl, ?_⟩ hT0 ?_
  · intro w _
    go_simp
  (try simp only [Act.put, List.getElem_toArray, List.getElem_cons_succ, List.getElem_cons_zero, List.setIfInBounds_toArray, List.set_cons_succ, List.set_cons_zero])
  refine wpTwo_takeT (i := 2) (v := .int .i64 (c : Int)) rfl (by kernel_rfl) (by kernel_rfl) (by kernel_rfl) (fun c a w h => hQp c a _ _ w h) ⟨by rfl, ?_⟩ hT0 ?_
  · rintro w hTw
    obtain ⟨t0, t1, t2⟩ := hTw.cells
    go_simp
  (try simp only [Act.put, List.getElem_toArray, List.getElem_cons_succ, List.getElem_cons_zero, List.setIfInBounds_toArray, List.set_cons_succ, List.set_cons_zero])
  refine wpTwo_takeT (i := 3) (v := .map (some mq)) rfl (by kernel_rfl) (by kernel_rfl) (by kernel_rfl) (fun c a w h => hQp c a _ _ w h) ⟨by rfl, ?_⟩ hT0 ?_
  · intro w _
    go_simp
  (try simp only [Act.put, List.getElem_toArray, List.getElem_cons_succ, List.getElem_cons_zero, List.setIfInBounds_toArray, List.set_cons_succ, List.set_cons_zero])
  refine wpTwo_takeT (i := 4) (v := .pointer (some ⟨zo, 1, none⟩)) rfl (by kernel_rfl) (by kernel_rfl) (by kernel_rfl) (fun c a w h => hQp c a _ _ w h) ⟨by rfl, ?_⟩ hT0 ?_
  · intro w _
    go_simp
  (try simp only [Act.put, List.getElem_toArray, List.getElem_cons_succ, List.getElem_cons_zero, List.setIfInBounds_toArray, List.set_cons_succ, List.set_cons_zero])
  refine wpTwo_takeT (i := 5) (v := .int .i64 (c : Int)) rfl (by kernel_rfl) (by kernel_rfl) (by kernel_rfl) (fun c a w h => hQp c a _ _ w h) ⟨by rfl, ?_⟩ hT0 ?_
  · rintro w hTw
    obtain ⟨t0, t1, t2⟩ := hTw.cells
    go_simp
  (try simp only [Act.put, List.getElem_toArray, List.getElem_cons_succ, List.getElem_cons_zero, List.setIfInBounds_toArray, List.set_cons_succ, List.set_cons_zero])
  refine wpTwo_takeS (i := 6) (v := F c) (waits_all (by kernel_rfl)) rfl (by kernel_rfl) (by kernel_rfl) (by kernel_rfl) (fun c a w h => hQp c a _ _ w h) ⟨by rfl, ?_⟩ ⟨hT0, hS0⟩ ?_
  · rintro w ⟨-, hTw⟩
    have hlk := hTw.look hc hn hP
    go_simp
  (try simp only [Act.put, List.getElem_toArray, List.getElem_cons_succ, List.getElem_cons_zero, List.setIfInBounds_toArray, List.set_cons_succ, List.set_cons_zero])
  refine wpTwo_takeT (i := 7) (v := .int .u64 y) rfl (by kernel_rfl) (by kernel_rfl) (by kernel_rfl) (fun c a w h => hQp c a _ _ w h) ⟨by rfl, ?_⟩ hT0 ?_
  · intro w _
    go_simp
  (try simp only [Act.put, List.getElem_toArray, List.getElem_cons_succ, List.getElem_cons_zero, List.setIfInBounds_toArray, List.set_cons_succ, List.set_cons_zero])
  refine wpTwo_ready (rs := [8]) (by kernel_rfl) (by simp) ?_
  refine (AllTwo.cons rfl (fun K hK => ?_) AllTwo.nil)
  go_simp
  obtain ⟨tb, htb⟩ : ∃ t, t = X.heap.size := ⟨_, rfl⟩
  obtain ⟨X1, hX1⟩ : ∃ V : World, V = X.alloc (.cells #[.int .u64 y] 35) := ⟨_, rfl⟩
  rw [← hX1, ← htb]
  have hb1 : Below X.heap.size X X1 := by rw [hX1]; exact below1 _ _
  have hcell : X1.cell? ⟨tb, 0, none⟩ = some (.int .u64 y) := by rw [hX1, htb]; simp
  have hT1 := hT0.below hb1
  have hS1 := hS0.below hb1
  have hP1 := hP0.below hb1
  obtain ⟨g, off, rc, X2, hr, hp2, hk2, hgo⟩ := run_app_put B (F c) xs X1 hP1 tb 1 y hcell hxl (by have := hbx.size; have := hb1.size; omega)
  have hFB : ∀ k, some k = (F c).ownBlock → B ≤ k := fun k e => (hP.lt e.symm).1
  have hT2 : ABox X2 zo kd (c : Int) x0' := (hk2.block zo hT1.lt (fun e => hzo e)).trans hT1
  have hS2 := hS1.keeps hk2 (fun e => by have := hFB mq e; omega)
  obtain ⟨X3, hupd, hM3, hk3⟩ := hS2.put hc hn hk2l hp2
  have HX := Lib.hid (show PutR B (.slice (some ⟨g, off, none⟩) (xs.length + 1) rc) (xs ++ [y]) X3 ∧ MapQ X3 mq (k2 + 1) n (fun j => if j = c then .slice (some ⟨g, off, none⟩) (xs.length + 1) rc else F j) ∧ Keeps (fun k => k = mq ∨ some k = (F c).ownBlock) wA X3 ∧ (some g = (F c).ownBlock ∨ wA.heap.size ≤ g) from
    ⟨hp2.keeps hk3 (fun g' e => by have := (hp2.lt e).1; omega), hM3, ((((Keeps.of_below hbx).trans (Keeps.of_below hb1)).trans (hk2.sub fun k _ e => .inr e)).trans (hk3.sub fun k _ e => .inl e)), hgo.imp id (fun h => by have := hbx.size; have := hb1.size; omega)⟩)
  have hT3 : ABox X3 zo kd (c : Int) x0' := (hk3.block zo hT2.lt (by omega)).trans hT2
  clear hX1 hcell hp2 hk2 hgo hM3 hk3 hb1 hbx hP0 hP1
  refine hK.out _ _ ⟨hT1, fun _ _ => hS1⟩ ?_
  clear hK K
  (try simp only [Act.put, List.getElem_toArray, List.getElem_cons_succ, List.getElem_cons_zero, List.setIfInBounds_toArray, List.set_cons_succ, List.set_cons_zero])
  refine wpTwo_ready (rs := [9]) (by kernel_rfl) (by simp) ?_
  refine (AllTwo.cons rfl (fun K hK => ?_) AllTwo.nil)
  refine two_app 40 (.tmp 75) (.tmp 77) _ _ _ hr rfl rfl rfl rfl rfl ?_
  refine hK _ _ ⟨hT2, fun _ _ => hS2⟩ ?_
  clear hK K hr
  (try simp only [Act.put, List.getElem_toArray, List.getElem_cons_succ, List.getElem_cons_zero, List.setIfInBounds_toArray, List.set_cons_succ, List.set_cons_zero])
  refine wpTwo_ready (rs := [10]) (by kernel_rfl) (by simp) ?_
  refine (AllTwo.cons rfl (fun K hK => ?_) AllTwo.nil)
  go_simp
  refine hK.out _ _ ⟨hT3, fun h => absurd h (by decide)⟩ ?_
  clear hK K
  (try simp only [Act.put, List.getElem_toArray, List.getElem_cons_succ, List.getElem_cons_zero, List.setIfInBounds_toArray, List.set_cons_succ, List.set_cons_zero])
  refine wpTwo_end (by kernel_rfl) ?_ _
  have h := hQ tb g off rc X3 HX.out
  refine (congrArg (fun f => Q .normal f X3) ?_).mp h
  simp

noncomputable def wt_ops28 : Array Oper := (regDeep 28 (Tryz.f5.body.getD .skip)).getD #[]
set_option maxHeartbeats 32000000 in
theorem wt_reg28 (B mq zo k2 n c g off cp : Nat) (F : Nat → Value) (x1' : Int) (xs : List Int) (kd x0' : Int) (x0 x1 x2 x3 x4 x5 x6 x7 x9 x10 x12 x13 x14 x15 x16 x17 x18 x19 x20 x21 x22 x23 x24 x25 x26 x27 x28 x29 x30 x31 x32 x33 x34 x35 x36 x37 x38 x39 x40 x41 x42 x43 x44 x45 x46 x47 x48 x49 x50 x51 x52 x53 x54 x55 x56 x57 x58 x59 x60 x61 x62 x63 x64 x65 x66 x67 x68 x69 x70 x71 x72 x73 x74 x75 x76 x77 x78 x79 x80 x81 x82 x83 x84 x85 x86 x87 x88 x89 x90 x91 x92 x93 x94 x95 x96 x97 x98 x99 x100 x101 x102 x103 x104 x105 x106 x107 x108 x109 x110 x111 x112 x113 x114 x115 x116 x117 x118 x119 x120 x121 x122 x123 x124 x125 x126 x127 x128 x129 x130 x131 x132 : Value) (wA : World) (hA : ABox wA zo kd (c : Int) x0') (hM : MapQ wA mq k2 n F) (hP : PutR B (F c) (x1' :: xs) wA) (hFc : F c = .slice (some ⟨g, off, none⟩) (xs.length + 1) cp) (hc : c < n) (hn : n ≤ 8) (hk2l : k2 < 1000000000) (hB : mq < B ∧ mq < zo)
    (ops : Array Oper) (hops : ops = wt_ops28) (Q : Exit → Act → World → Prop) (hQp : ∀ c (a : Act) i v w, Q (.panic c) (a.put i v) w → Q (.panic c) a w)
    (hQ : ∀ (X : World), (PutR B (.slice (restA g off cp) xs.length (cp - 1)) xs X ∧ MapQ X mq (k2 + 1) n (fun j => if j = c then .slice (restA g off cp) xs.length (cp - 1) else F j) ∧ Keeps (fun k => k = mq) wA X) → Q .normal { tmps := List.toArray (x0 :: x1 :: x2 :: x3 :: x4 :: x5 :: x6 :: x7 :: .map (some mq) :: x9 :: x10 :: .pointer (some ⟨zo, 0, none⟩) :: x12 :: x13 :: x14 :: x15 :: x16 :: x17 :: x18 :: x19 :: x20 :: x21 :: x22 :: x23 :: x24 :: x25 :: x26 :: x27 :: x28 :: x29 :: x30 :: x31 :: x32 :: x33 :: x34 :: x35 :: x36 :: x37 :: x38 :: x39 :: x40 :: x41 :: x42 :: x43 :: x44 :: x45 :: x46 :: x47 :: x48 :: x49 :: x50 :: x51 :: x52 :: x53 :: x54 :: x55 :: x56 :: x57 :: x58 :: x59 :: x60 :: x61 :: x62 :: x63 :: x64 :: x65 :: x66 :: x67 :: x68 :: x69 :: x70 :: x71 :: x72 :: x73 :: x74 :: x75 :: x76 :: x77 :: x78 :: x79 :: x80 :: x81 :: x82 :: x83 :: x84 :: x85 :: x86 :: x87 :: x88 :: x89 :: x90 :: x91 :: x92 :: x93 :: x94 :: x95 :: x96 :: x97 :: x98 :: x99 :: x100 :: x101 :: x102 :: x103 :: x104 :: x105 :: x106 :: x107 :: x108 :: x109 :: x110 :: x111 :: x112 :: x113 :: .map (some mq) :: .pointer (some ⟨zo, 1, none⟩) :: .int .i64 (c : Int) :: .map (some mq) :: .pointer (some ⟨zo, 1, none⟩) :: .int .i64 (c : Int) :: .slice (some ⟨g, off, none⟩) (xs.length + 1) cp :: .slice (restA g off cp) xs.length (cp - 1) :: x122 :: x123 :: x124 :: x125 :: x126 :: x127 :: x128 :: x129 :: x130 :: x131 :: x132 :: []), defers := [] } X) :
    (Code.region 28 ops true).wp Tryz.prog Q { tmps := List.toArray (x0 :: x1 :: x2 :: x3 :: x4 :: x5 :: x6 :: x7 :: .map (some mq) :: x9 :: x10 :: .pointer (some ⟨zo, 0, none⟩) :: x12 :: x13 :: x14 :: x15 :: x16 :: x17 :: x18 :: x19 :: x20 :: x21 :: x22 :: x23 :: x24 :: x25 :: x26 :: x27 :: x28 :: x29 :: x30 :: x31 :: x32 :: x33 :: x34 :: x35 :: x36 :: x37 :: x38 :: x39 :: x40 :: x41 :: x42 :: x43 :: x44 :: x45 :: x46 :: x47 :: x48 :: x49 :: x50 :: x51 :: x52 :: x53 :: x54 :: x55 :: x56 :: x57 :: x58 :: x59 :: x60 :: x61 :: x62 :: x63 :: x64 :: x65 :: x66 :: x67 :: x68 :: x69 :: x70 :: x71 :: x72 :: x73 :: x74 :: x75 :: x76 :: x77 :: x78 :: x79 :: x80 :: x81 :: x82 :: x83 :: x84 :: x85 :: x86 :: x87 :: x88 :: x89 :: x90 :: x91 :: x92 :: x93 :: x94 :: x95 :: x96 :: x97 :: x98 :: x99 :: x100 :: x101 :: x102 :: x103 :: x104 :: x105 :: x106 :: x107 :: x108 :: x109 :: x110 :: x111 :: x112 :: x113 :: x114 :: x115 :: x116 :: x117 :: x118 :: x119 :: x120 :: x121 :: x122 :: x123 :: x124 :: x125 :: x126 :: x127 :: x128 :: x129 :: x130 :: x131 :: x132 :: []), defers := [] } wA := by
  simp only [wt_ops28, Tryz.f5, Option.getD, regDeep, reduceIte, Nat.reduceEqDiff] at hops
  subst hops
  refine wpTwo_begin (T := fun w' => ABox w' zo kd (c : Int) x0') (S := fun w' => MapQ w' mq k2 n F) (late := fun j => [8].contains j) (by kernel_rfl) ?_
  obtain ⟨X, hX⟩ : ∃ Y : World, Y = wA.drew := ⟨_, rfl⟩
  rw [← hX]
  have hbx : Below wA.heap.size wA X := by rw [hX]; exact (Below.refl _ _).drew
  clear hX
  have hT0 := hA.below hbx
  have hS0 := hM.below hbx
  have hP0 := hP.below hbx
  have hlt1 : xs.length + 1 ≤ cp ∧ cp ≤ 9223372036854775807 := by
    rw [hFc] at hP
    obtain ⟨g', off', c', e, h1, h2, -⟩ := hP.first
    injection e with _ _ e
    omega
  have hrest := run_rest g off (xs.length + 1) cp (by omega) hlt1.1 hlt1.2
  rw [Nat.add_sub_cancel] at hrest
  have hpr : PutR B (.slice (restA g off cp) xs.length (cp - 1)) xs X := PutR.rest (by rw [← hFc]; exact hP0)
  obtain ⟨X3, hupd, hM3, hk3⟩ := hS0.put hc hn hk2l hpr
  have HX := Lib.hid (show PutR B (.slice (restA g off cp) xs.length (cp - 1)) xs X3 ∧ MapQ X3 mq (k2 + 1) n (fun j => if j = c then .slice (restA g off cp) xs.length (cp - 1) else F j) ∧ Keeps (fun k => k = mq) wA X3 from ⟨hpr.keeps hk3 (fun g' e => by have := (hpr.lt e).1; omega), hM3, (Keeps.of_below hbx).trans hk3⟩)
  have hT3 : ABox X3 zo kd (c : Int) x0' := (hk3.block zo hT0.lt (by omega)).trans hT0
  clear hpr hM3 hk3 hbx hP0
  refine wpTwo_takeT (i := 0) (v := .map (some mq)) rfl (by kernel_rfl) (by kernel_rfl) (by kernel_rfl) (fun c a w h => hQp c a _ _ w h) ⟨by rfl, ?_⟩ hT0 ?_
  · intro w _
    go_simp
  (try simp only [Act.put, List.getElem_toArray, List.getElem_cons_zero, List.setIfInBounds_toArray, List.set_cons_succ, List.set_cons_zero])
  refine wpTwo_takeT (i := 1) (v := .pointer (some ⟨zo, 1, none⟩)) rfl (by kernel_rfl) (by kernel_rfl) (by kernel_rfl) (fun c a w h => hQp c a _ _ w h) ⟨by rfl, ?_⟩ hT0 ?_
  · intro w _
    go_simp
  (try simp only [Act.put, List.getElem_toArray, List.getElem_cons_succ, List.getElem_cons_zero, List.setIfInBounds_toArray, List.set_cons_succ, List.set_cons_zero])
  refine wpTwo_takeT (i := 2) (v := .int .i64 (c : Int)) rfl (by kernel_rfl) (by kernel_rfl) (by kernel_rfl) (fun c a w h => hQp c a _ _ w h) ⟨by rfl, ?_⟩ hT0 ?_
  · rintro w hTw
    obtain ⟨t0, t1, t2⟩ := hTw.cells
    go_simp
  (try simp only [Act.put, List.getElem_toArray, List.getElem_cons_succ, List.getElem_cons_zero, List.setIfInBounds_toArray, List.set_cons_succ, List.set_cons_zero])
  refine wpTwo_takeT (i := 3) (v := .map (some mq)) rfl (by kernel_rfl) (by kernel_rfl) (by kernel_rfl) (fun c a w h => hQp c a _ _ w h) ⟨by rfl, ?_⟩ hT0 ?_
  · intro w _
    go_simp
  (try simp only [Act.put, List.getElem_toArray, List.getElem_cons_succ, List.getElem_cons_zero, List.setIfInBounds_toArray, List.set_cons_succ, List.set_cons_zero])
  refine wpTwo_takeT (i := 4) (v := .pointer (some ⟨zo, 1, none⟩)) rfl (by kernel_rfl) (by kernel_rfl) (by kernel_rfl) (fun c a w h => hQp c a _ _ w h) ⟨by rfl, ?_⟩ hT0 ?_
  · intro w _
    go_simp
  (try simp only [Act.put, List.getElem_toArray, List.getElem_cons_succ, List.getElem_cons_zero, List.setIfInBounds_toArray, List.set_cons_succ, List.set_cons_zero])
  refine wpTwo_takeT (i := 5) (v := .int .i64 (c : Int)) rfl (by kernel_rfl) (by kernel_rfl) (by kernel_rfl) (fun c a w h => hQp c a _ _ w h) ⟨by rfl, ?_⟩ hT0 ?_
  · rintro w hTw
    obtain ⟨t0, t1, t2⟩ := hTw.cells
    go_simp
  (try simp only [Act.put, List.getElem_toArray, List.getElem_cons_succ, List.getElem_cons_zero, List.setIfInBounds_toArray, List.set_cons_succ, List.set_cons_zero])
  refine wpTwo_takeS (i := 6) (v := .slice (some ⟨g, off, none⟩) (xs.length + 1) cp) (waits_all (by kernel_rfl)) rfl (by kernel_rfl) (by kernel_rfl) (by kernel_rfl) (fun c a w h => hQp c a _ _ w h) ⟨by rfl, ?_⟩ ⟨hT0, hS0⟩ ?_
  · rintro w ⟨-, hTw⟩
    have hlk := hTw.look hc hn hP
    rw [hFc] at hlk
    go_simp
  (try simp only [Act.put, List.getElem_toArray, List.getElem_cons_succ, List.getElem_cons_zero, List.setIfInBounds_toArray, List.set_cons_succ, List.set_cons_zero])
  refine wpTwo_takeT (i := 7) (v := .slice (restA g off cp) xs.length (cp - 1)) rfl (by kernel_rfl) (by kernel_rfl) (by kernel_rfl) (fun c a w h => hQp c a _ _ w h) ⟨by rfl, ?_⟩ hT0 ?_
  · intro w _
    go_simp
  (try simp only [Act.put, List.getElem_toArray, List.getElem_cons_succ, List.getElem_cons_zero, List.setIfInBounds_toArray, List.set_cons_succ, List.set_cons_zero])
  refine wpTwo_ready (rs := [8]) (by kernel_rfl) (by simp) ?_
  refine (AllTwo.cons rfl (fun K hK => ?_) AllTwo.nil)
  go_simp
  refine hK.out _ _ ⟨hT3, fun h => absurd h (by decide)⟩ ?_
  clear hK K
  (try simp only [Act.put, List.getElem_toArray, List.getElem_cons_succ, List.getElem_cons_zero, List.setIfInBounds_toArray, List.set_cons_succ, List.set_cons_zero])
  refine wpTwo_end (by kernel_rfl) ?_ _
  exact hQ X3 HX.out

end Go.Proofs.YtdllhiihmpinoaaGreat
namespace Go.Proofs.YtdllhiihmpinoaaGreat
set_option maxRecDepth 100000
open Go.RowKit Go.Shelf
attribute [local go_sem] Oper.semAt_some

theorem part_8 (x : Int) : ∃ M : Nat, M < 8 ∧ wrap64 ((IntKind.u64.wrap x).tmod 8) = (M : Int) := by
  have h0 : 0 ≤ IntKind.u64.wrap x := by simp [IntKind.wrap, IntKind.signed, IntKind.bits]; omega
  have h1 : (IntKind.u64.wrap x).tmod 8 = IntKind.u64.wrap x % 8 := Int.tmod_eq_emod_of_nonneg h0
  refine ⟨(IntKind.u64.wrap x % 8).toNat, by omega, ?_⟩
  rw [h1, Int.toNat_of_nonneg (by omega)]
  have h2 : 0 ≤ IntKind.u64.wrap x % 8 ∧ IntKind.u64.wrap x % 8 < 8 := by omega
  first | (unfold wrap64; omega) | (simp [wrap64]; omega)
/-- The blocks of the rows, and all that is older than these. -/
def wvS (z ma mq n : Nat) (F : Nat → Value) : Nat → Prop := fun k => (k = z ∨ k = ma ∨ k = mq) ∨ ∃ j, j < n ∧ some k = (F j).ownBlock
/-- Between two ops. -/
structure WvX (z ma mq n i : Nat) (m : Int) (r : RcS) (T st : Int → Int) (k1 k2 : Nat) (F : Nat → Value) (u v nv qv : Value) (wr : World) : Prop where
  rw_ : RW r T st m
  len : r.qs.length = n
  box : RcBox wr z r.s.now u v r.g.done r.g.asked r.g.on nv qv
  rin : RcIn (wvS z ma mq n F) wr u v nv qv r
  map : MapA wr ma k1 (whatsR r) st
  mq_ : MapQ wr mq k2 n F
  rows : ∀ j, j < n → PutR (mq + 1) (F j) ((qAt r j).2.map (·.2)) wr
  dis : ∀ j j', j < n → j' < n → j ≠ j' → ∀ g, (F j).ownBlock = some g → (F j').ownBlock ≠ some g
  ks : k1 ≤ i ∧ k2 ≤ 2 * i ∧ m ≤ i ∧ i ≤ 150
theorem WvX.below {z ma mq n i : Nat} {m : Int} {r : RcS} {T st : Int → Int} {k1 k2 : Nat} {F : Nat → Value} {u v nv qv : Value} {wr w : World} (h : WvX z ma mq n i m r T st k1 k2 F u v nv qv wr) (hb : Below wr.heap.size wr w) : WvX z ma mq n i m r T st k1 k2 F u v nv qv w :=
  ⟨h.rw_, h.len, h.box.below hb, h.rin.below hb, h.map.below hb, h.mq_.below hb, fun j hj => (h.rows j hj).below hb, h.dis, h.ks⟩
structure WvI (W : World) (z ma mq n i : Nat) (m : Int) (wr : World) : Prop where
  ex : ∃ r T st k1 k2 F p1 l1 c1 p2 l2 c2 p3 l3 c3 p4 l4 c4, WvX z ma mq n i m r T st k1 k2 F (.slice p1 l1 c1) (.slice p2 l2 c2) (.slice p3 l3 c3) (.slice p4 l4 c4) wr
  kp : Below W.heap.size W wr
  b : W.heap.size ≤ z ∧ z < ma ∧ ma < mq ∧ mq < wr.heap.size
theorem WvI.below {W : World} {z ma mq n i : Nat} {m : Int} {wr w : World} (h : WvI W z ma mq n i m wr) (hb : Below wr.heap.size wr w) : WvI W z ma mq n i m w := by
  obtain ⟨⟨r, T, st, k1, k2, F, p1, l1, c1, p2, l2, c2, p3, l3, c3, p4, l4, c4, h1⟩, h2, h3⟩ := h
  exact ⟨⟨r, T, st, k1, k2, F, p1, l1, c1, p2, l2, c2, p3, l3, c3, p4, l4, c4, h1.below hb⟩, below_then h2 h2.size hb, ⟨h3.1, h3.2.1, h3.2.2.1, Nat.lt_of_lt_of_le h3.2.2.2 hb.size⟩⟩
theorem RW.other {r : RcS} {T st : Int → Int} {m : Int} (h : RW r T st m) {o : Int × Int × Int} (he : opE r o = 0) (h3 : ¬ o.1 = 3) (h5 : ¬ o.1 = 5) :
    RW (opR r o) T st m ∧ whatsR (opR r o) = whatsR r ∧ (opR r o).qs.length = r.qs.length ∧ ∀ j, j < r.qs.length → (qAt (opR r o) j).2 = (qAt r j).2 := by
  unfold opE at he
  split at he
  · cases he
  · rename_i hk
    have hk := Classical.not_not.1 hk
    split at he
    · cases he
    · rename_i hc
      have hc : hasB r.qs.length o.2.1 = true := by cases hb : hasB r.qs.length o.2.1 with
        | true => rfl
        | false => exact absurd hb hc
      obtain ⟨hlt, -⟩ := has_lt hc
      unfold opR
      by_cases h1 : o.1 = 1
      · rw [if_pos h1] at he
        rw [if_pos h1]
        exact ⟨h.step he, rfl, rfl, fun _ _ => rfl⟩
      · rw [if_neg h1] at he
        rw [if_neg h1]
        by_cases h2 : o.1 = 2
        · rw [if_pos h2] at he
          rw [if_pos h2]
          exact ⟨h.step he, rfl, rfl, fun _ _ => rfl⟩
        · have h4 : o.1 = 4 := by omega
          rw [if_neg h2, if_neg h3, if_pos h4]
          refine ⟨h.pick hlt, whatsR_pick r _, ?_, fun j hj => qAt_pick r _ j hj⟩
          unfold pickR
          split
          · rfl
          · simp
theorem qAt_call (r : RcS) (i j : Nat) (hi : i < r.qs.length) (hj : j < r.qs.length) (x : Int) : (qAt (callR r i x) j).2 = if j = i then (qAt r i).2 ++ [(nextG r.g, x)] else (qAt r j).2 := by
  have h1 : j < (callR r i x).qs.length := by simpa [callR] using hj
  rw [qAt_lt h1]
  by_cases e : j = i
  · subst e
    simp [callR]
  · rw [if_neg e, qAt_lt hj]
    simp [callR, Ne.symm e]
/-- Behind a call, in memory. -/
theorem WvX.call {z ma mq n i : Nat} {m : Int} {r r' : RcS} {T st : Int → Int} {k1 k2 c : Nat} {F F' : Nat → Value} {u v nv qv vn : Value} {w X : World} (h : RW r T st m) (hl : r.qs.length = n) (hc : c < n) (he : callE r c = 0) (hr' : r' = callR r c (m + 1))
    (hd : ∀ j j', j < n → j' < n → j ≠ j' → ∀ g, (F j).ownBlock = some g → (F j').ownBlock ≠ some g) (hrows : ∀ j, j < n → PutR (mq + 1) (F j) ((qAt r j).2.map (·.2)) w)
    (hin : RcIn (wvS z ma mq n F) w u v nv qv r') (hbox : RcBox X z r'.s.now u v r'.g.done r'.g.asked r'.g.on nv qv) (hk : Keeps (fun k => k = mq ∨ some k = (F c).ownBlock) w X)
    (hA : MapA X ma k1 ((m + 1) :: whatsR r) (fun k => if k = m + 1 then r.s.now else st k)) (hQ : MapQ X mq k2 n F') (hF : F' = fun j => if j = c then vn else F j)
    (hP : PutR (mq + 1) vn ((qAt r c).2.map (·.2) ++ [m + 1]) X) (hg : ∀ g, vn.ownBlock = some g → some g = (F c).ownBlock ∨ w.heap.size ≤ g) (hks : k1 ≤ i ∧ k2 ≤ 2 * i ∧ m + 1 ≤ i ∧ i ≤ 150) :
    ∃ T', WvX z ma mq n i (m + 1) r' T' (fun k => if k = m + 1 then r.s.now else st k) k1 k2 F' u v nv qv X := by
  have hcl : c < r.qs.length := by omega
  have hFc : F' c = vn := by rw [hF]; exact if_pos rfl
  have hFo : ∀ j, j ≠ c → F' j = F j := fun j hj => by rw [hF]; exact if_neg hj
  refine ⟨_, h.call hcl he |> (hr' ▸ ·), by rw [hr']; simpa [callR] using hl, hbox, ?_, hA.perm (by rw [hr']; exact (whatsR_call r c hcl (m + 1)).symm) (fun _ _ => rfl), hQ, fun j hj => ?_, fun j j' hj hj' hne g e1 e2 => ?_, hks⟩
  · have h1 := (hin.apart (T := fun k => wvS z ma mq n F k ∨ w.heap.size ≤ k) (fun q hq => hq)).keeps (hk.sub fun k _ e => .inl (by
      rcases e with e | e
      · exact .inl (.inr (.inr e))
      · exact .inr ⟨c, hc, e⟩))
    refine h1.apart (fun q hq => .inl ?_)
    rcases hq with hq | ⟨j, hj, e⟩
    · exact .inl (.inl hq)
    · by_cases hjc : j = c
      · subst hjc
        rw [hFc] at e
        rcases hg q e.symm with e' | e'
        · exact .inl (.inr ⟨j, hj, e'⟩)
        · exact .inr e'
      · rw [hFo j hjc] at e
        exact .inl (.inr ⟨j, hj, e⟩)
  · rw [hr', qAt_call r c j hcl (by omega)]
    by_cases hjc : j = c
    · subst hjc
      rw [if_pos rfl, hFc, List.map_append]
      exact hP
    · rw [if_neg hjc, hFo j hjc]
      exact (hrows j hj).keeps hk (fun g e e' => by
        rcases e' with e' | e'
        · have := ((hrows j hj).lt e).1; omega
        · exact hd j c hj hc hjc g e e'.symm)
  · by_cases hjc : j = c
    · subst hjc
      rw [hFc] at e1
      rw [hFo j' (fun e => hne e.symm)] at e2
      rcases hg g e1 with e' | e'
      · exact hd j j' hj hj' hne g e'.symm e2
      · have := ((hrows j' hj').lt e2).2.1; omega
    · rw [hFo j hjc] at e1
      by_cases hjc' : j' = c
      · subst hjc'
        rw [hFc] at e2
        rcases hg g e2 with e' | e'
        · exact hd j' j hj' hj (fun e => hne e.symm) g e'.symm e1
        · have := ((hrows j hj).lt e1).2.1; omega
      · rw [hFo j' hjc'] at e2
        exact hd j j' hj hj' hne g e1 e2
theorem qAt_drop (r : RcS) (i j : Nat) (hi : i < r.qs.length) (hj : j < r.qs.length) : (qAt (dropR r i 1) j).2 = if j = i then (qAt r i).2.drop 1 else (qAt r j).2 := by
  have h1 : j < (dropR r i 1).qs.length := by simpa [dropR] using hj
  rw [qAt_lt h1]
  by_cases e : j = i
  · subst e
    simp [dropR]
  · rw [if_neg e, qAt_lt hj]
    simp [dropR, Ne.symm e]
/-- Behind a run, in memory. -/
theorem WvX.run {z ma mq n i : Nat} {m : Int} {r r' : RcS} {T st : Int → Int} {k1 k2 c : Nat} {F F' : Nat → Value} {u v nv qv vn : Value} {w X : World} {c0 : Int × Int} {l0 : List (Int × Int)} (h : RW r' T st m) (hl : r.qs.length = n) (hc : c < n) (hr' : r' = dropR r c 1) (hq : (qAt r c).2 = c0 :: l0)
    (hd : ∀ j j', j < n → j' < n → j ≠ j' → ∀ g, (F j).ownBlock = some g → (F j').ownBlock ≠ some g) (hrows : ∀ j, j < n → PutR (mq + 1) (F j) ((qAt r j).2.map (·.2)) w)
    (hin : RcIn (wvS z ma mq n F) w u v nv qv r') (hbox : RcBox X z r'.s.now u v r'.g.done r'.g.asked r'.g.on nv qv) (hk : Keeps (fun k => k = mq ∨ k = ma) w X) (hmm : ma < mq)
    (hA : MapA X ma k1 (whatsR r') st) (hQ : MapQ X mq k2 n F') (hF : F' = fun j => if j = c then vn else F j)
    (hP : PutR (mq + 1) vn (l0.map (·.2)) X) (hg : ∀ g, vn.ownBlock = some g → some g = (F c).ownBlock) (hks : k1 ≤ i ∧ k2 ≤ 2 * i ∧ m ≤ i ∧ i ≤ 150) :
    WvX z ma mq n i m r' T st k1 k2 F' u v nv qv X := by
  have hcl : c < r.qs.length := by omega
  have hFc : F' c = vn := by rw [hF]; exact if_pos rfl
  have hFo : ∀ j, j ≠ c → F' j = F j := fun j hj => by rw [hF]; exact if_neg hj
  have hof : ∀ j, j < n → ∀ g, (F' j).ownBlock = some g → (F j).ownBlock = some g := fun j hj g e => by
    by_cases hjc : j = c
    · subst hjc; rw [hFc] at e; exact (hg g e).symm
    · rw [hFo j hjc] at e; exact e
  refine ⟨h, by rw [hr']; simpa [dropR] using hl, hbox, ?_, hA, hQ, fun j hj => ?_, fun j j' hj hj' hne g e1 e2 => hd j j' hj hj' hne g (hof j hj g e1) (hof j' hj' g e2), hks⟩
  · refine (hin.keeps (hk.sub fun k _ e => .inl (by omega))).apart (fun q hq => .inl ?_)
    rcases hq with hq | ⟨j, hj, e⟩
    · exact .inl hq
    · exact .inr ⟨j, hj, (hof j hj q e.symm).symm⟩
  · rw [hr', qAt_drop r c j hcl (by omega)]
    by_cases hjc : j = c
    · subst hjc
      rw [if_pos rfl, hFc, hq]
      exact hP
    · rw [if_neg hjc, hFo j hjc]
      exact (hrows j hj).keeps hk (fun g e e' => by have := ((hrows j hj).lt e).1; omega)
theorem stepAE_zero {r : RcS} {o : Int × Int × Int} (hm : rmayB r = true) (h : stepAE r o = 0) : opE r o = 0 := by
  unfold stepAE at h
  rwa [if_pos hm] at h

end Go.Proofs.YtdllhiihmpinoaaGreat
