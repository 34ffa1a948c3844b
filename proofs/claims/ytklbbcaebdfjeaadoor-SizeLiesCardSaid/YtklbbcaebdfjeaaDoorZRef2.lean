/-
  The document's answers for package size: which words a block has, which blocks overlap, and are around others.
  Conditions: the ranges of Go's types.
-/
import Derived.Test.YtklbbcaebdfjeaaDoorZRef
import Derived.Test.YtklbbcaebdfjeaaDoorZParts
namespace Go.Proofs.YtklbbcaebdfjeaaDoor
open Go.RowKit Go.Shelf
attribute [local go_sem] Oper.semAt_some

theorem step_append_at {P : Program} {ops : Array Oper} {o : Oper} {a : Act} {w : World} {K : Act → World → Prop} {Q : Exit → Act → World → Prop} (hw : Region.wanted o (yielded ops a.tmps) = true) (s x : Operand) (t : TypeId)
    (ho : o.op = .call { callee := .builtin .append, args := #[s, x], argTypes := #[t, t] })
    (base : Nat) (e : TypeId) (i : TypeInfo) (z : Value) (size bytes : Nat) (ht : P.underlying t = some (.slice e)) (hi : P.info? e = some i) (hz : i.zero = some z)
    (hsize : i.size = size) (hby : i.bytes = bytes) (hzs : z.cells.size = size) (hsz : 0 < size)
    (v : Value) (n : Nat) (xs : List Value) (hs : a.eval s = v) (hown : w.ownsRow base e size v n xs)
    (ad : Addr) (m c : Nat) (news : List Value) (hx : a.eval x = .slice (some ad) m c) (hl : news.length = m * size) (hnews : ∀ j u, news[j]? = some u → w.cell? (ad.add j) = some u) (h1 : ∀ u ∈ news, u.oneCell' = true)
    (h63 : n + m ≤ maxLen) (hbytes : (n + m) * bytes ≤ 140737488355328) (hbase : base ≤ w.heap.size)
    (h : ∀ v' w', w'.ownsRow base e size v' (n + m) (xs ++ news) → w.grownBy w' v.ownBlock → (v'.ownBlock = v.ownBlock ∨ v'.ownBlock = some w.heap.size) → K (a.put o.dst v') w') :
    if Region.wanted o (yielded ops a.tmps) = true then Oper.wp P o a w K Q else K (a.put o.dst undef) w := by
  rw [if_pos hw]
  obtain ⟨v', w', hr, h2, h3, _, h5⟩ := run_append_own_at (P := P) w base t o.type e i z size bytes ht hi hz hsize hby hzs hsz v n xs hown ad m c news hl hnews h1 h63 hbytes hbase
  unfold Oper.wp execOp
  simp only [ho, resolve, invoke, builtin, Sem.run_bind, Sem.run_pure, Result.andThen_ok, List.map_toArray, List.map_cons, List.map_nil, hs, hx, hr]
  exact h v' w' h2 h3 h5
set_option maxRecDepth 100000 in
set_option maxHeartbeats 8000000 in
theorem rHas_1 (a x : Int) (k : Nat) (h1 : ¬ a ≤ x) (W : World) : Calls Tryd.prog 38 #[blkV a (k : Int), .int .i64 x] W fun e w' => e = .returned (.bool false) ∧ Below W.heap.size W w' := by
  obtain ⟨w1, hw1⟩ : ∃ X : World, X = W.alloc (.cells #[.int .i64 a, .int .i64 (k : Int)] 33) := ⟨_, rfl⟩
  have hB1 : Below W.heap.size W w1 := by rw [hw1]; exact (Below.refl _ _).alloc (Nat.le_refl _) _
  have hX0 : BBox w1 W.heap.size a k := by rw [hw1]; exact BBox.new _ _ _
  obtain ⟨F, hFE⟩ : ∃ F : World → Prop, F = fun w => BBox w W.heap.size a k ∧ Below W.heap.size W w := ⟨_, rfl⟩
  have HFE := Lib.hid (show ∀ w, F w → BBox w W.heap.size a k ∧ Below W.heap.size W w from fun w h => by rw [hFE] at h; exact h)
  have HFB := Lib.hid (show ∀ w w', F w → Below w.heap.size w w' → F w' from fun w w' h hb => by
    rw [hFE] at h ⊢
    exact ⟨h.1.below hb, below_then h.2 h.2.size hb⟩)
  have hF : F w1 := by rw [hFE]; exact ⟨hX0, hB1⟩
  clear hFE hX0 hB1
  go_enter Tryd.func38, Tryd.ntmps38
  go_wp2_with fail
  rw [← hw1]
  clear hw1
  refine wpTwo_begin (T := F) (S := fun _ => True) (late := fun _ => false) (by kernel_rfl) ?_
  obtain ⟨X0, hX0⟩ : ∃ X : World, X = w1.drew := ⟨_, rfl⟩
  rw [← hX0]
  have hF := HFB.out _ X0 hF (by rw [hX0]; exact (Below.refl _ _).drew)
  clear hX0
  refine wpTwo_takeT (i := 0) (v := .int .i64 x) rfl (by kernel_rfl) (by kernel_rfl) (by kernel_rfl) (fun _ _ _ h => h) ⟨by rfl, ?_⟩ hF ?_
  · rintro w hTw
    go_simp
  (try simp only [Act.put, List.getElem_toArray, List.getElem_cons_zero, List.setIfInBounds_toArray, List.set_cons_succ, List.set_cons_zero])
  refine wpTwo_takeT (i := 1) (v := .pointer (some ⟨W.heap.size, 0, none⟩)) rfl (by kernel_rfl) (by kernel_rfl) (by kernel_rfl) (fun _ _ _ h => h) ⟨by rfl, ?_⟩ hF ?_
  · rintro w hTw
    go_simp
  (try simp only [Act.put, List.getElem_toArray, List.getElem_cons_succ, List.getElem_cons_zero, List.setIfInBounds_toArray, List.set_cons_succ, List.set_cons_zero])
  refine wpTwo_takeT (i := 2) (v := .int .i64 a) rfl (by kernel_rfl) (by kernel_rfl) (by kernel_rfl) (fun _ _ _ h => h) ⟨by rfl, ?_⟩ hF ?_
  · rintro w hTw
    obtain ⟨t0, t1⟩ := (HFE.out _ hTw).1.cells
    go_simp
  (try simp only [Act.put, List.getElem_toArray, List.getElem_cons_succ, List.getElem_cons_zero, List.setIfInBounds_toArray, List.set_cons_succ, List.set_cons_zero])
  refine wpTwo_takeT (i := 3) (v := .bool false) rfl (by kernel_rfl) (by kernel_rfl) (by kernel_rfl) (fun _ _ _ h => h) ⟨by rfl, ?_⟩ hF ?_
  · rintro w hTw
    go_simp
  (try simp only [Act.put, List.getElem_toArray, List.getElem_cons_succ, List.getElem_cons_zero, List.setIfInBounds_toArray, List.set_cons_succ, List.set_cons_zero])
  refine wpTwo_takeT (i := 4) (v := .bool false) rfl (by kernel_rfl) (by kernel_rfl) (by kernel_rfl) (fun _ _ _ h => h) ⟨by rfl, ?_⟩ hF ?_
  · rintro w hTw
    go_simp
  (try simp only [Act.put, List.getElem_toArray, List.getElem_cons_succ, List.getElem_cons_zero, List.setIfInBounds_toArray, List.set_cons_succ, List.set_cons_zero])
  refine wpTwo_skipT (i := 5) rfl (by kernel_rfl) (by kernel_rfl) (by kernel_rfl) (fun _ _ _ h => h) (by rfl) hF ?_
  (try simp only [Act.put, List.getElem_toArray, List.getElem_cons_succ, List.getElem_cons_zero, List.setIfInBounds_toArray, List.set_cons_succ, List.set_cons_zero])
  refine wpTwo_skipT (i := 6) rfl (by kernel_rfl) (by kernel_rfl) (by kernel_rfl) (fun _ _ _ h => h) (by rfl) hF ?_
  (try simp only [Act.put, List.getElem_toArray, List.getElem_cons_succ, List.getElem_cons_zero, List.setIfInBounds_toArray, List.set_cons_succ, List.set_cons_zero])
  refine wpTwo_skipT (i := 7) rfl (by kernel_rfl) (by kernel_rfl) (by kernel_rfl) (fun _ _ _ h => h) (by rfl) hF ?_
  (try simp only [Act.put, List.getElem_toArray, List.getElem_cons_succ, List.getElem_cons_zero, List.setIfInBounds_toArray, List.set_cons_succ, List.set_cons_zero])
  refine wpTwo_skipT (i := 8) rfl (by kernel_rfl) (by kernel_rfl) (by kernel_rfl) (fun _ _ _ h => h) (by rfl) hF ?_
  (try simp only [Act.put, List.getElem_toArray, List.getElem_cons_succ, List.getElem_cons_zero, List.setIfInBounds_toArray, List.set_cons_succ, List.set_cons_zero])
  refine wpTwo_skipT (i := 9) rfl (by kernel_rfl) (by kernel_rfl) (by kernel_rfl) (fun _ _ _ h => h) (by rfl) hF ?_
  (try simp only [Act.put, List.getElem_toArray, List.getElem_cons_succ, List.getElem_cons_zero, List.setIfInBounds_toArray, List.set_cons_succ, List.set_cons_zero])
  refine wpTwo_skipT (i := 10) rfl (by kernel_rfl) (by kernel_rfl) (by kernel_rfl) (fun _ _ _ h => h) (by rfl) hF ?_
  (try simp only [Act.put, List.getElem_toArray, List.getElem_cons_succ, List.getElem_cons_zero, List.setIfInBounds_toArray, List.set_cons_succ, List.set_cons_zero])
  refine wpTwo_skipT (i := 11) rfl (by kernel_rfl) (by kernel_rfl) (by kernel_rfl) (fun _ _ _ h => h) (by rfl) hF ?_
  (try simp only [Act.put, List.getElem_toArray, List.getElem_cons_succ, List.getElem_cons_zero, List.setIfInBounds_toArray, List.set_cons_succ, List.set_cons_zero])
  refine wpTwo_skipT (i := 12) rfl (by kernel_rfl) (by kernel_rfl) (by kernel_rfl) (fun _ _ _ h => h) (by rfl) hF ?_
  (try simp only [Act.put, List.getElem_toArray, List.getElem_cons_succ, List.getElem_cons_zero, List.setIfInBounds_toArray, List.set_cons_succ, List.set_cons_zero])
  refine wpTwo_takeT (i := 13) (v := .bool false) rfl (by kernel_rfl) (by kernel_rfl) (by kernel_rfl) (fun _ _ _ h => h) ⟨by rfl, ?_⟩ hF ?_
  · rintro w hTw
    go_simp
  (try simp only [Act.put, List.getElem_toArray, List.getElem_cons_succ, List.getElem_cons_zero, List.setIfInBounds_toArray, List.set_cons_succ, List.set_cons_zero])
  refine wpTwo_takeT (i := 14) (v := .bool false) rfl (by kernel_rfl) (by kernel_rfl) (by kernel_rfl) (fun _ _ _ h => h) ⟨by rfl, ?_⟩ hF ?_
  · rintro w hTw
    go_simp
  (try simp only [Act.put, List.getElem_toArray, List.getElem_cons_succ, List.getElem_cons_zero, List.setIfInBounds_toArray, List.set_cons_succ, List.set_cons_zero])
  refine wpTwo_end (by kernel_rfl) ?_ _
  have HBE := Lib.hid (HFE.out _ hF).2
  clear hF
  go_wp2
  go_ret
  exact ⟨rfl, HBE.out⟩

set_option maxRecDepth 100000 in
set_option maxHeartbeats 8000000 in
theorem rHas_2 (a x : Int) (k s : Nat) (hk : k < 4) (HS : Hid (s = szN k)) (hs2 : s ≤ 16) (ha : 0 ≤ a ∧ a ≤ 4096) (h1 : a ≤ x) (h2 : ¬ x < a + (s : Int)) (W : World) : Calls Tryd.prog 38 #[blkV a (k : Int), .int .i64 x] W fun e w' => e = .returned (.bool false) ∧ Below W.heap.size W w' := by
  obtain ⟨w1, hw1⟩ : ∃ X : World, X = W.alloc (.cells #[.int .i64 a, .int .i64 (k : Int)] 33) := ⟨_, rfl⟩
  have hB1 : Below W.heap.size W w1 := by rw [hw1]; exact (Below.refl _ _).alloc (Nat.le_refl _) _
  have hX0 : BBox w1 W.heap.size a k := by rw [hw1]; exact BBox.new _ _ _
  obtain ⟨F, hFE⟩ : ∃ F : World → Prop, F = fun w => BBox w W.heap.size a k ∧ Below W.heap.size W w := ⟨_, rfl⟩
  have HFE := Lib.hid (show ∀ w, F w → BBox w W.heap.size a k ∧ Below W.heap.size W w from fun w h => by rw [hFE] at h; exact h)
  have HFB := Lib.hid (show ∀ w w', F w → Below w.heap.size w w' → F w' from fun w w' h hb => by
    rw [hFE] at h ⊢
    exact ⟨h.1.below hb, below_then h.2 h.2.size hb⟩)
  have hF : F w1 := by rw [hFE]; exact ⟨hX0, hB1⟩
  clear hFE hX0 hB1
  go_enter Tryd.func38, Tryd.ntmps38
  go_wp2_with fail
  rw [← hw1]
  clear hw1
  refine wpTwo_begin (T := F) (S := fun _ => True) (late := fun _ => false) (by kernel_rfl) ?_
  obtain ⟨X0, hX0⟩ : ∃ X : World, X = w1.drew := ⟨_, rfl⟩
  rw [← hX0]
  have hF := HFB.out _ X0 hF (by rw [hX0]; exact (Below.refl _ _).drew)
  clear hX0
  refine wpTwo_takeT (i := 0) (v := .int .i64 x) rfl (by kernel_rfl) (by kernel_rfl) (by kernel_rfl) (fun _ _ _ h => h) ⟨by rfl, ?_⟩ hF ?_
  · rintro w hTw
    go_simp
  (try simp only [Act.put, List.getElem_toArray, List.getElem_cons_zero, List.setIfInBounds_toArray, List.set_cons_succ, List.set_cons_zero])
  refine wpTwo_takeT (i := 1) (v := .pointer (some ⟨W.heap.size, 0, none⟩)) rfl (by kernel_rfl) (by kernel_rfl) (by kernel_rfl) (fun _ _ _ h => h) ⟨by rfl, ?_⟩ hF ?_
  · rintro w hTw
    go_simp
  (try simp only [Act.put, List.getElem_toArray, List.getElem_cons_succ, List.getElem_cons_zero, List.setIfInBounds_toArray, List.set_cons_succ, List.set_cons_zero])
  refine wpTwo_takeT (i := 2) (v := .int .i64 a) rfl (by kernel_rfl) (by kernel_rfl) (by kernel_rfl) (fun _ _ _ h => h) ⟨by rfl, ?_⟩ hF ?_
  · rintro w hTw
    obtain ⟨t0, t1⟩ := (HFE.out _ hTw).1.cells
    go_simp
  (try simp only [Act.put, List.getElem_toArray, List.getElem_cons_succ, List.getElem_cons_zero, List.setIfInBounds_toArray, List.set_cons_succ, List.set_cons_zero])
  refine wpTwo_takeT (i := 3) (v := .bool true) rfl (by kernel_rfl) (by kernel_rfl) (by kernel_rfl) (fun _ _ _ h => h) ⟨by rfl, ?_⟩ hF ?_
  · rintro w hTw
    go_simp
  (try simp only [Act.put, List.getElem_toArray, List.getElem_cons_succ, List.getElem_cons_zero, List.setIfInBounds_toArray, List.set_cons_succ, List.set_cons_zero])
  refine wpTwo_takeT (i := 4) (v := .bool true) rfl (by kernel_rfl) (by kernel_rfl) (by kernel_rfl) (fun _ _ _ h => h) ⟨by rfl, ?_⟩ hF ?_
  · rintro w hTw
    go_simp
  (try simp only [Act.put, List.getElem_toArray, List.getElem_cons_succ, List.getElem_cons_zero, List.setIfInBounds_toArray, List.set_cons_succ, List.set_cons_zero])
  refine wpTwo_takeT (i := 5) (v := .int .i64 x) rfl (by kernel_rfl) (by kernel_rfl) (by kernel_rfl) (fun _ _ _ h => h) ⟨by rfl, ?_⟩ hF ?_
  · rintro w hTw
    go_simp
  (try simp only [Act.put, List.getElem_toArray, List.getElem_cons_succ, List.getElem_cons_zero, List.setIfInBounds_toArray, List.set_cons_succ, List.set_cons_zero])
  refine wpTwo_takeT (i := 6) (v := .pointer (some ⟨W.heap.size, 0, none⟩)) rfl (by kernel_rfl) (by kernel_rfl) (by kernel_rfl) (fun _ _ _ h => h) ⟨by rfl, ?_⟩ hF ?_
  · rintro w hTw
    go_simp
  (try simp only [Act.put, List.getElem_toArray, List.getElem_cons_succ, List.getElem_cons_zero, List.setIfInBounds_toArray, List.set_cons_succ, List.set_cons_zero])
  refine wpTwo_takeT (i := 7) (v := .int .i64 a) rfl (by kernel_rfl) (by kernel_rfl) (by kernel_rfl) (fun _ _ _ h => h) ⟨by rfl, ?_⟩ hF ?_
  · rintro w hTw
    obtain ⟨t0, t1⟩ := (HFE.out _ hTw).1.cells
    go_simp
  (try simp only [Act.put, List.getElem_toArray, List.getElem_cons_succ, List.getElem_cons_zero, List.setIfInBounds_toArray, List.set_cons_succ, List.set_cons_zero])
  refine wpTwo_takeT (i := 8) (v := .pointer (some ⟨W.heap.size, 1, none⟩)) rfl (by kernel_rfl) (by kernel_rfl) (by kernel_rfl) (fun _ _ _ h => h) ⟨by rfl, ?_⟩ hF ?_
  · rintro w hTw
    go_simp
  (try simp only [Act.put, List.getElem_toArray, List.getElem_cons_succ, List.getElem_cons_zero, List.setIfInBounds_toArray, List.set_cons_succ, List.set_cons_zero])
  refine wpTwo_takeT (i := 9) (v := .int .i64 (k : Int)) rfl (by kernel_rfl) (by kernel_rfl) (by kernel_rfl) (fun _ _ _ h => h) ⟨by rfl, ?_⟩ hF ?_
  · rintro w hTw
    obtain ⟨t0, t1⟩ := (HFE.out _ hTw).1.cells
    go_simp
  (try simp only [Act.put, List.getElem_toArray, List.getElem_cons_succ, List.getElem_cons_zero, List.setIfInBounds_toArray, List.set_cons_succ, List.set_cons_zero])
  refine wpTwo_ready (rs := [10]) (by kernel_rfl) (by simp) ?_
  refine (AllTwo.cons rfl (fun K hK => ?_) AllTwo.nil)
  go_simp
  refine (rWords_c k hk _).mono ?_
  rintro e Y ⟨rfl, rfl⟩
  rw [← HS.out]
  go_wp2_with fail
  refine hK.out _ _ ⟨hF, fun _ _ => trivial⟩ ?_
  clear hK K
  (try simp only [Act.put, List.getElem_toArray, List.getElem_cons_succ, List.getElem_cons_zero, List.setIfInBounds_toArray, List.set_cons_succ, List.set_cons_zero])
  refine wpTwo_takeT (i := 11) (v := .int .i64 (a + s)) rfl (by kernel_rfl) (by kernel_rfl) (by kernel_rfl) (fun _ _ _ h => h) ⟨by rfl, ?_⟩ hF ?_
  · rintro w hTw
    go_simp
    exact IntWalk.i64_in _ (by omega)
  (try simp only [Act.put, List.getElem_toArray, List.getElem_cons_succ, List.getElem_cons_zero, List.setIfInBounds_toArray, List.set_cons_succ, List.set_cons_zero])
  refine wpTwo_takeT (i := 12) (v := .bool false) rfl (by kernel_rfl) (by kernel_rfl) (by kernel_rfl) (fun _ _ _ h => h) ⟨by rfl, ?_⟩ hF ?_
  · rintro w hTw
    go_simp
  (try simp only [Act.put, List.getElem_toArray, List.getElem_cons_succ, List.getElem_cons_zero, List.setIfInBounds_toArray, List.set_cons_succ, List.set_cons_zero])
  refine wpTwo_takeT (i := 13) (v := .bool false) rfl (by kernel_rfl) (by kernel_rfl) (by kernel_rfl) (fun _ _ _ h => h) ⟨by rfl, ?_⟩ hF ?_
  · rintro w hTw
    go_simp
  (try simp only [Act.put, List.getElem_toArray, List.getElem_cons_succ, List.getElem_cons_zero, List.setIfInBounds_toArray, List.set_cons_succ, List.set_cons_zero])
  refine wpTwo_takeT (i := 14) (v := .bool false) rfl (by kernel_rfl) (by kernel_rfl) (by kernel_rfl) (fun _ _ _ h => h) ⟨by rfl, ?_⟩ hF ?_
  · rintro w hTw
    go_simp
  (try simp only [Act.put, List.getElem_toArray, List.getElem_cons_succ, List.getElem_cons_zero, List.setIfInBounds_toArray, List.set_cons_succ, List.set_cons_zero])
  refine wpTwo_end (by kernel_rfl) ?_ _
  have HBE := Lib.hid (HFE.out _ hF).2
  clear hF
  go_wp2
  go_ret
  exact ⟨rfl, HBE.out⟩

set_option maxRecDepth 100000 in
set_option maxHeartbeats 8000000 in
theorem rHas_3 (a x : Int) (k s : Nat) (hk : k < 4) (HS : Hid (s = szN k)) (hs2 : s ≤ 16) (ha : 0 ≤ a ∧ a ≤ 4096) (h1 : a ≤ x) (h2 : x < a + (s : Int)) (W : World) : Calls Tryd.prog 38 #[blkV a (k : Int), .int .i64 x] W fun e w' => e = .returned (.bool true) ∧ Below W.heap.size W w' := by
  obtain ⟨w1, hw1⟩ : ∃ X : World, X = W.alloc (.cells #[.int .i64 a, .int .i64 (k : Int)] 33) := ⟨_, rfl⟩
  have hB1 : Below W.heap.size W w1 := by rw [hw1]; exact (Below.refl _ _).alloc (Nat.le_refl _) _
  have hX0 : BBox w1 W.heap.size a k := by rw [hw1]; exact BBox.new _ _ _
  obtain ⟨F, hFE⟩ : ∃ F : World → Prop, F = fun w => BBox w W.heap.size a k ∧ Below W.heap.size W w := ⟨_, rfl⟩
  have HFE := Lib.hid (show ∀ w, F w → BBox w W.heap.size a k ∧ Below W.heap.size W w from fun w h => by rw [hFE] at h; exact h)
  have HFB := Lib.hid (show ∀ w w', F w → Below w.heap.size w w' → F w' from fun w w' h hb => by
    rw [hFE] at h ⊢
    exact ⟨h.1.below hb, below_then h.2 h.2.size hb⟩)
  have hF : F w1 := by rw [hFE]; exact ⟨hX0, hB1⟩
  clear hFE hX0 hB1
  go_enter Tryd.func38, Tryd.ntmps38
  go_wp2_with fail
  rw [← hw1]
  clear hw1
  refine wpTwo_begin (T := F) (S := fun _ => True) (late := fun _ => false) (by kernel_rfl) ?_
  obtain ⟨X0, hX0⟩ : ∃ X : World, X = w1.drew := ⟨_, rfl⟩
  rw [← hX0]
  have hF := HFB.out _ X0 hF (by rw [hX0]; exact (Below.refl _ _).drew)
  clear hX0
  refine wpTwo_takeT (i := 0) (v := .int .i64 x) rfl (by kernel_rfl) (by kernel_rfl) (by kernel_rfl) (fun _ _ _ h => h) ⟨by rfl, ?_⟩ hF ?_
  · rintro w hTw
    go_simp
  (try simp only [Act.put, List.getElem_toArray, List.getElem_cons_zero, List.setIfInBounds_toArray, List.set_cons_succ, List.set_cons_zero])
  refine wpTwo_takeT (i := 1) (v := .pointer (some ⟨W.heap.size, 0, none⟩)) rfl (by kernel_rfl) (by kernel_rfl) (by kernel_rfl) (fun _ _ _ h => h) ⟨by rfl, ?_⟩ hF ?_
  · rintro w hTw
    go_simp
  (try simp only [Act.put, List.getElem_toArray, List.getElem_cons_succ, List.getElem_cons_zero, List.setIfInBounds_toArray, List.set_cons_succ, List.set_cons_zero])
  refine wpTwo_takeT (i := 2) (v := .int .i64 a) rfl (by kernel_rfl) (by kernel_rfl) (by kernel_rfl) (fun _ _ _ h => h) ⟨by rfl, ?_⟩ hF ?_
  · rintro w hTw
    obtain ⟨t0, t1⟩ := (HFE.out _ hTw).1.cells
    go_simp
  (try simp only [Act.put, List.getElem_toArray, List.getElem_cons_succ, List.getElem_cons_zero, List.setIfInBounds_toArray, List.set_cons_succ, List.set_cons_zero])
  refine wpTwo_takeT (i := 3) (v := .bool true) rfl (by kernel_rfl) (by kernel_rfl) (by kernel_rfl) (fun _ _ _ h => h) ⟨by rfl, ?_⟩ hF ?_
  · rintro w hTw
    go_simp
  (try simp only [Act.put, List.getElem_toArray, List.getElem_cons_succ, List.getElem_cons_zero, List.setIfInBounds_toArray, List.set_cons_succ, List.set_cons_zero])
  refine wpTwo_takeT (i := 4) (v := .bool true) rfl (by kernel_rfl) (by kernel_rfl) (by kernel_rfl) (fun _ _ _ h => h) ⟨by rfl, ?_⟩ hF ?_
  · rintro w hTw
    go_simp
  (try simp only [Act.put, List.getElem_toArray, List.getElem_cons_succ, List.getElem_cons_zero, List.setIfInBounds_toArray, List.set_cons_succ, List.set_cons_zero])
  refine wpTwo_takeT (i := 5) (v := .int .i64 x) rfl (by kernel_rfl) (by kernel_rfl) (by kernel_rfl) (fun _ _ _ h => h) ⟨by rfl, ?_⟩ hF ?_
  · rintro w hTw
    go_simp
  (try simp only [Act.put, List.getElem_toArray, List.getElem_cons_succ, List.getElem_cons_zero, List.setIfInBounds_toArray, List.set_cons_succ, List.set_cons_zero])
  refine wpTwo_takeT (i := 6) (v := .pointer (some ⟨W.heap.size, 0, none⟩)) rfl (by kernel_rfl) (by kernel_rfl) (by kernel_rfl) (fun _ _ _ h => h) ⟨by rfl, ?_⟩ hF ?_
  · rintro w hTw
    go_simp
  (try simp only [Act.put, List.getElem_toArray, List.getElem_cons_succ, List.getElem_cons_zero, List.setIfInBounds_toArray, List.set_cons_succ, List.set_cons_zero])
  refine wpTwo_takeT (i := 7) (v := .int .i64 a) rfl (by kernel_rfl) (by kernel_rfl) (by kernel_rfl) (fun _ _ _ h => h) ⟨by rfl, ?_⟩ hF ?_
  · rintro w hTw
    obtain ⟨t0, t1⟩ := (HFE.out _ hTw).1.cells
    go_simp
  (try simp only [Act.put, List.getElem_toArray, List.getElem_cons_succ, List.getElem_cons_zero, List.setIfInBounds_toArray, List.set_cons_succ, List.set_cons_zero])
  refine wpTwo_takeT (i := 8) (v := .pointer (some ⟨W.heap.size, 1, none⟩)) rfl (by kernel_rfl) (by kernel_rfl) (by kernel_rfl) (fun _ _ _ h => h) ⟨by rfl, ?_⟩ hF ?_
  · rintro w hTw
    go_simp
  (try simp only [Act.put, List.getElem_toArray, List.getElem_cons_succ, List.getElem_cons_zero, List.setIfInBounds_toArray, List.set_cons_succ, List.set_cons_zero])
  refine wpTwo_takeT (i := 9) (v := .int .i64 (k : Int)) rfl (by kernel_rfl) (by kernel_rfl) (by kernel_rfl) (fun _ _ _ h => h) ⟨by rfl, ?_⟩ hF ?_
  · rintro w hTw
    obtain ⟨t0, t1⟩ := (HFE.out _ hTw).1.cells
    go_simp
  (try simp only [Act.put, List.getElem_toArray, List.getElem_cons_succ, List.getElem_cons_zero, List.setIfInBounds_toArray, List.set_cons_succ, List.set_cons_zero])
  refine wpTwo_ready (rs := [10]) (by kernel_rfl) (by simp) ?_
  refine (AllTwo.cons rfl (fun K hK => ?_) AllTwo.nil)
  go_simp
  refine (rWords_c k hk _).mono ?_
  rintro e Y ⟨rfl, rfl⟩
  rw [← HS.out]
  go_wp2_with fail
  refine hK.out _ _ ⟨hF, fun _ _ => trivial⟩ ?_
  clear hK K
  (try simp only [Act.put, List.getElem_toArray, List.getElem_cons_succ, List.getElem_cons_zero, List.setIfInBounds_toArray, List.set_cons_succ, List.set_cons_zero])
  refine wpTwo_takeT (i := 11) (v := .int .i64 (a + s)) rfl (by kernel_rfl) (by kernel_rfl) (by kernel_rfl) (fun _ _ _ h => h) ⟨by rfl, ?_⟩ hF ?_
  · rintro w hTw
    go_simp
    exact IntWalk.i64_in _ (by omega)
  (try simp only [Act.put, List.getElem_toArray, List.getElem_cons_succ, List.getElem_cons_zero, List.setIfInBounds_toArray, List.set_cons_succ, List.set_cons_zero])
  refine wpTwo_takeT (i := 12) (v := .bool true) rfl (by kernel_rfl) (by kernel_rfl) (by kernel_rfl) (fun _ _ _ h => h) ⟨by rfl, ?_⟩ hF ?_
  · rintro w hTw
    go_simp
  (try simp only [Act.put, List.getElem_toArray, List.getElem_cons_succ, List.getElem_cons_zero, List.setIfInBounds_toArray, List.set_cons_succ, List.set_cons_zero])
  refine wpTwo_takeT (i := 13) (v := .bool true) rfl (by kernel_rfl) (by kernel_rfl) (by kernel_rfl) (fun _ _ _ h => h) ⟨by rfl, ?_⟩ hF ?_
  · rintro w hTw
    go_simp
  (try simp only [Act.put, List.getElem_toArray, List.getElem_cons_succ, List.getElem_cons_zero, List.setIfInBounds_toArray, List.set_cons_succ, List.set_cons_zero])
  refine wpTwo_takeT (i := 14) (v := .bool true) rfl (by kernel_rfl) (by kernel_rfl) (by kernel_rfl) (fun _ _ _ h => h) ⟨by rfl, ?_⟩ hF ?_
  · rintro w hTw
    go_simp
  (try simp only [Act.put, List.getElem_toArray, List.getElem_cons_succ, List.getElem_cons_zero, List.setIfInBounds_toArray, List.set_cons_succ, List.set_cons_zero])
  refine wpTwo_end (by kernel_rfl) ?_ _
  have HBE := Lib.hid (HFE.out _ hF).2
  clear hF
  go_wp2
  go_ret
  exact ⟨rfl, HBE.out⟩

theorem rHas_c (a x : Int) (k : Nat) (hk : k < 4) (ha : 0 ≤ a ∧ a ≤ 4096) (W : World) : Calls Tryd.prog 38 #[blkV a (k : Int), .int .i64 x] W fun e w' => e = .returned (.bool (decide (a ≤ x ∧ x < a + (szN k : Int)))) ∧ Below W.heap.size W w' := by
  obtain ⟨hs1, hs2⟩ := sz_ok hk
  by_cases h1 : a ≤ x
  · by_cases h2 : x < a + (szN k : Int)
    · rw [decide_eq_true ⟨h1, h2⟩]
      exact rHas_3 a x k _ hk rfl hs2 ha h1 h2 W
    · rw [decide_eq_false (fun h => h2 h.2)]
      exact rHas_2 a x k _ hk rfl hs2 ha h1 h2 W
  · rw [decide_eq_false (fun h => h1 h.1)]
    exact rHas_1 a x k h1 W

set_option maxRecDepth 100000 in
set_option maxHeartbeats 4000000 in
theorem rOver_c (n k n' k' : Nat) (hk : k < 4) (hk' : k' < 4) (hn : n ≤ 4096) (hn' : n' ≤ 4096) (hm : mayB (n : Int) (k : Int) = true) (hm' : mayB (n' : Int) (k' : Int) = true) (W : World) : Calls Tryd.prog 25 #[blkV (n : Int) (k : Int), blkV (n' : Int) (k' : Int)] W fun e w' => e = .returned (.bool (ovB n k n' k')) ∧ Below W.heap.size W w' := by
  have HO := Lib.hid (show ovB n k n' k' = decide ((n : Int) < n' + szN k' ∧ (n' : Int) < n + szN k) by unfold ovB; rw [hm, hm', Int.toNat_natCast, Int.toNat_natCast]; rfl)
  obtain ⟨hs1, hs2⟩ := sz_ok hk
  obtain ⟨hs3, hs4⟩ := sz_ok hk'
  have HH := Lib.hid (fun (x : Int) (X : World) => rHas_c (n' : Int) x k' hk' (by omega) X)
  have HWD := Lib.hid (fun (X : World) => rWords_c k hk X)
  obtain ⟨s, hs⟩ : ∃ s, s = szN k := ⟨_, rfl⟩
  obtain ⟨s', hs'⟩ : ∃ s', s' = szN k' := ⟨_, rfl⟩
  rw [← hs] at HWD hs1 hs2 HO
  rw [← hs'] at HO HH hs3 hs4
  obtain ⟨R, hR⟩ : ∃ R, R = ovB n k n' k' := ⟨_, rfl⟩
  rw [← hR] at HO ⊢
  clear hs hs' hR hm hm'
  obtain ⟨w1, hw1⟩ : ∃ X : World, X = (W.alloc (.cells #[.int .i64 (n : Int), .int .i64 (k : Int)] 33)).alloc (.cells #[.int .i64 (n' : Int), .int .i64 (k' : Int)] 33) := ⟨_, rfl⟩
  have hB1 : Below W.heap.size W w1 := by rw [hw1]; exact ((Below.refl _ _).alloc (Nat.le_refl _) _).alloc (by simp) _
  have hX0 : BBox w1 W.heap.size n k := by rw [hw1]; exact (BBox.new _ _ _).alloc _
  have hX1 : BBox w1 (W.heap.size + 1) n' k' := by rw [hw1]; have := BBox.new (W.alloc (.cells #[.int .i64 (n : Int), .int .i64 (k : Int)] 33)) (n' : Int) (k' : Int); simpa using this
  have HX := Lib.hid (And.intro hX0 (And.intro hX1 hB1))
  obtain ⟨c0, c1⟩ := hX0.cells
  rw [hw1] at c0 c1
  clear hX0 hX1 hB1
  go_enter Tryd.func25, Tryd.ntmps25
  go_wp2_with fail
  rw [← hw1]
  clear hw1 c0 c1
  refine (HWD.out w1).mono ?_
  rintro e w2 ⟨rfl, rfl⟩
  clear HWD
  go_wp2
  go_loopw [9] (fun iv wr => ∃ i : Nat, i ≤ s ∧ iv = .int .i64 (i : Int) ∧ Hid (BBox wr W.heap.size n k ∧ BBox wr (W.heap.size + 1) n' k' ∧ Below W.heap.size W wr) ∧ Hid (∀ j, j < i → ¬ ((n' : Int) ≤ (n : Int) + (j : Nat) ∧ (n : Int) + (j : Nat) < n' + s'))) (fun iv _ => s - (intOf iv).toNat)
  case atStart => exact ⟨0, Nat.zero_le _, rfl, HX, fun j hj => by omega⟩
  case round =>
    obtain ⟨i, hi, rfl, HR, HN⟩ := hrel
    by_cases hlt : i < s
    · obtain ⟨d0, d1⟩ := HR.out.1.cells
      obtain ⟨g0, g1⟩ := HR.out.2.1.cells
      have HC := Lib.hid (HH.out ((n : Int) + (i : Int)) wr)
      by_cases hit : (n' : Int) ≤ (n : Int) + (i : Int) ∧ (n : Int) + (i : Int) < n' + s'
      · rw [decide_eq_true hit] at HC
        obtain rfl : R = true := by rw [HO.out]; exact decide_eq_true (by omega)
        clear hit
        go_wp2_with fail
        refine HC.out.mono ?_
        rintro e w3 ⟨rfl, hb⟩
        have HBE := Lib.hid (below_then HR.out.2.2 HR.out.2.2.size hb)
        clear hb HC d0 d1 g0 g1
        go_wp2
        go_ret
        exact ⟨rfl, HBE.out⟩
      · rw [decide_eq_false hit] at HC
        have HN2 := Lib.hid (show ∀ j, j < i + 1 → ¬ ((n' : Int) ≤ (n : Int) + (j : Nat) ∧ (n : Int) + (j : Nat) < n' + s') from fun j hj => by
          rcases Nat.lt_succ_iff_lt_or_eq.1 hj with h | h
          · exact HN.out j h
          · subst h; exact hit)
        clear hit
        go_wp2_with fail
        refine HC.out.mono ?_
        rintro e w3 ⟨rfl, hb⟩
        have HR3 := Lib.hid (And.intro (HR.out.1.below hb) (And.intro (HR.out.2.1.below hb) (below_then HR.out.2.2 HR.out.2.2.size hb)))
        clear hb HC d0 d1 g0 g1
        go_wp2
        go_roundw
        case rel => exact ⟨i + 1, by omega, by go_num, HR3, HN2⟩
        case measure => simp [intOf]; omega
    · obtain rfl : i = s := by omega
      obtain rfl : R = false := by
        rw [HO.out]
        refine decide_eq_false fun ⟨h1, h2⟩ => ?_
        rcases Nat.le_total n n' with h | h
        · exact HN.out (n' - n) (by omega) (by omega)
        · exact HN.out 0 (by omega) (by omega)
      have HBE := Lib.hid HR.out.2.2
      go_wp2
      go_ret
      exact ⟨rfl, HBE.out⟩

set_option maxRecDepth 100000 in
set_option maxHeartbeats 8000000 in
theorem rAround_c (n k d : Nat) (hd : d < 4) (hn : n ≤ 4096) (W : World) : Calls Tryd.prog 29 #[blkV (n : Int) (k : Int), .int .i64 (d : Int)] W fun e w' => e = .returned (blkV ((n - n % szN d : Nat) : Int) (d : Int)) ∧ Below W.heap.size W w' := by
  obtain ⟨hs1, hs2⟩ := sz_ok hd
  obtain ⟨s, hs⟩ : ∃ s, s = szN d := ⟨_, rfl⟩
  have HS := Lib.hid hs
  rw [← hs] at hs1 hs2 ⊢
  obtain ⟨r, hr⟩ : ∃ r, r = n % s := ⟨_, rfl⟩
  have hrn : r ≤ n := by rw [hr]; exact Nat.mod_le _ _
  have HQ := Lib.hid (show ((n : Int)).tmod (s : Int) = (r : Int) by rw [hr]; rfl)
  rw [← hr]
  obtain ⟨x, hx⟩ : ∃ x, x = n - r := ⟨_, rfl⟩
  have HX := Lib.hid (show IntKind.i64.wrap ((n : Int) - (r : Int)) = (x : Int) by rw [IntWalk.i64_in _ (by omega)]; omega)
  rw [← hx]
  clear hs hr hx
  obtain ⟨w1, hw1⟩ : ∃ X : World, X = (W.alloc (.cells #[.int .i64 (n : Int), .int .i64 (k : Int)] 33)).alloc (.cells #[.int .i64 0, .int .i64 0] 33) := ⟨_, rfl⟩
  have hB1 : Below W.heap.size W w1 := by rw [hw1]; exact ((Below.refl _ _).alloc (Nat.le_refl _) _).alloc (by simp) _
  have hX0 : BBox w1 W.heap.size n k := by rw [hw1]; exact (BBox.new _ _ _).alloc _
  have hX1 : BBox w1 (W.heap.size + 1) 0 0 := by rw [hw1]; have := BBox.new (W.alloc (.cells #[.int .i64 (n : Int), .int .i64 (k : Int)] 33)) 0 0; simpa using this
  obtain ⟨F, hFE⟩ : ∃ F : World → Prop, F = fun w => BBox w W.heap.size n k ∧ (∃ g h, BBox w (W.heap.size + 1) g h) ∧ Below W.heap.size W w := ⟨_, rfl⟩
  have HFE := Lib.hid (show ∀ w, F w → BBox w W.heap.size n k ∧ (∃ g h, BBox w (W.heap.size + 1) g h) ∧ Below W.heap.size W w from fun w h => by rw [hFE] at h; exact h)
  have HFB := Lib.hid (show ∀ w w', F w → Below w.heap.size w w' → F w' from fun w w' h hb => by
    rw [hFE] at h ⊢
    exact ⟨h.1.below hb, h.2.1.imp fun g hg => hg.imp fun q hq => hq.below hb, below_then h.2.2 h.2.2.size hb⟩)
  have hF : F w1 := by rw [hFE]; exact ⟨hX0, ⟨_, _, hX1⟩, hB1⟩
  clear hX0 hX1 hB1
  go_enter Tryd.func29, Tryd.ntmps29
  go_wp2_with fail
  rw [← hw1]
  clear hw1
  refine wpTwo_begin (T := F) (S := fun _ => True) (late := fun _ => false) (by kernel_rfl) ?_
  obtain ⟨X0, hX0⟩ : ∃ X : World, X = w1.drew := ⟨_, rfl⟩
  rw [← hX0]
  have hF := HFB.out _ X0 hF (by rw [hX0]; exact (Below.refl _ _).drew)
  clear hX0
  refine wpTwo_takeT (i := 0) (v := .pointer (some ⟨W.heap.size, 0, none⟩)) rfl (by kernel_rfl) (by kernel_rfl) (by kernel_rfl) (fun _ _ _ h => h) ⟨by rfl, ?_⟩ hF ?_
  · rintro w hTw
    go_simp
  (try simp only [Act.put, List.getElem_toArray, List.getElem_cons_zero, List.setIfInBounds_toArray, List.set_cons_succ, List.set_cons_zero])
  refine wpTwo_takeT (i := 1) (v := .int .i64 (n : Int)) rfl (by kernel_rfl) (by kernel_rfl) (by kernel_rfl) (fun _ _ _ h => h) ⟨by rfl, ?_⟩ hF ?_
  · rintro w hTw
    obtain ⟨t0, t1⟩ := (HFE.out _ hTw).1.cells
    go_simp
  (try simp only [Act.put, List.getElem_toArray, List.getElem_cons_succ, List.getElem_cons_zero, List.setIfInBounds_toArray, List.set_cons_succ, List.set_cons_zero])
  refine wpTwo_takeT (i := 2) (v := .pointer (some ⟨W.heap.size, 0, none⟩)) rfl (by kernel_rfl) (by kernel_rfl) (by kernel_rfl) (fun _ _ _ h => h) ⟨by rfl, ?_⟩ hF ?_
  · rintro w hTw
    go_simp
  (try simp only [Act.put, List.getElem_toArray, List.getElem_cons_succ, List.getElem_cons_zero, List.setIfInBounds_toArray, List.set_cons_succ, List.set_cons_zero])
  refine wpTwo_takeT (i := 3) (v := .int .i64 (n : Int)) rfl (by kernel_rfl) (by kernel_rfl) (by kernel_rfl) (fun _ _ _ h => h) ⟨by rfl, ?_⟩ hF ?_
  · rintro w hTw
    obtain ⟨t0, t1⟩ := (HFE.out _ hTw).1.cells
    go_simp
  (try simp only [Act.put, List.getElem_toArray, List.getElem_cons_succ, List.getElem_cons_zero, List.setIfInBounds_toArray, List.set_cons_succ, List.set_cons_zero])
  refine wpTwo_takeT (i := 4) (v := .int .i64 (d : Int)) rfl (by kernel_rfl) (by kernel_rfl) (by kernel_rfl) (fun _ _ _ h => h) ⟨by rfl, ?_⟩ hF ?_
  · rintro w hTw
    go_simp
  (try simp only [Act.put, List.getElem_toArray, List.getElem_cons_succ, List.getElem_cons_zero, List.setIfInBounds_toArray, List.set_cons_succ, List.set_cons_zero])
  refine wpTwo_takeT (i := 8) (v := .int .i64 (d : Int)) rfl (by kernel_rfl) (by kernel_rfl) (by kernel_rfl) (fun _ _ _ h => h) ⟨by rfl, ?_⟩ hF ?_
  · rintro w hTw
    go_simp
  (try simp only [Act.put, List.getElem_toArray, List.getElem_cons_succ, List.getElem_cons_zero, List.setIfInBounds_toArray, List.set_cons_succ, List.set_cons_zero])
  refine wpTwo_ready (rs := [5]) (by kernel_rfl) (by simp) ?_
  refine (AllTwo.cons rfl (fun K hK => ?_) AllTwo.nil)
  go_simp
  refine (rWords_c d hd _).mono ?_
  rintro e Y ⟨rfl, rfl⟩
  rw [← HS.out]
  go_wp2_with fail
  refine hK.out _ _ ⟨hF, fun _ _ => trivial⟩ ?_
  clear hK K
  (try simp only [Act.put, List.getElem_toArray, List.getElem_cons_succ, List.getElem_cons_zero, List.setIfInBounds_toArray, List.set_cons_succ, List.set_cons_zero])
  refine wpTwo_takeT (i := 6) (v := .int .i64 (r : Int)) rfl (by kernel_rfl) (by kernel_rfl) (by kernel_rfl) (fun _ _ _ h => h) ⟨by rfl, ?_⟩ hF ?_
  · rintro w hTw
    go_simp
    rw [if_neg (show ¬ s = 0 by omega), HQ.out]
  (try simp only [Act.put, List.getElem_toArray, List.getElem_cons_succ, List.getElem_cons_zero, List.setIfInBounds_toArray, List.set_cons_succ, List.set_cons_zero])
  refine wpTwo_takeT (i := 7) (v := .int .i64 (x : Int)) rfl (by kernel_rfl) (by kernel_rfl) (by kernel_rfl) (fun _ _ _ h => h) ⟨by rfl, ?_⟩ hF ?_
  · rintro w hTw
    go_simp
    rw [HX.out]
  (try simp only [Act.put, List.getElem_toArray, List.getElem_cons_succ, List.getElem_cons_zero, List.setIfInBounds_toArray, List.set_cons_succ, List.set_cons_zero])
  refine wpTwo_takeT (i := 9) (v := blkV (x : Int) (d : Int)) rfl (by kernel_rfl) (by kernel_rfl) (by kernel_rfl) (fun _ _ _ h => h) ⟨by rfl, ?_⟩ hF ?_
  · rintro w hTw
    go_simp
  (try simp only [Act.put, List.getElem_toArray, List.getElem_cons_succ, List.getElem_cons_zero, List.setIfInBounds_toArray, List.set_cons_succ, List.set_cons_zero])
  obtain ⟨ga, gb, gq⟩ := (HFE.out _ hF).2.1
  obtain ⟨r0, r1⟩ := gq.cells
  obtain ⟨m0, m1⟩ := gq.free
  refine wpTwo_ready (rs := [10]) (by kernel_rfl) (by simp) ?_
  refine (AllTwo.cons rfl (fun K hK => ?_) AllTwo.nil)
  go_simp
  obtain ⟨Xa, hXa⟩ : ∃ X : World, X = (Y.setCell ⟨W.heap.size + 1, 0, none⟩ (.int .i64 (x : Int))).setCell ⟨W.heap.size + 1, 1, none⟩ (.int .i64 (d : Int)) := ⟨_, rfl⟩
  have HQD := Lib.hid (show BBox Xa (W.heap.size + 1) x d by rw [hXa]; exact gq.put x d)
  have hF1 := HFE.out _ hF
  have HGa := Lib.hid (show BBox Xa W.heap.size n k ∧ Below W.heap.size W Xa by rw [hXa]; exact ⟨(hF1.1.other (by omega) _).other (by omega) _, hF1.2.2.trans (below_put2 Y (W.heap.size + 1) (by omega) _ _)⟩)
  have hF : F Xa := by rw [hFE]; exact ⟨HGa.out.1, ⟨_, _, HQD.out⟩, HGa.out.2⟩
  rw [← hXa]
  clear hXa r0 r1 m0 m1 gq hF1
  refine hK.out _ _ ⟨hF, fun _ _ => trivial⟩ ?_
  clear hK K
  (try simp only [Act.put, List.getElem_toArray, List.getElem_cons_succ, List.getElem_cons_zero, List.setIfInBounds_toArray, List.set_cons_succ, List.set_cons_zero])
  refine wpTwo_end (by kernel_rfl) ?_ _
  obtain ⟨q0, q1⟩ := HQD.out.cells
  have HBE := Lib.hid HGa.out.2
  clear hF hFE
  go_wp2
  exact bodyPost_ret (v := blkV (x : Int) (d : Int)) (by simp [results, Tryd.results29, go_sem, q0, q1]) rfl ⟨rfl, HBE.out⟩

end Go.Proofs.YtklbbcaebdfjeaaDoor
