/-
  How scripts lie in memory: rows of words, of calls, of rows of calls; put, of package script, which puts words behind others.
  Conditions: as each has them.
-/
import Derived.Test.YtjgdkfgcfningaaDoorSRunsP
import Derived.Test.YtjgdkfgcfningaaDoorSReadMath
import Derived.Test.YtjgdkfgcfningaaDoorSRight
import Derived.Test.YtjgdkfgcfningaaDoorSWord
import Derived.Test.YtjgdkfgcfningaaDoorGAppend
namespace Go.Proofs.YtjgdkfgcfningaaDoor
open Go.RowKit Go.Shelf

/-- A slice of n elements, size cells each, no longer than its room, that reads as these cells. -/
structure VRow (W : World) (p : Option Addr) (n c s : Nat) (xs : List Value) : Prop where
  len : xs.length = n * s
  room : n ≤ c
  nil : p = none → c = 0
  cells : xs ≠ [] → ∃ b off, p = some ⟨b, off, none⟩ ∧ ∀ j (h : j < xs.length), W.cell? ⟨b, off + j, none⟩ = some xs[j]
theorem VRow.below {W W' : World} {p : Option Addr} {n c s : Nat} {xs : List Value} (h : VRow W p n c s xs) (hb : Below W.heap.size W W') : VRow W' p n c s xs :=
  ⟨h.len, h.room, h.nil, fun hne => by obtain ⟨b, off, hp, hc⟩ := h.cells hne; exact ⟨b, off, hp, fun j hj => below_cell hb (hc j hj)⟩⟩
theorem VRow.below' {B : Nat} {W X Y : World} {p : Option Addr} {n c s : Nat} {xs : List Value} (h : VRow W p n c s xs) (hb : Below B X Y) (hX : ∀ a v, W.cell? a = some v → X.cell? a = some v) (hB : ∀ a v, W.cell? a = some v → a.block < B) : VRow Y p n c s xs :=
  ⟨h.len, h.room, h.nil, fun hne => by obtain ⟨b, off, hp, hc⟩ := h.cells hne; exact ⟨b, off, hp, fun j hj => (hb.cell (hB _ _ (hc j hj))).trans (hX _ _ (hc j hj))⟩⟩
theorem VRow.vals {W : World} {p : Option Addr} {n c s : Nat} {xs : List Value} (h : VRow W p n c s xs) (hs : 0 < s) : ValsAt W (.slice p n c) s n xs := by
  refine ⟨h.len, p, c, rfl, ?_⟩
  by_cases hne : xs = []
  · subst hne
    have h0 : n = 0 := by
      have := h.len
      simp only [List.length_nil] at this
      rcases Nat.eq_zero_or_pos n with h0 | h0
      · exact h0
      · have := Nat.mul_pos h0 hs; omega
    cases p with
    | none => exact .inl ⟨rfl, h0, h.nil rfl⟩
    | some a => exact .inr ⟨a, rfl, fun j u hj => by simp at hj⟩
  · obtain ⟨b, off, rfl, hcs⟩ := h.cells hne
    refine .inr ⟨_, rfl, fun j u hj => ?_⟩
    obtain ⟨hlt, rfl⟩ := List.getElem?_eq_some_iff.1 hj
    rw [addr_add_off]
    exact hcs j hlt
theorem owns_room {W : World} {B : Nat} {E : TypeId} {s n m c : Nat} {p : Option Addr} {xs : List Value} (h : W.ownsRow B E s (.slice p n c) m xs) : n = m ∧ n ≤ c ∧ (p = none → c = 0) := by
  rcases h.2 with ⟨e, h0⟩ | ⟨g, cap, cur, e, _, _, h1, _⟩
  · injection e with e1 e2 e3; subst e2 e3; exact ⟨h0.symm, Nat.le_refl _, fun _ => rfl⟩
  · injection e with e1 e2 e3; subst e1 e2 e3; exact ⟨rfl, h1, fun h => by cases h⟩
theorem VRow.of_owns {W : World} {B : Nat} {E : TypeId} {s n c : Nat} {p : Option Addr} {xs : List Value} (h : W.ownsRow B E s (.slice p n c) n xs) : VRow W p n c s xs := by
  obtain ⟨_, hr, hn⟩ := owns_room h
  refine ⟨h.1, hr, hn, fun hne => ?_⟩
  rcases h.2 with ⟨e, h0⟩ | ⟨g, cap, cur, e, _⟩
  · have := h.1
    rw [h0, Nat.zero_mul] at this
    exact absurd (List.eq_nil_of_length_eq_zero this) hne
  · injection e with e1 e2 e3
    subst e1 e3
    refine ⟨g, 0, rfl, fun j hj => ?_⟩
    have h1 := h.cellAt j (by have := h.1; omega)
    rw [List.getElem?_eq_getElem hj] at h1
    simpa using h1

/-- A word, as a value. -/
def nv (n : Nat) : Value := .int .u64 (n : Int)
/-- The cells of calls. -/
def cells5 (x : CallM) : List Value := [nv x.k, nv x.a0, nv x.a1, nv x.a2, nv x.a3]
def cellsC : List CallM → List Value
  | [] => []
  | x :: r => cells5 x ++ cellsC r
theorem cellsC_length : ∀ l : List CallM, (cellsC l).length = l.length * 5
  | [] => rfl
  | x :: r => by simp only [cellsC, cells5, List.length_append, cellsC_length r, List.length_cons, List.length_nil]; omega
theorem cellsC_append : ∀ (l m : List CallM), cellsC (l ++ m) = cellsC l ++ cellsC m
  | [], _ => rfl
  | x :: r, m => by simp only [List.cons_append, cellsC, cellsC_append r m, List.append_assoc]
theorem cellsC_get : ∀ (l : List CallM) (i : Nat) (h : i < l.length) (j : Nat), j < 5 → (cellsC l)[i * 5 + j]? = (cells5 l[i])[j]?
  | x :: r, 0, _, j, hj => by simp only [cellsC, Nat.zero_mul, Nat.zero_add, List.getElem_cons_zero]; rw [List.getElem?_append_left (by simp [cells5]; omega)]
  | x :: r, i + 1, h, j, hj => by
    simp only [cellsC, List.getElem_cons_succ]
    rw [List.getElem?_append_right (by simp [cells5]; omega), show (i + 1) * 5 + j - (cells5 x).length = i * 5 + j by simp [cells5]; omega]
    exact cellsC_get r i (by simpa using h) j hj
theorem cellsC_one : ∀ l : List CallM, ∀ u ∈ cellsC l, u.oneCell' = true
  | [], _, h => by cases h
  | x :: r, u, h => by
    rcases List.mem_append.1 h with h | h
    · simp only [cells5, List.mem_cons, List.not_mem_nil, or_false] at h
      rcases h with rfl | rfl | rfl | rfl | rfl <;> rfl
    · exact cellsC_one r u h
/-- A slice of rows of calls. -/
structure LRow (W : World) (p : Option Addr) (n c : Nat) (ls : List (List CallM)) : Prop where
  len : n = ls.length
  room : n ≤ c
  nil : p = none → c = 0
  cells : ls ≠ [] → ∃ b off, p = some ⟨b, off, none⟩ ∧ ∀ i (h : i < ls.length), ∃ q d, W.cell? ⟨b, off + i, none⟩ = some (.slice q ls[i].length d) ∧ VRow W q ls[i].length d 5 (cellsC ls[i])
theorem LRow.below {W W' : World} {p : Option Addr} {n c : Nat} {ls : List (List CallM)} (h : LRow W p n c ls) (hb : Below W.heap.size W W') : LRow W' p n c ls :=
  ⟨h.len, h.room, h.nil, fun hne => by
    obtain ⟨b, off, hp, hc⟩ := h.cells hne
    exact ⟨b, off, hp, fun i hi => by obtain ⟨q, d, h1, h2⟩ := hc i hi; exact ⟨q, d, below_cell hb h1, h2.below hb⟩⟩⟩
theorem LRow.lens {W : World} {p : Option Addr} {n c : Nat} {ls : List (List CallM)} (h : LRow W p n c ls) : LensAt W (.slice p n c) (ls.map List.length) := by
  refine ⟨p, c, by rw [List.length_map, h.len], fun hne => ?_⟩
  have hne' : ls ≠ [] := by rintro rfl; exact hne rfl
  obtain ⟨b, off, hp, hc⟩ := h.cells hne'
  refine ⟨b, off, hp, fun i hi => ?_⟩
  rw [List.length_map] at hi
  obtain ⟨q, d, h1, _⟩ := hc i hi
  exact ⟨q, d, by rw [List.getElem_map]; exact h1⟩
theorem sumL_tot (ls : List (List CallM)) : sumL (ls.map List.length) = tot ls := by
  suffices ∀ (ls : List (List CallM)) (n : Nat), (ls.map List.length).foldl (· + ·) n = n + tot ls by have := this ls 0; simpa [sumL] using this
  intro ls
  induction ls with
  | nil => intro n; rfl
  | cons l r ih => intro n; simp only [List.map_cons, List.foldl_cons, tot]; rw [ih]; omega
/-- A slice that reads as these ints, no longer than its room. -/
structure RI (w : World) (p : Option Addr) (n c : Nat) (xs : List Int) : Prop where
  nums : NumsAt w .i64 (.slice p n c) xs
  len : n = xs.length
  room : n ≤ c
  nil : p = none → c = 0
theorem RI.below {w w' : World} {p : Option Addr} {n c : Nat} {xs : List Int} (h : RI w p n c xs) (hb : Below w.heap.size w w') : RI w' p n c xs := ⟨nums_below h.nums hb, h.len, h.room, h.nil⟩
/-- A script lies so. -/
def SAt (W : World) (v : Value) (s : SM) : Prop := ∃ p n c q m d, v = .agg #[.int .i64 s.c, .int .i64 s.g, .slice p n c, .slice q m d] ∧ LRow W p n c s.ls ∧ RI W q m d s.ps
theorem SAt.below {W W' : World} {v : Value} {s : SM} (h : SAt W v s) (hb : Below W.heap.size W W') : SAt W' v s := by
  obtain ⟨p, n, c, q, m, d, e, h1, h2⟩ := h
  exact ⟨p, n, c, q, m, d, e, h1.below hb, h2.below hb⟩
theorem okS_iff (s : SM) : scriptB s.c s.g (s.ls.map List.length) s.ps = true ↔ okS s := by
  unfold scriptB okS
  rw [sumL_tot]
  simp only [Bool.and_eq_true, decide_eq_true_eq, Bool.not_eq_true', List.length_map, List.any_eq_false, strangeB, Bool.or_eq_true, not_or, Int.not_lt, Int.not_le]
  constructor
  · rintro ⟨⟨⟨⟨⟨⟨⟨h1, h2⟩, h3⟩, h4⟩, h5⟩, h6⟩, h7⟩, h8⟩; exact ⟨⟨h1, h2⟩, ⟨h3, h4⟩, h5, h6, h7, h8⟩
  · rintro ⟨⟨h1, h2⟩, ⟨h3, h4⟩, h5, h6, h7, h8⟩; exact ⟨⟨⟨⟨⟨⟨⟨h1, h2⟩, h3⟩, h4⟩, h5⟩, h6⟩, h7⟩, h8⟩

theorem u64_info : (Tryd.prog.info? 37).map (fun i => (i.zero, i.size, i.bytes)) = some (some (.int .u64 0), 1, 8) := by kernel_rfl
/-- Words that are put together: the box, and its row in newer memory. -/
def WBox (w : World) (z : Nat) (ws : List Nat) : Prop := ∃ v, Boxed w z 59 v ∧ w.ownsRow (z + 1) 37 1 v ws.length (ws.map nv)
theorem WBox.lt {w : World} {z : Nat} {ws : List Nat} (h : WBox w z ws) : z < w.heap.size := by obtain ⟨v, h, _⟩ := h; exact h.lt
theorem WBox.below {w w' : World} {z : Nat} {ws : List Nat} (h : WBox w z ws) (hb : Below w.heap.size w w') : WBox w' z ws := by
  obtain ⟨v, h1, h2⟩ := h
  exact ⟨v, (hb.block z h1.lt).trans h1, owns_below h2 hb⟩
/-- What stays when words are put: all cells in blocks of other kinds. -/
def Others (z : Nat) (w w' : World) : Prop := ∀ (b : Nat) (c : Array Value) (T : TypeId) (f : Nat × Nat), b ≠ z → T ≠ 37 → w.heap[b]? = some (.cells c T f) → w'.heap[b]? = some (.cells c T f)

set_option maxRecDepth 100000 in
set_option maxHeartbeats 2000000 in
theorem put_c (z : Nat) (ws ys : List Nat) (W : World) (h : WBox W z ws) (a : Addr) (k cap : Nat) (hk : ys.length = k) (hy : ∀ j u, (ys.map nv)[j]? = some u → W.cell? (a.add j) = some u) (hl : ws.length ≤ 1048576) (hk1 : k ≤ 1048576) :
    Calls Tryd.prog 30 #[.pointer (some ⟨z, 0, none⟩), .slice (some a) k cap] W fun e w' => e = .returned (.tuple #[]) ∧ WBox w' z (ws ++ ys) ∧ Below z W w' ∧ Others z W w' ∧ KeepsOthers W w' := by
  obtain ⟨v, hb, ho⟩ := h
  obtain ⟨i0, hi, hz0, hz1, hz2⟩ := info_parts u64_info
  have hbc := hb.cell
  have hbf := hb.frozen
  obtain ⟨n, hn⟩ : ∃ n, n = ws.length := ⟨_, rfl⟩
  rw [← hn] at ho hl
  have HB := Lib.hid hb
  have HO := Lib.hid ho
  have HN := Lib.hid hn
  have HY := Lib.hid hy
  have HYL := Lib.hid (show (ys.map nv).length = k * 1 by rw [List.length_map, hk, Nat.mul_one])
  have HY1 := Lib.hid (show ∀ u ∈ ys.map nv, u.oneCell' = true from fun u hu => by obtain ⟨x, _, rfl⟩ := List.mem_map.1 hu; rfl)
  have HK := Lib.hid hk
  have hzl := hb.lt
  clear hb ho hn hy hk
  go_enter Tryd.func30, Tryd.ntmps30
  go_wp2_with (at_builtin; refine wpList_append_two _ rfl _ _ 59 32 rfl (z + 1) 37 37 i0 (.int .u64 0) 1 8 Tryd.underlying59 Tryd.underlying32 hi hz0 hz1 hz2 rfl (by decide) _ _ _ rfl HO.out a k cap (ys.map nv) rfl HYL.out HY.out HY1.out (by unfold maxLen; omega) (by omega) (by omega) ?_; intro v' w1 hown' hgrow _ _; have hb1 : Boxed w1 z 59 v := HB.out.kept hgrow (HB.out.not_row (by decide) HO.out); obtain ⟨pv, cv, rfl⟩ := owns_slice hown'; have hcb := hb1.cell; have hfb := hb1.frozen)
  have hbs := hb1.set (.slice pv (n + k) cv)
  have hown2 := ownsRow_setCell_below hown' (a := ⟨z, 0, none⟩) (by simp) (.slice pv (n + k) cv)
  have hkind : ∀ (q : Nat) (o : Obj), v.ownBlock = some q → W.heap[q]? = some o → o.isCells = true := by
    intro q o hq ho
    obtain ⟨c, fz, h1⟩ := Lib.ownsRow_kind HO.out q hq
    rw [h1] at ho
    cases ho
    rfl
  have HF := Lib.hid (show WBox (w1.setCell ⟨z, 0, none⟩ (.slice pv (n + k) cv)) z (ws ++ ys) ∧ Below z W (w1.setCell ⟨z, 0, none⟩ (.slice pv (n + k) cv)) ∧ Others z W (w1.setCell ⟨z, 0, none⟩ (.slice pv (n + k) cv)) ∧ KeepsOthers W (w1.setCell ⟨z, 0, none⟩ (.slice pv (n + k) cv)) from by
    refine ⟨⟨_, hbs, ?_⟩, ?_, ?_, (KeepsOthers.of_grownBy hgrow hkind).trans (KeepsOthers.setCell _ _ _)⟩
    · rw [List.length_append, List.map_append, ← HN.out, HK.out]; exact hown2
    · exact ((Below.refl z W).grown hgrow (by omega) (fun r hr => by have := (HO.out.lt r hr).1; omega)).setCell (p := ⟨z, 0, none⟩) (Nat.le_refl _) _
    · intro b c T f hbz hT hc
      have hlt := (Array.getElem?_eq_some_iff.1 hc).1
      rw [Below.heap_setCell _ _ _ _ (by simpa using hbz)]
      refine (hgrow.block b hlt fun e => ?_).trans hc
      obtain ⟨c', f', h1⟩ := Lib.ownsRow_kind HO.out b e.symm
      rw [hc] at h1
      injection h1 with h1
      injection h1 with _ h2
      exact hT h2)
  clear hbs hown2 hkind hown' hgrow hb1 hcb hfb
  go_end0
  exact ⟨rfl, HF.out⟩

end Go.Proofs.YtjgdkfgcfningaaDoor
