/-
  The reader of package script: how it lies in memory; take, next and cpu.
  Conditions: at most 2 to the power 40 words are left; the package's table of parts is as it was laid.
-/
import Derived.Test.YtjgdkfgcfningaaDoorSOf
namespace Go.Proofs.YtjgdkfgcfningaaDoor
open Go.RowKit Go.Shelf
attribute [local go_sem] Oper.semAt_some

/-- The words that are left: they lie in elder memory. -/
structure Left (w : World) (r : Nat) (p : Option Addr) (n d : Nat) (ws : List Nat) : Prop where
  nums : NumsAt w .u64 (.slice p n d) (ws.map Int.ofNat)
  len : n = ws.length
  room : n ≤ d
  old : ws ≠ [] → ∀ a, p = some a → a.block < r
  big : ∀ x ∈ ws, x < 18446744073709551616
theorem Left.keeps {S : Nat → Prop} {w w' : World} {r n d : Nat} {p : Option Addr} {ws : List Nat} (h : Left w r p n d ws) (hk : Keeps S w w') (hS : ∀ k, k < r → ¬ S k) : Left w' r p n d ws := by
  refine ⟨?_, h.len, h.room, h.old, h.big⟩
  by_cases hne : ws = []
  · subst hne
    have := h.len
    simp only [List.length_nil] at this
    subst this
    exact ⟨p, d, rfl, fun h => absurd rfl h⟩
  · exact nums_keeps h.nums hk fun a ha => hS _ (h.old hne a ha)
theorem Left.below {w w' : World} {r n d B : Nat} {p : Option Addr} {ws : List Nat} (h : Left w r p n d ws) (hb : Below B w w') (hB : r ≤ B) : Left w' r p n d ws :=
  h.keeps (S := fun q => B ≤ q) ⟨hb.os, hb.tape, hb.output, hb.size, fun k _ hs => hb.block k (by omega)⟩ fun k hk => by omega
theorem Left.at {w : World} {r n d : Nat} {p : Option Addr} {ws : List Nat} (h : Left w r p n d ws) (hn : 0 < n) : ∃ b off, p = some ⟨b, off, none⟩ ∧ ∀ i (hi : i < ws.length), w.cell? ⟨b, off + i, none⟩ = some (.int .u64 (ws[i] : Int)) := by
  obtain ⟨q, cap, e, hc⟩ := h.nums
  injection e with e1 e2 e3
  subst e1
  obtain ⟨b, off, rfl, hcs⟩ := hc (by
    intro e
    have h1 := h.len
    have h2 : ws.length = 0 := by rw [← List.length_map (f := Int.ofNat), e]; rfl
    omega)
  exact ⟨b, off, rfl, fun i hi => by have := hcs i (by simpa using hi); simpa using this⟩
/-- What is left behind so many words. -/
theorem Left.drop {w : World} {r n d : Nat} {p : Option Addr} {ws : List Nat} (h : Left w r p n d ws) (m : Nat) (hm : m ≤ n) : Left w r (if n = m then p else p.map (·.add m)) (n - m) (n - m) (ws.drop m) := by
  have hl := h.len
  refine ⟨?_, by rw [List.length_drop, hl], Nat.le_refl _, fun hne a ha => ?_, fun x hx => h.big x (List.mem_of_mem_drop hx)⟩
  · by_cases hnm : n = m
    · have : ws.drop m = [] := List.drop_eq_nil_of_le (by omega)
      rw [if_pos hnm, this, show n - m = 0 by omega]
      exact ⟨p, 0, rfl, fun h => absurd rfl h⟩
    · obtain ⟨b, off, rfl, hcs⟩ := h.at (by omega)
      rw [if_neg hnm]
      refine ⟨_, n - m, by rw [List.length_map, List.length_drop, ← hl], fun _ => ⟨b, off + m, by simp [addr_add_off], fun i hi => ?_⟩⟩
      simp only [List.length_map, List.length_drop] at hi
      have := hcs (m + i) (by omega)
      rw [Nat.add_assoc, this]
      simp
  · have hws : ws ≠ [] := by rintro rfl; simp at hne
    by_cases hnm : n = m
    · rw [if_pos hnm] at ha; exact h.old hws a ha
    · rw [if_neg hnm] at ha
      cases p with
      | none => cases ha
      | some b =>
        injection ha with ha
        have := h.old hws b rfl
        rw [← ha]
        show (b.add m).block < r
        unfold Addr.add
        split <;> exact this
/-- What lies in blocks of other kinds than the reader's stays. -/
def Far (T : TypeId) (W W' : World) : Prop := ∀ (b : Nat) (c : Array Value) (f : Nat × Nat), W.heap[b]? = some (.cells c T f) → W'.heap[b]? = some (.cells c T f)
theorem Far.trans {T : TypeId} {A B C : World} (h : Far T A B) (k : Far T B C) : Far T A C := fun b c f hc => k b c f (h b c f hc)
theorem Far.below {T : TypeId} {A B : World} (h : Below A.heap.size A B) : Far T A B := fun b _ _ hc => (h.block b (Array.getElem?_eq_some_iff.1 hc).1).trans hc
theorem Far.keep {T T' : TypeId} {A B : World} {r : Nat} {c : Array Value} {f : Nat × Nat} (h : Keeps (fun q => q = r) A B) (hr : A.heap[r]? = some (.cells c T' f)) (hT : T ≠ T') : Far T A B := fun b _ _ hc => (h.block b (Array.getElem?_eq_some_iff.1 hc).1 (fun e => by
  subst e
  rw [hr] at hc
  injection hc with hc
  injection hc with _ h2
  exact hT h2.symm)).trans hc
theorem Far.grown {T E : TypeId} {A B : World} {n s m : Nat} {v : Value} {xs : List Value} (h : A.grownBy B v.ownBlock) (ho : A.ownsRow n E s v m xs) (hT : T ≠ E) : Far T A B := fun b _ _ hc => (h.block b (Array.getElem?_eq_some_iff.1 hc).1 (fun e => by
  obtain ⟨c', f', h1⟩ := Lib.ownsRow_kind ho b e.symm
  rw [hc] at h1
  injection h1 with h1
  injection h1 with _ h2
  exact hT h2)).trans hc
/-- The reader's variable. -/
def RBox (w : World) (r : Nat) (a b c d e : Value) : Prop := w.heap[r]? = some (.cells #[a, b, c, d, e] 76 (0, 0))
theorem RBox.lt {w : World} {r : Nat} {a b c d e : Value} (h : RBox w r a b c d e) : r < w.heap.size := (Array.getElem?_eq_some_iff.1 h).1
theorem RBox.keeps {S : Nat → Prop} {w w' : World} {r : Nat} {a b c d e : Value} (h : RBox w r a b c d e) (hk : Keeps S w w') (hr : ¬ S r) : RBox w' r a b c d e := (hk.block r h.lt hr).trans h
theorem RBox.below {w w' : World} {r : Nat} {a b c d e : Value} (h : RBox w r a b c d e) (hb : Below w.heap.size w w') : RBox w' r a b c d e := (hb.block r h.lt).trans h
theorem RBox.cells {w : World} {r : Nat} {a b c d e : Value} (h : RBox w r a b c d e) : (w.cell? ⟨r, 0, none⟩ = some a ∧ w.cell? ⟨r, 1, none⟩ = some b ∧ w.cell? ⟨r, 2, none⟩ = some c ∧ w.cell? ⟨r, 3, none⟩ = some d ∧ w.cell? ⟨r, 4, none⟩ = some e) ∧ ∀ i, w.frozen? ⟨r, i, none⟩ = false := by
  have h' : w.heap[r]? = _ := h
  exact ⟨⟨by simp [World.cell?, h'], by simp [World.cell?, h'], by simp [World.cell?, h'], by simp [World.cell?, h'], by simp [World.cell?, h']⟩, fun i => by simp [World.frozen?, h']⟩
theorem RBox.set4 {w : World} {r : Nat} {a b c d e : Value} (h : RBox w r a b c d e) (x : Value) : RBox (w.setCell ⟨r, 4, none⟩ x) r a b c d x := by
  unfold RBox; rw [heap_setCell_same w r 4 _ _ x h]; rfl
theorem RBox.set3 {w : World} {r : Nat} {a b c d e : Value} (h : RBox w r a b c d e) (x : Value) : RBox (w.setCell ⟨r, 3, none⟩ x) r a b c x e := by
  unfold RBox; rw [heap_setCell_same w r 3 _ _ x h]; rfl
theorem RBox.set2 {w : World} {r : Nat} {a b c d e : Value} (h : RBox w r a b c d e) (x : Value) : RBox (w.setCell ⟨r, 2, none⟩ x) r a b x d e := by
  unfold RBox; rw [heap_setCell_same w r 2 _ _ x h]; rfl
theorem RBox.set01 {w : World} {r : Nat} {a b c d e : Value} (h : RBox w r a b c d e) (x y : Value) : RBox ((w.setCell ⟨r, 0, none⟩ x).setCell ⟨r, 1, none⟩ y) r x y c d e := by
  have h1 : RBox (w.setCell ⟨r, 0, none⟩ x) r x b c d e := by unfold RBox; rw [heap_setCell_same w r 0 _ _ x h]; rfl
  unfold RBox; rw [heap_setCell_same _ r 1 _ _ y h1]; rfl

theorem words_size (w : World) : (sizeOf (Tryd.prog.elem 32)).run Tryd.prog w = .ok 1 w := by go_simp
set_option maxRecDepth 100000 in
theorem words_cut (q : Option Addr) (n c m : Nat) (hm : m ≤ c) (w : World) : (Instr.slice 32 (.slice q n c) none (some (.int .i64 (m : Int))) (some (.int .i64 (m : Int)))).run Tryd.prog w = .ok (.slice q m m) w := by
  have := run_slice_hm (P := Tryd.prog) w 32 q n c Tryd.underlying32 .i64 .i64 (m : Int) (m : Int) (by omega) (by omega) (by omega)
  rw [this]
  have : Option.map (fun x : Addr => x.add 0) q = q := by cases q <;> simp [Addr.add_zero']
  simp [sliced, Result.andThen, words_size, this]
set_option maxRecDepth 100000 in
theorem words_rest (q : Option Addr) (n c m : Nat) (hm : m ≤ n) (hn : n ≤ c) (w : World) : (Instr.slice 32 (.slice q n c) (some (.int .i64 (m : Int))) (some (.int .i64 (n : Int))) (some (.int .i64 (n : Int)))).run Tryd.prog w = .ok (.slice (if n = m then q else q.map (·.add m)) (n - m) (n - m)) w := by
  have := run_slice_lhm (P := Tryd.prog) w 32 q n c Tryd.underlying32 .i64 .i64 .i64 (m : Int) (n : Int) (n : Int) (by omega) (by omega) (by omega) (by omega)
  rw [this]
  simp [sliced, Result.andThen, words_size]

/-- What take answers, and leaves. -/
def TakePost (r m n : Nat) (p : Option Addr) (d : Nat) (a b c v : Value) (W : World) (e : Ending) (w' : World) : Prop :=
  e = .returned (.slice p m m) ∧ RBox w' r a b c v (.slice (if n = m then p else p.map (·.add m)) (n - m) (n - m)) ∧ Keeps (fun q => q = r) W w' ∧ Below r W w' ∧ d = d

set_option maxRecDepth 100000 in
set_option maxHeartbeats 2000000 in
theorem take_c (r m n d : Nat) (p : Option Addr) (a b c v : Value) (W : World) (h : RBox W r a b c v (.slice p n d)) (hm : m ≤ n) (hn : n ≤ d) :
    Calls Tryd.prog 50 #[.pointer (some ⟨r, 0, none⟩), .int .i64 (m : Int)] W fun e w' => TakePost r m n p d a b c v W e w' := by
  obtain ⟨⟨h0, h1, h2, h3, h4⟩, hf⟩ := h.cells
  have hf4 := hf 4
  have hr1 := words_rest p n d m hm hn
  have hr2 := words_cut p n d m (by omega)
  obtain ⟨p2, hp2⟩ : ∃ x, x = (if n = m then p else p.map (·.add m)) := ⟨_, rfl⟩
  rw [← hp2] at hr1
  have HP2 := Lib.hid hp2
  have H := Lib.hid h
  clear h hf hp2 h0 h1 h2 h3
  go_enter Tryd.func50, Tryd.ntmps50
  go_wp2
  go_quiet (fail)
  go_wp2
  go_ret
  have hB := H.out.set4 (.slice p2 (n - m) (n - m))
  have hk : Keeps (fun q => q = r) W ((W.drewN nq).setCell ⟨r, 4, none⟩ (.slice p2 (n - m) (n - m))) := ((Keeps.refl (fun q => q = r) W).drewN nq).trans (Keeps.setCell _ (S := fun q => q = r) (p := ⟨r, 4, none⟩) rfl _)
  refine ⟨rfl, ?_, ?_, ?_, rfl⟩
  · rw [← HP2.out]; exact hB
  · exact hk
  · exact hk.below (Nat.le_of_lt H.out.lt) (fun q hq => Nat.le_of_eq hq.symm)

set_option maxRecDepth 100000 in
set_option maxHeartbeats 2000000 in
theorem next_no (r d : Nat) (p : Option Addr) (a b c v : Value) (W : World) (h : RBox W r a b c v (.slice p 0 d)) :
    Calls Tryd.prog 37 #[.pointer (some ⟨r, 0, none⟩)] W fun e w' => e = .returned (.tuple #[.int .u64 0, .bool false]) ∧ w' = W := by
  obtain ⟨⟨h0, h1, h2, h3, h4⟩, hf⟩ := h.cells
  clear h hf h0 h1 h2 h3
  go_enter Tryd.func37, Tryd.ntmps37
  go_wp2
  go_ret2
  exact ⟨rfl, rfl⟩

set_option maxRecDepth 100000 in
set_option maxHeartbeats 2000000 in
theorem next_yes (r n d x : Nat) (p : Option Addr) (ws : List Nat) (a b c v : Value) (W : World) (h : RBox W r a b c v (.slice p n d)) (hL : Left W r p n d (x :: ws)) :
    Calls Tryd.prog 37 #[.pointer (some ⟨r, 0, none⟩)] W fun e w' => e = .returned (.tuple #[.int .u64 (x : Int), .bool true]) ∧ (∃ p', RBox w' r a b c v (.slice p' (n - 1) (n - 1)) ∧ Left w' r p' (n - 1) (n - 1) ws) ∧ Keeps (fun q => q = r) W w' ∧ Below r W w' := by
  obtain ⟨⟨h0, h1, h2, h3, h4⟩, hf⟩ := h.cells
  have hlen := hL.len
  simp only [List.length_cons] at hlen
  have HT := Lib.hid (take_c r 1 n d p a b c v W h (by omega) hL.room)
  obtain ⟨bb, off, rfl, hcs⟩ := hL.at (by omega)
  have hx := hcs 0 (by simp)
  simp only [List.getElem_cons_zero, Nat.add_zero] at hx
  have hbr : bb < r := hL.old (by simp) _ rfl
  have hD := hL.drop 1 (by omega)
  simp only [List.drop_succ_cons, List.drop_zero] at hD
  have HD := Lib.hid hD
  have hn0 : ((n : Int) == 0) = false := by rw [beq_eq_false_iff_ne]; omega
  clear h hf h0 h1 h2 h3 hcs hD hL hlen
  go_enter Tryd.func37, Tryd.ntmps37
  go_wp2_with fail
  refine HT.out.mono ?_
  rintro e w1 ⟨rfl, hb, hk, hB, -⟩
  have hx1 := hk.cell hx (by show ¬ bb = r; omega)
  have HF := Lib.hid (And.intro hb (And.intro (HD.out.keeps hk (fun k hk' e => by omega)) (And.intro hk hB)))
  clear hb hk hB HT
  go_wp2
  go_ret2
  exact ⟨rfl, ⟨_, HF.out.1, HF.out.2.1⟩, HF.out.2.2⟩

set_option maxRecDepth 100000 in
set_option maxHeartbeats 2000000 in
theorem cpu_c (r w c : Nat) (hw : w < 18446744073709551616) (hc1 : 1 ≤ c) (hc8 : c ≤ 8) (b x v y : Value) (W : World) (h : RBox W r (.int .i64 (c : Int)) b x v y) (ht : Tab W) :
    Calls Tryd.prog 51 #[.pointer (some ⟨r, 0, none⟩), .int .u64 (w : Int)] W fun e w' => e = .returned (.int .i64 (cpuOf c w : Nat)) ∧ Below W.heap.size W w' := by
  obtain ⟨⟨h0, h1, h2, h3, h4⟩, hf⟩ := h.cells
  have hlt : r < W.heap.size := h.lt
  have hg := getN_small w (i := 3) (by omega)
  have HC := Lib.hid (fun W' (hb : Below W.heap.size W W') => part_c w hw 3 (by omega) W' (ht.below hb))
  have HG := Lib.hid (show cpuOf c w = getN w (partAt 3) (partW 3) % c from rfl)
  obtain ⟨g, hge⟩ : ∃ g, g = getN w (partAt 3) (partW 3) := ⟨_, rfl⟩
  rw [← hge] at hg
  have HC2 := Lib.hid (show ∀ W', Below W.heap.size W W' → Calls Tryd.prog 38 #[.int .u64 w, .int .i64 ((3 : Nat) : Int)] W' fun e w' => e = .returned (.int .i64 (g : Nat)) ∧ Below W'.heap.size W' w' from by rw [hge]; exact HC.out)
  rw [← hge] at HG
  have hc0 : ((c : Int) == 0) = false := by rw [beq_eq_false_iff_ne]; omega
  have hrem : (g : Int).tmod (c : Int) = ((g % c : Nat) : Int) := by rw [Int.tmod_eq_emod_of_nonneg (by omega)]; simp
  have hrem2 : (g : Int) % (c : Int) = ((g % c : Nat) : Int) := by simp
  have hml : g % c < c := Nat.mod_lt _ (by omega)
  rw [HG.out]
  obtain ⟨k, hke⟩ : ∃ k, k = g % c := ⟨_, rfl⟩
  rw [← hke] at hrem hrem2 hml ⊢
  clear h hf h1 h2 h3 h4 hge hke HC HG ht
  go_enter Tryd.func51, Tryd.ntmps51
  go_upto_region 1 with (fail)
  refine wpTwo_begin (T := fun w' => w'.cell? ⟨r, 0, none⟩ = some (.int .i64 (c : Int))) (S := fun _ => True) (late := fun _ => false) (by kernel_rfl) ?_
  have h0d : W.drew.cell? ⟨r, 0, none⟩ = some (.int .i64 (c : Int)) := h0
  have hbd : Below W.heap.size W W.drew := (Below.refl _ _).drew
  obtain ⟨X0, hX0⟩ : ∃ X : World, X = W.drew := ⟨_, rfl⟩
  rw [← hX0] at h0d hbd ⊢
  clear hX0
  refine wpTwo_takeT (i := 0) (v := .int .u64 (w : Int)) rfl (by kernel_rfl) (by kernel_rfl) (by kernel_rfl) (fun _ _ _ h => h) ⟨by rfl, ?_⟩ h0d ?_
  · intro w _
    go_simp
  (try simp only [Act.put, List.getElem_toArray, List.getElem_cons_zero, List.setIfInBounds_toArray, List.set_cons_succ, List.set_cons_zero])
  refine wpTwo_takeT (i := 2) (v := .pointer (some ⟨r, 0, none⟩)) rfl (by kernel_rfl) (by kernel_rfl) (by kernel_rfl) (fun _ _ _ h => h) ⟨by rfl, ?_⟩ h0d ?_
  · intro w _
    go_simp
  (try simp only [Act.put, List.getElem_toArray, List.getElem_cons_succ, List.getElem_cons_zero, List.setIfInBounds_toArray, List.set_cons_succ, List.set_cons_zero])
  refine wpTwo_takeT (i := 3) (v := .pointer (some ⟨r, 0, none⟩)) rfl (by kernel_rfl) (by kernel_rfl) (by kernel_rfl) (fun _ _ _ h => h) ⟨by rfl, ?_⟩ h0d ?_
  · intro w _
    go_simp
  (try simp only [Act.put, List.getElem_toArray, List.getElem_cons_succ, List.getElem_cons_zero, List.setIfInBounds_toArray, List.set_cons_succ, List.set_cons_zero])
  refine wpTwo_takeT (i := 4) (v := .pointer (some ⟨r, 0, none⟩)) rfl (by kernel_rfl) (by kernel_rfl) (by kernel_rfl) (fun _ _ _ h => h) ⟨by rfl, ?_⟩ h0d ?_
  · intro w _
    go_simp
  (try simp only [Act.put, List.getElem_toArray, List.getElem_cons_succ, List.getElem_cons_zero, List.setIfInBounds_toArray, List.set_cons_succ, List.set_cons_zero])
  refine wpTwo_takeT (i := 5) (v := .pointer (some ⟨r, 0, none⟩)) rfl (by kernel_rfl) (by kernel_rfl) (by kernel_rfl) (fun _ _ _ h => h) ⟨by rfl, ?_⟩ h0d ?_
  · intro w _
    go_simp
  (try simp only [Act.put, List.getElem_toArray, List.getElem_cons_succ, List.getElem_cons_zero, List.setIfInBounds_toArray, List.set_cons_succ, List.set_cons_zero])
  refine wpTwo_takeT (i := 6) (v := .int .i64 (c : Int)) rfl (by kernel_rfl) (by kernel_rfl) (by kernel_rfl) (fun _ _ _ h => h) ⟨by rfl, ?_⟩ h0d ?_
  · intro w hTw
    go_simp
  (try simp only [Act.put, List.getElem_toArray, List.getElem_cons_succ, List.getElem_cons_zero, List.setIfInBounds_toArray, List.set_cons_succ, List.set_cons_zero])
  refine wpTwo_ready (rs := [1]) (by kernel_rfl) (by simp) ?_
  refine (AllTwo.cons rfl (fun K hK => ?_) AllTwo.nil)
  go_simp
  refine (HC2.out _ hbd).mono ?_
  rintro e X1 ⟨rfl, hb1⟩
  have h1d := below_cell hb1 h0d
  have hB1 := below_then hbd hbd.size hb1
  go_wp2_with fail
  refine hK.out _ _ ⟨h1d, fun _ _ => trivial⟩ ?_
  clear hK K h0d hb1 hbd
  (try simp only [Act.put, List.getElem_toArray, List.getElem_cons_succ, List.getElem_cons_zero, List.setIfInBounds_toArray, List.set_cons_succ, List.set_cons_zero])
  refine wpTwo_ready (rs := [7]) (by kernel_rfl) (by simp) ?_
  refine (AllTwo.cons rfl (fun K hK => ?_) AllTwo.nil)
  have hc00 : ¬ c = 0 := by omega
  go_simp
  refine hK.out _ _ ⟨h1d, fun _ _ => trivial⟩ ?_
  clear hK K
  (try simp only [Act.put, List.getElem_toArray, List.getElem_cons_succ, List.getElem_cons_zero, List.setIfInBounds_toArray, List.set_cons_succ, List.set_cons_zero])
  refine wpTwo_ready (rs := [8]) (by kernel_rfl) (by simp) ?_
  refine (AllTwo.cons rfl (fun K hK => ?_) AllTwo.nil)
  go_simp
  refine hK.out _ _ ⟨h1d, fun _ _ => trivial⟩ ?_
  clear hK K
  (try simp only [Act.put, List.getElem_toArray, List.getElem_cons_succ, List.getElem_cons_zero, List.setIfInBounds_toArray, List.set_cons_succ, List.set_cons_zero])
  refine wpTwo_end (by kernel_rfl) ?_ _
  go_wp2
  go_ret
  exact ⟨rfl, hB1⟩

end Go.Proofs.YtjgdkfgcfningaaDoor
