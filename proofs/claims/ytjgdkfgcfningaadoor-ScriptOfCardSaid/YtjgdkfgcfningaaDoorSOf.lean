/-
  Of, of package script: the words of a script.
  Conditions: the script lies so, its rows at most 2 to the power 20 long; the package's table of parts is as it was laid.
-/
import Derived.Test.YtjgdkfgcfningaaDoorSRep
namespace Go.Proofs.YtjgdkfgcfningaaDoor
open Go.RowKit Go.Shelf
attribute [local go_sem] Oper.semAt_some

theorem word_first (c g : Nat) : wordN [(0, c), (1, g)] = (if c < 256 then c + 256 * g else wordN [(0, c), (1, g)]) := by
  split
  · next h =>
    unfold wordN setH
    simp only [List.foldl_cons, List.foldl_nil, partAt, partW, List.getD_cons_zero, List.getD_cons_succ]
    unfold setN
    simp
    omega
  · rfl
theorem word_call (i : Nat) : wordN [(2, 1), (3, i)] = 1 + 256 * i := by
  unfold wordN setH
  simp only [List.foldl_cons, List.foldl_nil, partAt, partW, List.getD_cons_zero, List.getD_cons_succ]
  unfold setN
  simp
  omega
theorem word_run (r m : Nat) (hr : r < 8) : wordN [(2, 2), (3, r), (4, m)] = 2 + 256 * r + 65536 * m := by
  unfold wordN setH
  simp only [List.foldl_cons, List.foldl_nil, partAt, partW, List.getD_cons_zero, List.getD_cons_succ]
  unfold setN
  simp
  omega
/-- What Of answers. -/
def OfPost (B : Nat) (s : SM) (ok : Bool) (e : Ending) (w' : World) : Prop :=
  if ok then ∃ p c, e = .returned (.tuple #[.slice p (wordsL s).length c, .int .i64 0]) ∧ w'.ownsRow B 37 1 (.slice p (wordsL s).length c) (wordsL s).length ((wordsL s).map nv)
  else e = .returned (.tuple #[.slice none 0 0, .int .i64 130])
theorem listsW_snoc : ∀ (A : List (List CallM)) (l : List CallM) (k : Nat), listsW k (A ++ [l]) = listsW k A ++ rowW (k + A.length) l
  | [], l, k => by simp [listsW]
  | x :: A, l, k => by simp only [List.cons_append, listsW, listsW_snoc A l (k + 1), List.length_cons, List.append_assoc]; rw [show k + 1 + A.length = k + (A.length + 1) by omega]
theorem rowW_snoc (k : Nat) (l : List CallM) (x : CallM) : rowW k (l ++ [x]) = rowW k l ++ callW k x := by simp [rowW]
theorem rowW_length (k : Nat) : ∀ l : List CallM, (rowW k l).length = 6 * l.length
  | [] => rfl
  | x :: r => by have := rowW_length k r; simp only [rowW, List.map_cons, List.flatten_cons, List.length_append, List.length_cons] at this ⊢; rw [this]; simp [callW]; omega
theorem listsW_length : ∀ (A : List (List CallM)) (k : Nat), (listsW k A).length = 6 * tot A
  | [], _ => rfl
  | l :: A, k => by simp only [listsW, List.length_append, tot, rowW_length, listsW_length A]; omega
theorem tot_take (A : List (List CallM)) (i : Nat) : tot (A.take i) ≤ tot A := by
  have := tot_append (A.take i) (A.drop i)
  rw [List.take_append_drop] at this
  omega
theorem len_tot (A : List (List CallM)) (i : Nat) (h : i < A.length) : A[i].length ≤ tot A := by
  induction A generalizing i with
  | nil => cases h
  | cons l A ih =>
    cases i with
    | zero => simp [tot]
    | succ i => have := ih i (by simpa using h); simp only [List.getElem_cons_succ, tot]; omega

theorem news_words {w w5 : World} {cs : Array Value} {T : TypeId} (ys : List Nat) (h : w5 = w.alloc (.cells cs T)) (hc : cs = (ys.map nv).toArray) : ∀ j u, (ys.map nv)[j]? = some u → w5.cell? ((⟨w.heap.size, 0, none⟩ : Addr).add j) = some u := by
  subst h hc
  exact World.news_of_block (World.alloc_heap_new _ _)
/-- A call lies in a block of its own. -/
def CallBox (w : World) (y : Nat) (x : CallM) : Prop := w.heap[y]? = some (.cells #[.int .u64 (x.k : Int), .int .u64 (x.a0 : Int), .int .u64 (x.a1 : Int), .int .u64 (x.a2 : Int), .int .u64 (x.a3 : Int)] 53 (0, 0))
theorem CallBox.lt {w : World} {y : Nat} {x : CallM} (h : CallBox w y x) : y < w.heap.size := (Array.getElem?_eq_some_iff.1 h).1
theorem CallBox.below {w w' : World} {y : Nat} {x : CallM} (h : CallBox w y x) (hb : Below w.heap.size w w') : CallBox w' y x := (hb.block y h.lt).trans h
theorem CallBox.c0 {w : World} {y : Nat} {x : CallM} (h : CallBox w y x) : w.cell? ⟨y, 0, none⟩ = some (.int .u64 (x.k : Int)) := by simp [World.cell?, show w.heap[y]? = _ from h]
theorem CallBox.args {w : World} {y : Nat} {x : CallM} (h : CallBox w y x) : ∀ j u, ([x.a0, x.a1, x.a2, x.a3].map nv)[j]? = some u → w.cell? ((⟨y, 1, none⟩ : Addr).add j) = some u := by
  intro j u hj
  rw [addr_add_off]
  match j, hj with
  | 0, hj => simp [nv] at hj; subst hj; simp [World.cell?, show w.heap[y]? = _ from h]
  | 1, hj => simp [nv] at hj; subst hj; simp [World.cell?, show w.heap[y]? = _ from h]
  | 2, hj => simp [nv] at hj; subst hj; simp [World.cell?, show w.heap[y]? = _ from h]
  | 3, hj => simp [nv] at hj; subst hj; simp [World.cell?, show w.heap[y]? = _ from h]
  | j + 4, hj => simp at hj
/-- A word on what stands behind a piece of code, that says no to a panic. -/
def Calm (Q : Exit → Act → World → Prop) : Exit → Act → World → Prop
  | .panic _, _, _ => False
  | .outgrown, _, _ => False
  | .normal, a, w => Q .normal a w
  | .exit i, a, w => Q (.exit i) a w
  | .goto i, a, w => Q (.goto i) a w
  | .ret, a, w => Q .ret a w
theorem wp_calm {P : Program} {c : Code} {Q : Exit → Act → World → Prop} {a : Act} {w : World} (h : c.wp P (Calm Q) a w) : c.wp P Q a w :=
  wp_mono h fun e _ _ hh => by cases e <;> first | exact hh | exact hh.elim
theorem KeepsOthers.of_below {W W' : World} (h : Below W.heap.size W W') : KeepsOthers W W' := ⟨h.size, fun k _ hk _ => (h.block k (Array.getElem?_eq_some_iff.1 hk).1).trans hk⟩
theorem cell_of_heap {X Y : World} {b o : Nat} {v : Value} (h : Y.heap[b]? = X.heap[b]?) (hc : X.cell? ⟨b, o, none⟩ = some v) : Y.cell? ⟨b, o, none⟩ = some v := by
  rw [← hc]; exact World.cell?_of_block (w := X) h
theorem rf_frame {F : Fence} {n : Nat} {P : Program} {c : Code} {Q : Exit → Act → World → Prop} {tmps : Array Value} {defers : List Deferred} {w : World} (h : ∀ T, T = tmps → c.wpIn F n P Q { tmps := tmps, defers := defers } w) : c.wpIn F n P Q { tmps := tmps, defers := defers } w := h tmps rfl

set_option maxRecDepth 100000 in
set_option maxHeartbeats 4000000 in
theorem of_no (v : Value) (s : SM) (W : World) (hs : SAt W v s) (hl : s.ls.length ≤ 1048576) (hll : ∀ n ∈ s.ls.map List.length, n ≤ 1099511627776) (hp : s.ps.length ≤ 1099511627776) (hok : scriptB s.c s.g (s.ls.map List.length) s.ps = false) :
    Calls Tryd.prog 14 #[v] W fun e w' => OfPost W.heap.size s false e w' ∧ Below W.heap.size W w' := by
  obtain ⟨p, n, c, q, m, d, rfl, h1, h2⟩ := hs
  have hB : Below W.heap.size W (W.alloc (.cells #[.int .i64 s.c, .int .i64 s.g, .slice p n c, .slice q m d] 25)) := (Below.refl _ _).alloc (Nat.le_refl _) _
  have HCK := check3_c s.c s.g _ _ _ _ _ ((h1.below hB).lens) (h2.below hB).nums (by simpa using hl) hll hp
  rw [hok] at HCK
  clear h1 h2
  go_enter Tryd.func14, Tryd.ntmps14
  go_wp2_with fail
  refine HCK.mono ?_
  rintro e w1 ⟨rfl, hb1⟩
  clear HCK
  simp only [Bool.false_eq_true, if_false]
  have hBF := below_then hB hB.size hb1
  go_wp2
  go_ret2
  exact ⟨rfl, hBF⟩

set_option maxRecDepth 100000 in
set_option maxHeartbeats 4000000 in
theorem of_yes (v : Value) (s : SM) (W : World) (hs : SAt W v s) (ht : Tab W) (hok : okS s) :
    Calls Tryd.prog 14 #[v] W fun e w' => OfPost W.heap.size s true e w' ∧ Below W.heap.size W w' := by
  have HOK := Lib.hid hok
  obtain ⟨⟨hc1, hc8⟩, ⟨hg1, hg64⟩, hlc, htot, hpl, hall⟩ := hok
  obtain ⟨c, g, ls, ps⟩ := s
  simp only at hc1 hc8 hg1 hg64 hlc htot hpl hall
  obtain ⟨c, rfl⟩ := Int.eq_ofNat_of_zero_le (show 0 ≤ c by omega)
  obtain ⟨g, rfl⟩ := Int.eq_ofNat_of_zero_le (show 0 ≤ g by omega)
  obtain ⟨p, n, cp, q, m, d, rfl, h1, h2⟩ := hs
  simp only at h1 h2
  have hB : Below W.heap.size W (W.alloc (.cells #[.int .i64 (c : Int), .int .i64 (g : Int), .slice p n cp, .slice q m d] 25)) := (Below.refl _ _).alloc (Nat.le_refl _) _
  have HLL := Lib.hid (show ∀ n ∈ ls.map List.length, n ≤ 1099511627776 from fun n hn => by
    obtain ⟨l, hl, rfl⟩ := List.mem_map.1 hn
    obtain ⟨i, hi, rfl⟩ := List.getElem_of_mem hl
    have := len_tot ls i hi
    omega)
  have HCK := check3_c (c : Int) (g : Int) _ _ _ _ _ ((h1.below hB).lens) (h2.below hB).nums (by simp; omega) HLL.out (by omega)
  rw [(okS_iff ⟨(c : Int), (g : Int), ls, ps⟩).2 HOK.out] at HCK
  have HL := Lib.hid h1
  have HP := Lib.hid h2
  have HT := Lib.hid ht
  have HALL := Lib.hid hall
  have HNL := Lib.hid h1.len
  have HML := Lib.hid h2.len
  clear h1 h2 ht hall
  refine (callsIn_wide (n := 9)).1 ?_
  refine callsIn_of_wp_marks Tryd.func14 rfl trivial ?_ rfl
  simp only [Tryd.ntmps14, List.size_toArray, List.length_cons, List.length_nil, Nat.reduceAdd, Nat.reduceSub, Array.replicate_succ, Array.replicate_zero, List.push_toArray, List.append_toArray, List.nil_append, List.cons_append]
  refine wpIn_wide.2 (wp_calm ?_)
  go_wp2_with fail
  refine HCK.mono ?_
  rintro e w1 ⟨rfl, hb1⟩
  clear HCK
  simp only [if_true]
  obtain ⟨y, hy⟩ : ∃ y, y = W.heap.size := ⟨_, rfl⟩
  rw [← hy]
  have hs0 : w1.cell? ⟨y, 0, none⟩ = some (.int .i64 (c : Int)) := by rw [hy]; exact below_cell hb1 (by simp)
  have hs1 : w1.cell? ⟨y, 1, none⟩ = some (.int .i64 (g : Int)) := by rw [hy]; exact below_cell hb1 (by simp)
  have hs2 : w1.cell? ⟨y, 2, none⟩ = some (.slice p n cp) := by rw [hy]; exact below_cell hb1 (by simp)
  have hs3 : w1.cell? ⟨y, 3, none⟩ = some (.slice q m d) := by rw [hy]; exact below_cell hb1 (by simp)
  have hB1 : Below y W w1 := by rw [hy]; exact below_then hB hB.size hb1
  have hyl : y < w1.heap.size := World.block_lt_of_cell? _ _ hs0
  clear hb1 hB
  obtain ⟨z, hz⟩ : ∃ z, z = w1.heap.size := ⟨_, rfl⟩
  obtain ⟨w2, hw2⟩ : ∃ w2 : World, w2 = w1.alloc (.cells #[.slice none 0 0] 59) := ⟨_, rfl⟩
  have hWB2 : WBox w2 z [] := ⟨_, by rw [hw2, hz]; exact Boxed.new _ _ _, World.ownsRow_nil _ _ _ _⟩
  have hb2 : Below z w1 w2 := by rw [hw2, hz]; exact (Below.refl _ _).alloc (Nat.le_refl _) _
  have hz2 : w2.heap.size = z + 1 := by rw [hw2, hz]; simp
  obtain ⟨w3, hw3⟩ : ∃ w3 : World, w3 = w2.alloc (.cells #[.int .i64 0, .int .i64 ((c : Int) - 1), .int .i64 1, .int .i64 ((g : Int) - 1)] 63) := ⟨_, rfl⟩
  have hb3 : Below w2.heap.size w2 w3 := by rw [hw3]; exact (Below.refl _ _).alloc (Nat.le_refl _) _
  have hWB3 := hWB2.below hb3
  have hB3 : Below z w1 w3 := hb2.trans (hb3.mono (by omega))
  have hyW : W.heap.size = y := hy.symm
  have hTW1 : Tab w1 := by
    have := hB1
    rw [← hyW] at this
    exact HT.out.below this
  have hzW : W.heap.size ≤ z := by rw [hz, hyW]; omega
  have hTW3 : Tab w3 := by rw [hz] at hB3; exact hTW1.below hB3
  have hwf : wordN [(0, c - 1), (1, g - 1)] = firstN ⟨(c : Int), (g : Int), ls, ps⟩ := by rw [word_first, if_pos (by omega)]; simp [firstN]
  have HW1 := word_c (.slice (some ⟨z + 1, 0, none⟩) 2 2) [(0, c - 1), (1, g - 1)] w3 ⟨_, _, rfl, fun _ => ⟨z + 1, 0, rfl, fun i hi => by
    have e1 : ((c : Int) - 1) = ((c - 1 : Nat) : Int) := by omega
    have e2 : ((g : Int) - 1) = ((g - 1 : Nat) : Int) := by omega
    rw [hw3, ← hz2, e1, e2]
    match i, hi with
    | 0, _ => exact ⟨by simp, by simp⟩
    | 1, _ => exact ⟨by simp, by simp⟩⟩⟩ (by simp) hTW3 (by
      intro h hh
      simp only [List.mem_cons, List.not_mem_nil, or_false] at hh
      rcases hh with rfl | rfl
      · exact ⟨by simp, by simp [partW]; omega⟩
      · exact ⟨by simp, by simp [partW]; omega⟩)
  rw [hwf] at HW1
  obtain ⟨f, hf⟩ : ∃ f, f = firstN ⟨(c : Int), (g : Int), ls, ps⟩ := ⟨_, rfl⟩
  rw [← hf] at HW1
  have HF := Lib.hid hf
  have HL1 := Lib.hid (show LRow w1 p n cp ls from HL.out.below (by have := hB1; rw [← hyW] at this; exact this))
  have HP1 := Lib.hid (show RI w1 q m d ps from HP.out.below (by have := hB1; rw [← hyW] at this; exact this))
  have HWW3 := Lib.hid (And.intro hWB3 hB3)
  have HHW2 := Lib.hid hw2
  have HHW3 := Lib.hid hw3
  have HZ := Lib.hid hz
  have HYW := Lib.hid hyW
  clear hwf hf hWB2 hb2 hb3 hWB3 hB3 hTW3 hw2 hw3 hz hy hyW
  go_wp2_with fail
  rw [← HZ.out, ← HHW2.out, ← HHW3.out]
  refine HW1.mono ?_
  rintro e w4 ⟨rfl, hb4⟩
  have hWB4 := HWW3.out.1.below hb4
  have hB4 : Below z w1 w4 := HWW3.out.2.trans (hb4.mono (Nat.le_of_lt HWW3.out.1.lt))
  obtain ⟨w5, hw5⟩ : ∃ w5 : World, w5 = w4.alloc (.cells #[.int .u64 (f : Int)] 37) := ⟨_, rfl⟩
  have hb5 : Below w4.heap.size w4 w5 := by rw [hw5]; exact (Below.refl _ _).alloc (Nat.le_refl _) _
  have HPU := put_c z [] [f] w5 (hWB4.below hb5) ⟨w4.heap.size, 0, none⟩ 1 1 rfl (news_words [f] hw5 rfl) (by simp) (by omega)
  have hB5 : Below z w1 w5 := hB4.trans (hb5.mono (Nat.le_of_lt hWB4.lt))
  have HW5 := Lib.hid hw5
  have HB5 := Lib.hid hB5
  clear HW1 hb4 hWB4 hB4 hw5 hb5 hB5 HHW2 HHW3 HWW3 hz2
  go_wp2_with fail
  rw [← HW5.out]
  refine HPU.mono ?_
  rintro e w6 ⟨rfl, hWB6, hb6, -, -⟩
  rw [List.nil_append] at hWB6
  have hB6 := HB5.out.trans hb6
  have hq2 := (hB6.cell (show y < z by rw [HZ.out]; exact hyl)).trans hs2
  have HWB := Lib.hid (And.intro hWB6 hB6)
  clear HPU HW5 HB5 hWB6 hb6 hB6
  go_wp2
  go_loopw [31] (fun iv wr => ∃ i : Nat, i ≤ n ∧ iv = .int .i64 i ∧ Hid (WBox wr z (f :: listsW 0 (ls.take i)) ∧ Below z w1 wr)) (fun iv _ => n - (intOf iv).toNat)
  case atStart => exact ⟨0, Nat.zero_le _, rfl, HWB⟩
  case round =>
    clear HWB hq2
    obtain ⟨i, hi, rfl, HWB⟩ := hrel
    by_cases hlt : i < n
    · have hil : i < ls.length := by have := HNL.out; omega
      obtain ⟨b, off, rfl, hcs⟩ := HL1.out.cells (by intro e; rw [e] at hil; cases hil)
      obtain ⟨q2, d2, hx1, hV1⟩ := hcs i hil
      have hBz : Below w1.heap.size w1 wr := by rw [← HZ.out]; exact HWB.out.2
      have hx := below_cell hBz hx1
      obtain ⟨L, hLe⟩ : ∃ L, L = ls[i] := ⟨_, rfl⟩
      rw [← hLe] at hx hV1
      have HLE := Lib.hid hLe
      have hLt : L.length ≤ 64 := by rw [hLe]; have := len_tot ls i hil; omega
      obtain ⟨M, hM⟩ : ∃ M, M = L.length := ⟨_, rfl⟩
      rw [← hM] at hx hV1 hLt
      have HM := Lib.hid hM
      have HV1 := Lib.hid hV1
      have hlen0 : (listsW 0 (ls.take i)).length ≤ 384 := by rw [listsW_length]; have := tot_take ls i; omega
      have HLEN := Lib.hid hlen0
      have hi8 : i < 8 := by have := HNL.out; omega
      clear hcs hx1 hBz hLe hM hV1 hlen0
      go_upto_region 9 with (fail)
      go_wp2_with (fail)
      go_loopw [38] (fun kv wr => ∃ k : Nat, k ≤ M ∧ kv = .int .i64 k ∧ Hid (WBox wr z (f :: (listsW 0 (ls.take i) ++ rowW i (L.take k))) ∧ Below z w1 wr)) (fun kv _ => M - (intOf kv).toNat)
      case atStart => exact ⟨0, Nat.zero_le _, rfl, Lib.hid (by have := HWB.out; simpa [rowW] using this)⟩
      case round =>
        clear HWB hx
        obtain ⟨k, hk, rfl, HWB⟩ := hrel
        by_cases hkt : k < M
        · have hkl : k < L.length := by have := HM.out; omega
          obtain ⟨b2, off2, rfl, hc2⟩ := HV1.out.cells (by intro e; have := cellsC_length L; rw [e] at this; simp at this; omega)
          have hBz : Below w1.heap.size w1 wr := by rw [← HZ.out]; exact HWB.out.2
          obtain ⟨x, hxe⟩ : ∃ x, x = L[k] := ⟨_, rfl⟩
          have hcell : ∀ j, j < 5 → ∀ u, (cells5 x)[j]? = some u → wr.cell? ⟨b2, off2 + k * 5 + j, none⟩ = some u := fun j hj u hu => by
            have h1 := cellsC_get L k hkl j hj
            rw [← hxe, hu] at h1
            obtain ⟨h2, h3⟩ := List.getElem?_eq_some_iff.1 h1
            have h4 := below_cell hBz (hc2 (k * 5 + j) h2)
            rw [h3] at h4
            rw [Nat.add_assoc]; exact h4
          have hv0 : wr.cell? ⟨b2, off2 + k * 5, none⟩ = some (.int .u64 (x.k : Int)) := hcell 0 (by decide) _ rfl
          have hv1 : wr.cell? ⟨b2, off2 + k * 5 + 1, none⟩ = some (.int .u64 (x.a0 : Int)) := hcell 1 (by decide) _ rfl
          have hv2 : wr.cell? ⟨b2, off2 + k * 5 + 2, none⟩ = some (.int .u64 (x.a1 : Int)) := hcell 2 (by decide) _ rfl
          have hv3 : wr.cell? ⟨b2, off2 + k * 5 + 3, none⟩ = some (.int .u64 (x.a2 : Int)) := hcell 3 (by decide) _ rfl
          have hv4 : wr.cell? ⟨b2, off2 + k * 5 + 4, none⟩ = some (.int .u64 (x.a3 : Int)) := hcell 4 (by decide) _ rfl
          have HX := Lib.hid hxe
          have hTk := Lib.hid (hTW1.below hBz)
          have hwl : (f :: (listsW 0 (ls.take i) ++ rowW i (L.take k))).length ≤ 1048576 := by
            have h1 := HLEN.out
            have h2 := rowW_length i (L.take k)
            rw [List.length_take] at h2
            have h3 := HM.out
            simp only [List.length_cons, List.length_append]; omega
          have HWL := Lib.hid hwl
          clear hcell hc2 hBz hxe hwl
          go_upto_region 12 with (fail)
          obtain ⟨wA, hwA⟩ : ∃ w : World, w = wr.alloc (.cells #[.int .u64 (x.k : Int), .int .u64 (x.a0 : Int), .int .u64 (x.a1 : Int), .int .u64 (x.a2 : Int), .int .u64 (x.a3 : Int)] 53) := ⟨_, rfl⟩
          rw [← hwA]
          have hbA : Below wr.heap.size wr wA := by rw [hwA]; exact (Below.refl _ _).alloc (Nat.le_refl _) _
          have hyA : CallBox wA wr.heap.size x := by rw [hwA]; exact World.alloc_heap_new _ _
          have HWA := Lib.hid (show WBox wA z (f :: (listsW 0 (ls.take i) ++ rowW i (L.take k))) ∧ Below z w1 wA ∧ Tab wA from ⟨HWB.out.1.below hbA, HWB.out.2.trans (hbA.mono (Nat.le_of_lt HWB.out.1.lt)), hTk.out.below hbA⟩)
          have hzA : z < wA.heap.size := HWA.out.1.lt
          clear hwA hbA hTk hv0 hv1 hv2 hv3 hv4
          refine wpTwo_begin (T := fun w' => CallBox w' wr.heap.size x) (S := fun _ => True) (late := fun _ => false) (by kernel_rfl) ?_
          obtain ⟨X0, hX0⟩ : ∃ X : World, X = wA.drew := ⟨_, rfl⟩
          have hyX : CallBox X0 wr.heap.size x := by rw [hX0]; exact hyA
          have HWX := Lib.hid (show WBox X0 z (f :: (listsW 0 (ls.take i) ++ rowW i (L.take k))) ∧ Below z w1 X0 ∧ Tab X0 from by
            have hd : Below wA.heap.size wA X0 := by rw [hX0]; exact (Below.refl _ _).drew
            exact ⟨HWA.out.1.below hd, HWA.out.2.1.trans (hd.mono (Nat.le_of_lt hzA)), HWA.out.2.2.below hd⟩)
          rw [← hX0]
          clear hX0 HWA hyA hzA
          refine wpTwo_takeT (i := 0) (v := .agg #[.int .i64 2, .int .i64 1]) rfl (by kernel_rfl) (by kernel_rfl) (by kernel_rfl) (fun _ _ _ h => h) ⟨by rfl, ?_⟩ hyX ?_
          · intro w _
            go_simp
          (try simp only [Act.put, List.getElem_toArray, List.getElem_cons_zero, List.setIfInBounds_toArray, List.set_cons_succ, List.set_cons_zero])
          refine wpTwo_takeT (i := 1) (v := .int .i64 (i : Int)) rfl (by kernel_rfl) (by kernel_rfl) (by kernel_rfl) (fun _ _ _ h => h) ⟨by rfl, ?_⟩ hyX ?_
          · intro w _
            go_simp
          (try simp only [Act.put, List.getElem_toArray, List.getElem_cons_succ, List.getElem_cons_zero, List.setIfInBounds_toArray, List.set_cons_succ, List.set_cons_zero])
          refine wpTwo_takeT (i := 2) (v := .agg #[.int .i64 3, .int .i64 (i : Int)]) rfl (by kernel_rfl) (by kernel_rfl) (by kernel_rfl) (fun _ _ _ h => h) ⟨by rfl, ?_⟩ hyX ?_
          · intro w _
            go_simp
          (try simp only [Act.put, List.getElem_toArray, List.getElem_cons_succ, List.getElem_cons_zero, List.setIfInBounds_toArray, List.set_cons_succ, List.set_cons_zero])
          refine wpTwo_takeT (i := 5) (v := .pointer (some ⟨wr.heap.size, 0, none⟩)) rfl (by kernel_rfl) (by kernel_rfl) (by kernel_rfl) (fun _ _ _ h => h) ⟨by rfl, ?_⟩ hyX ?_
          · intro w _
            go_simp
          (try simp only [Act.put, List.getElem_toArray, List.getElem_cons_succ, List.getElem_cons_zero, List.setIfInBounds_toArray, List.set_cons_succ, List.set_cons_zero])
          refine wpTwo_takeT (i := 6) (v := .int .u64 (x.k : Int)) rfl (by kernel_rfl) (by kernel_rfl) (by kernel_rfl) (fun _ _ _ h => h) ⟨by rfl, ?_⟩ hyX ?_
          · intro w hTw
            have hc0 := hTw.c0
            clear hTw
            go_simp
          (try simp only [Act.put, List.getElem_toArray, List.getElem_cons_succ, List.getElem_cons_zero, List.setIfInBounds_toArray, List.set_cons_succ, List.set_cons_zero])
          refine wpTwo_ready (rs := [3]) (by kernel_rfl) (by simp) ?_
          refine (AllTwo.cons rfl (fun K hK => ?_) AllTwo.nil)
          obtain ⟨X1, hX1⟩ : ∃ X : World, X = X0.alloc (.cells #[.int .i64 2, .int .i64 1, .int .i64 3, .int .i64 (i : Int)] 63) := ⟨_, rfl⟩
          have hb1 : Below X0.heap.size X0 X1 := by rw [hX1]; exact (Below.refl _ _).alloc (Nat.le_refl _) _
          have hyX1 : CallBox X1 wr.heap.size x := hyX.below hb1
          have HWX1 := Lib.hid (show WBox X1 z (f :: (listsW 0 (ls.take i) ++ rowW i (L.take k))) ∧ Below z w1 X1 ∧ Tab X1 from ⟨HWX.out.1.below hb1, HWX.out.2.1.trans (hb1.mono (Nat.le_of_lt HWX.out.1.lt)), HWX.out.2.2.below hb1⟩)
          have HCW := Lib.hid (word_c (.slice (some ⟨X0.heap.size, 0, none⟩) 2 2) [(2, 1), (3, i)] X1 ⟨_, _, rfl, fun _ => ⟨X0.heap.size, 0, rfl, fun j hj => by
            rw [hX1]
            match j, hj with
            | 0, _ => exact ⟨by simp, by simp⟩
            | 1, _ => exact ⟨by simp, by simp⟩⟩⟩ (by simp) HWX1.out.2.2 (by
              intro h hh
              simp only [List.mem_cons, List.not_mem_nil, or_false] at hh
              rcases hh with rfl | rfl
              · exact ⟨by simp, by simp [partW]⟩
              · exact ⟨by simp, by simp [partW]; omega⟩))
          rw [word_call] at HCW
          obtain ⟨hd, hhd⟩ : ∃ hd, hd = 1 + 256 * i := ⟨_, rfl⟩
          rw [← hhd] at HCW
          have HHD := Lib.hid hhd
          clear hhd
          go_simp
          rw [← hX1]
          refine hK.out _ _ ⟨hyX1, fun _ _ => trivial⟩ ?_
          clear hK K hX1 hb1 hyX HWX
          (try simp only [Act.put, List.getElem_toArray, List.getElem_cons_succ, List.getElem_cons_zero, List.setIfInBounds_toArray, List.set_cons_succ, List.set_cons_zero])
          refine wpTwo_ready (rs := [4]) (by kernel_rfl) (by simp) ?_
          refine (AllTwo.cons rfl (fun K hK => ?_) AllTwo.nil)
          go_simp
          refine HCW.out.mono ?_
          rintro e X2 ⟨rfl, hb2⟩
          have hyX2 : CallBox X2 wr.heap.size x := hyX1.below hb2
          have HWX2 := Lib.hid (show WBox X2 z (f :: (listsW 0 (ls.take i) ++ rowW i (L.take k))) ∧ Below z w1 X2 from ⟨HWX1.out.1.below hb2, HWX1.out.2.1.trans (hb2.mono (Nat.le_of_lt HWX1.out.1.lt))⟩)
          go_wp2_with fail
          refine hK.out _ _ ⟨hyX2, fun _ _ => trivial⟩ ?_
          clear hK K hb2 hyX1 HWX1 HCW
          (try simp only [Act.put, List.getElem_toArray, List.getElem_cons_succ, List.getElem_cons_zero, List.setIfInBounds_toArray, List.set_cons_succ, List.set_cons_zero])
          refine wpTwo_ready (rs := [7]) (by kernel_rfl) (by simp) ?_
          refine (AllTwo.cons rfl (fun K hK => ?_) AllTwo.nil)
          obtain ⟨X3, hX3⟩ : ∃ X : World, X = X2.alloc (.cells #[.int .u64 (hd : Int), .int .u64 (x.k : Int)] 37) := ⟨_, rfl⟩
          have hb3 : Below X2.heap.size X2 X3 := by rw [hX3]; exact (Below.refl _ _).alloc (Nat.le_refl _) _
          have hyX3 : CallBox X3 wr.heap.size x := hyX2.below hb3
          have HWX3 := Lib.hid (show WBox X3 z (f :: (listsW 0 (ls.take i) ++ rowW i (L.take k))) ∧ Below z w1 X3 from ⟨HWX2.out.1.below hb3, HWX2.out.2.trans (hb3.mono (Nat.le_of_lt HWX2.out.1.lt))⟩)
          have HPU := Lib.hid (put_c z _ [hd, x.k] X3 HWX3.out.1 ⟨X2.heap.size, 0, none⟩ 2 2 rfl (news_words [hd, x.k] hX3 rfl) HWL.out (by omega))
          go_simp
          rw [← hX3]
          refine hK.out _ _ ⟨hyX3, fun _ _ => trivial⟩ ?_
          clear hK K hX3 hb3 hyX2 HWX2
          (try simp only [Act.put, List.getElem_toArray, List.getElem_cons_succ, List.getElem_cons_zero, List.setIfInBounds_toArray, List.set_cons_succ, List.set_cons_zero])
          refine wpTwo_ready (rs := [8]) (by kernel_rfl) (by simp) ?_
          refine (AllTwo.cons rfl (fun K hK => ?_) AllTwo.nil)
          go_simp
          refine HPU.out.mono ?_
          rintro e X4 ⟨rfl, hWB4, hb4, ho4, -⟩
          have hyz : wr.heap.size ≠ z := by have := HWB.out.1.lt; omega
          have hyX4 : CallBox X4 wr.heap.size x := ho4 wr.heap.size _ _ _ hyz (by decide) hyX3
          have HWX4 := Lib.hid (And.intro hWB4 (HWX3.out.2.trans hb4))
          go_wp2_with fail
          refine hK.out _ _ ⟨hyX4, fun _ _ => trivial⟩ ?_
          clear hK K HPU hWB4 hb4 ho4 hyX3 HWX3
          (try simp only [Act.put, List.getElem_toArray, List.getElem_cons_succ, List.getElem_cons_zero, List.setIfInBounds_toArray, List.set_cons_succ, List.set_cons_zero])
          refine wpTwo_end (by kernel_rfl) ?_ _
          have hNX := hyX4.args
          have HP4 := Lib.hid (put_c z _ [x.a0, x.a1, x.a2, x.a3] X4 HWX4.out.1 ⟨wr.heap.size, 1, none⟩ 4 4 rfl hNX (by have := HWL.out; simp only [List.length_append, List.length_cons, List.length_nil] at this ⊢; have h1 := HLEN.out; have h2 := rowW_length i (L.take k); rw [List.length_take] at h2; omega) (by omega))
          clear hNX
          go_wp2_with fail
          refine HP4.out.mono ?_
          rintro e X5 ⟨rfl, hWB5, hb5, -, -⟩
          have HTK := Lib.hid (List.take_succ_eq_append_getElem hkl)
          have HW5 := Lib.hid (show WBox X5 z (f :: (listsW 0 (ls.take i) ++ rowW i (L.take (k + 1)))) ∧ Below z w1 X5 from ⟨by
            rw [HTK.out, rowW_snoc, ← HX.out]
            simpa [callW, HHD.out] using hWB5, HWX4.out.2.trans hb5⟩)
          clear HP4 hWB5 hb5 hyX4 HWX4
          go_wp2
          go_roundw
          case rel => exact ⟨k + 1, by omega, by go_num, HW5⟩
          case measure => simp [intOf]; omega
        · obtain rfl : k = M := by omega
          have HTI := Lib.hid (List.take_succ_eq_append_getElem hil)
          have HW6 := Lib.hid (show WBox wr z (f :: listsW 0 (ls.take (i + 1))) ∧ Below z w1 wr from ⟨by
            have h1 := HWB.out.1
            rw [List.take_of_length_le (l := L) (by have := HM.out; omega)] at h1
            have h2 : (ls.take i).length = i := by rw [List.length_take]; omega
            rw [HTI.out, listsW_snoc, Nat.zero_add, h2, ← HLE.out]
            exact h1, HWB.out.2⟩)
          go_wp2
          go_roundw
          case rel => exact ⟨i + 1, by omega, by go_num, HW6⟩
          case measure => simp [intOf]; omega
    · obtain rfl : n = i := by omega
      have HWL := Lib.hid (show WBox wr z (f :: listsW 0 ls) ∧ Below z w1 wr from by
        have := HWB.out
        rwa [List.take_of_length_le (by have := HNL.out; omega)] at this)
      have hq3 := (HWL.out.2.cell (show y < z by rw [HZ.out]; exact hyl)).trans hs3
      obtain ⟨bp, op, hbp, hpo, hpc⟩ := nums_at HP1.out.nums y hyl
      have HPO := Lib.hid hpo
      have HPC := Lib.hid hpc
      clear hpo hpc HWB hs0 hs1 hs2 hs3
      go_wp2_with fail
      refine (runsIt_c _ ⟨_, _, _, rfl⟩ _).mono ?_
      rintro e w7 ⟨rfl, hw7⟩
      obtain ⟨lb, hlb⟩ : ∃ lb, lb = wr.heap.size := ⟨_, rfl⟩
      rw [← hlb]
      have hb7 : Below wr.heap.size wr w7 := by rw [hw7]; exact (Below.refl _ _).alloc (Nat.le_refl _) _
      have hlbox : Boxed w7 lb 23 (.slice q m d) := by rw [hw7, hlb]; exact Boxed.new _ _ _
      have hzlb : z < lb := by rw [hlb]; exact HWL.out.1.lt
      have hw7s : w7.heap.size = lb + 1 := by rw [hw7, hlb]; simp
      have hzw1 : w1.heap.size = z := HZ.out.symm
      have HW7 := Lib.hid (show WBox w7 z (f :: listsW 0 ls) ∧ Below z w1 w7 from ⟨HWL.out.1.below hb7, HWL.out.2.trans (hb7.mono (Nat.le_of_lt HWL.out.1.lt))⟩)
      have hpc7 : ∀ i (h : i < ps.length), w7.cell? ⟨bp, op + i, none⟩ = some (.int .i64 ps[i]) := fun i h => (HW7.out.2.cell (by simp; omega)).trans (HPC.out i h)
      have hml : ps.length ≤ 1099511627776 := by omega
      have hll : listsW 0 ls = [] ∨ (listsW 0 ls).length ≤ 384 := .inr (by rw [listsW_length]; omega)
      have HLW := Lib.hid hll
      have HRL := Lib.hid (runs_len ps)
      clear hw7 hb7 HWL hq3 hlb hll
      go_wp2
      refine (wpIn_wide (n := 9)).1 ?_
      refine rf_frame fun T hT => ?_
      have HTT := Lib.hid hT
      clear hT
      have HIX : ∀ pre : List (RunS ps), pre.length ≤ 4096 → (f :: (listsW 0 ls ++ runsW (pre.map (·.1)).reverse)).length ≤ 1048576 := fun pre hp => by
        have : ∀ rs : List (Int × Nat), (runsW rs).length = rs.length := fun rs => by
          induction rs with
          | nil => rfl
          | cons r rs ih => simp only [runsW, List.length_append, ih, List.length_cons, List.length_nil]
        have h1 := listsW_length ls 0
        simp only [List.length_cons, List.length_append, this, List.length_reverse, List.length_map]; omega
      have HIXH := Lib.hid HIX
      clear HIX
      refine wpIn_rangeBound rfl (by omega) (gf := 48) (bd := #[]) (lb := #[.pointer (some ⟨lb, 0, none⟩)]) rfl trivial (enters_of Tryd.func48 (by kernel_rfl) rfl)
        (runs_stops 8 (by omega) (fun q => q ≠ lb ∧ q ≠ bp) lb bp op d q ps w7 (by simp) (by simp) hml (fun h => HPO.out h) (by rw [← HML.out]; exact hlbox.cell) hpc7) (fun h k => h.trans k) (fun W l o o' _ => KeepsCells.turn _ W l o o') (Below.refl _ _) (fun _ => rfl)
        (fun pre W' => ((∃ v, Boxed W' z 59 v ∧ W'.ownsRow (z + 1) 37 1 v (f :: (listsW 0 ls ++ runsW (pre.map (·.1)).reverse)).length ((f :: (listsW 0 ls ++ runsW (pre.map (·.1)).reverse)).map nv) ∧ True) ∧ Boxed W' lb 23 (.slice q m d)) ∧ Below z w1 W')
        (fun _ _ _ => False)
        ?hI ?hIx ?h0
        (fun s a' W' => ∃ blk, a' = { tmps := (T.setIfInBounds 59 (runV s)).setIfInBounds 10 (.pointer (some ⟨blk, 0, none⟩)), defers := [] } ∧ W'.heap[blk]? = some (.cells #[.int .i64 s.1.1, .int .i64 (s.1.2 : Int)] 40 (0, 0)))
        ?hAx ?assign ?body ?done ?stop
      case hI => exact OwnFrom.and (OwnFrom.and (Own.from (holdsRow_own (z + 1) z 59 37 1 (fun pre : List (RunS ps) => (f :: (listsW 0 ls ++ runsW (pre.map (·.1)).reverse)).length) (fun pre => (f :: (listsW 0 ls ++ runsW (pre.map (·.1)).reverse)).map nv) (fun _ _ => True)) _) (Own.from (boxed_own lb 23 (fun _ => Value.slice q m d)) _)) (ownFrom_below (by omega) (by omega))
      case hIx => exact fun _ _ _ _ _ hs _ _ => hs
      case h0 =>
        obtain ⟨v, h1, h2⟩ := HW7.out.1
        exact ⟨⟨⟨v, h1, by simpa [runsW] using h2, trivial⟩, hlbox⟩, HW7.out.2⟩
      case hAx =>
        rintro s a' _ X Y row ⟨blk, hpure, hs⟩ hg hr
        refine ⟨blk, hpure, (hg.block blk (Array.getElem?_eq_some_iff.1 hs).1 fun e => ?_).trans hs⟩
        obtain ⟨_, o, ho, hc⟩ := hr blk e.symm
        rw [hs] at ho
        cases ho
        cases hc
      case assign =>
        rintro lq pre s X K ⟨⟨⟨v, hbv, hrow, _⟩, hlx⟩, hBX⟩ hK
        gi_wp2
        exact hK _ _ ((KeepsOthers.alloc _ _).from _) (KeepsCells.keeps (Keeps.alloc _ _ _)) ⟨⟨⟨v, hbv.alloc _, hrow.alloc _, trivial⟩, hlx.alloc _⟩, hBX.alloc (by have := hBX.size; omega) _⟩ ⟨X.heap.size, by rw [HTT.out]; rfl, World.alloc_heap_new X _⟩
      case body =>
        rintro lq pre s a' X hl _ ⟨⟨⟨v, hbv, hrow, _⟩, hlx⟩, hBX⟩ ⟨blk, rfl, hpr⟩ hlen
        obtain ⟨⟨r0, mm⟩, ⟨hm1, hm2⟩, hmem⟩ := s
        simp only at hm1 hm2 hpr ⊢
        obtain ⟨hr0, hr1⟩ := HALL.out r0 hmem
        obtain ⟨r, rfl⟩ := Int.eq_ofNat_of_zero_le hr0
        obtain ⟨m1, rfl⟩ : ∃ m1, mm = m1 + 1 := ⟨mm - 1, by omega⟩
        have hr8 : r < 8 := by omega
        have hpl2 := HIXH.out pre (by have := HRL.out; omega)
        have HWX := Lib.hid (show WBox X z (f :: (listsW 0 ls ++ runsW (pre.map (·.1)).reverse)) from ⟨v, hbv, hrow⟩)
        have HBX := Lib.hid hBX
        have hXs : z < X.heap.size := hbv.lt
        have hc0 : X.cell? ⟨blk, 0, none⟩ = some (.int .i64 (r : Int)) := by simp [World.cell?, hpr]
        have hc1 : X.cell? ⟨blk, 1, none⟩ = some (.int .i64 ((m1 + 1 : Nat) : Int)) := by simp [World.cell?, hpr]
        obtain ⟨mp, hmp⟩ : ∃ mp : Int, mp = ((m1 + 1 : Nat) : Int) := ⟨_, rfl⟩
        have hmp1 : mp - 1 = (m1 : Int) := by omega
        have hmpb : 1 ≤ mp ∧ mp ≤ 256 := by omega
        have HSR := Lib.hid (show (runV (l := ps) ⟨((r : Int), m1 + 1), ⟨hm1, hm2⟩, hmem⟩ : Value) = .agg #[.int .i64 (r : Int), .int .i64 mp] by rw [hmp])
        rw [← hmp] at hc1
        rw [HSR.out]
        have HLX := Lib.hid hlx
        have HPR := Lib.hid hpr
        obtain ⟨ws, hws⟩ : ∃ ws, ws = f :: (listsW 0 ls ++ runsW (pre.map (·.1)).reverse) := ⟨_, rfl⟩
        rw [← hws] at hpl2 HWX
        have HWS := Lib.hid hws
        clear hbv hrow hlx hBX hpr hmp hws hlen
        obtain ⟨X1, hX1⟩ : ∃ W : World, W = X.alloc (.cells #[.int .i64 2, .int .i64 2, .int .i64 3, .int .i64 (r : Int), .int .i64 4, .int .i64 (m1 : Int)] 63) := ⟨_, rfl⟩
        have hb1 : Below X.heap.size X X1 := by rw [hX1]; exact (Below.refl _ _).alloc (Nat.le_refl _) _
        have hBX1 : Below z w1 X1 := HBX.out.trans (hb1.mono (Nat.le_of_lt hXs))
        have HTX1 := Lib.hid (show Tab X1 from hTW1.below (by rw [hzw1]; exact hBX1))
        have HCW := Lib.hid (word_c (.slice (some ⟨X.heap.size, 0, none⟩) 3 3) [(2, 2), (3, r), (4, m1)] X1 ⟨_, _, rfl, fun _ => ⟨X.heap.size, 0, rfl, fun j hj => by
          rw [hX1]
          match j, hj with
          | 0, _ => exact ⟨by simp, by simp⟩
          | 1, _ => exact ⟨by simp, by simp⟩
          | 2, _ => exact ⟨by simp, by simp⟩⟩⟩ (by simp) HTX1.out (by
            intro h hh
            simp only [List.mem_cons, List.not_mem_nil, or_false] at hh
            rcases hh with rfl | rfl | rfl
            · exact ⟨by simp, by simp [partW]⟩
            · exact ⟨by simp, by simp [partW]; omega⟩
            · exact ⟨by simp, by simp [partW]; omega⟩))
        rw [word_run r m1 hr8] at HCW
        obtain ⟨hd, hhd⟩ : ∃ hd, hd = 2 + 256 * r + 65536 * m1 := ⟨_, rfl⟩
        rw [← hhd] at HCW
        have HHD := Lib.hid hhd
        have HB1 := Lib.hid (And.intro hb1 hBX1)
        have HX1 := Lib.hid hX1
        clear hhd hb1 hBX1 hX1
        rw [HTT.out]
        simp only [List.setIfInBounds_toArray, List.set_cons_succ, List.set_cons_zero]
        gi_wp2_with fail
        rw [← HX1.out]
        refine ⟨trivial, (CallsIn.inRound lq (callsIn_wide.2 HCW.out)).mono ?_⟩
        rintro e X2 ⟨rfl, hb2⟩
        obtain ⟨X3, hX3⟩ : ∃ W : World, W = X2.alloc (.cells #[.int .u64 (hd : Int)] 37) := ⟨_, rfl⟩
        have hb3 : Below X2.heap.size X2 X3 := by rw [hX3]; exact (Below.refl _ _).alloc (Nat.le_refl _) _
        have hx1 := HB1.out.1.size
        have hx2 := hb2.size
        have hx3 := hb3.size
        have hbX3 : Below X.heap.size X X3 := (HB1.out.1.trans (hb2.mono hx1)).trans (hb3.mono (Nat.le_trans hx1 hx2))
        have HPU := Lib.hid (put_c z ws [hd] X3 (HWX.out.below hbX3) ⟨X2.heap.size, 0, none⟩ 1 1 rfl (news_words [hd] hX3 rfl) hpl2 (by omega))
        have HX3 := Lib.hid hX3
        have HB3 := Lib.hid hbX3
        clear hX3 hb2 hb3 hbX3
        gi_wp2_with fail
        rw [← HX3.out]
        refine ⟨trivial, (CallsIn.inRound lq (callsIn_wide.2 HPU.out)).mono ?_⟩
        rintro e Y ⟨rfl, hWY, hbY, hoY, hkY⟩
        have hBY : Below z w1 Y := (HBX.out.trans (HB3.out.mono (Nat.le_of_lt hXs))).trans hbY
        have hlY : Boxed Y lb 23 (.slice q m d) := hoY lb _ _ _ (by omega) (by decide) ((HB3.out.block lb HLX.out.lt).trans HLX.out)
        have HFIN := Lib.hid (And.intro hWY (And.intro hBY (And.intro hlY ((KeepsOthers.of_below HB3.out).trans hkY))))
        clear hWY hbY hoY hkY hBY hlY HPU HCW
        gi_wp2
        obtain ⟨⟨v', hv1, hv2⟩, hBY, hlY, hkY⟩ := HFIN.out
        have hwe : ws ++ [hd] = f :: (listsW 0 ls ++ runsW ((pre ++ [(⟨((r : Int), m1 + 1), ⟨hm1, hm2⟩, hmem⟩ : RunS ps)]).map (·.1)).reverse) := by
          rw [HWS.out, HHD.out]
          simp [runsW, runW]
        rw [hwe] at hv2
        refine ⟨hkY.from _, ?_, ⟨⟨v', hv1, hv2, trivial⟩, hlY⟩, hBY⟩
        intro b o u hbS hbc
        have hbS : b = lb ∨ b = bp := by
          by_cases h1 : b = lb
          · exact .inl h1
          · by_cases h2 : b = bp
            · exact .inr h2
            · exact absurd ⟨h1, h2⟩ hbS
        rcases hbS with rfl | rfl
        · exact cell_of_heap (hlY.trans HLX.out.symm) hbc
        · have h1 := HBX.out.block b (by omega)
          have h2 := hBY.block b (by omega)
          exact cell_of_heap (h2.trans h1.symm) hbc
      case done =>
        rintro D xs X hD hxs ⟨⟨⟨v, hbv, hrow, _⟩, hlx⟩, hBX⟩ hK
        rw [hxs, HF.out] at hrow
        obtain ⟨nn, hnn⟩ : ∃ nn, nn = (wordsL ⟨(c : Int), (g : Int), ls, ps⟩).length := ⟨_, rfl⟩
        have hrow : X.ownsRow (z + 1) 37 1 v nn ((wordsL ⟨(c : Int), (g : Int), ls, ps⟩).map nv) := by rw [hnn]; exact hrow
        obtain ⟨pv, cv, rfl⟩ := owns_slice hrow
        have hcv := hbv.cell
        have HR := Lib.hid hrow
        have HNN := Lib.hid hnn
        have HBF := Lib.hid (show Below W.heap.size W X from (show Below W.heap.size W w1 by rw [HYW.out]; exact hB1).trans (hBX.mono hzW))
        have hDW : W.heap.size ≤ D := by omega
        clear hrow hlx hBX hxs hbv hnn
        go_wp2
        show bodyPostM Fence.wide 9 Tryd.prog Tryd.f14 _ Exit.ret _ _
        refine ⟨by simp, .inl ⟨_, _, rfl, run_takeDeferred hK, ?_⟩⟩
        have hd : Below W.heap.size X (X.putObj D (.deferred none)) := belowK_b (w := W) (Nat.le_refl _) X D _ _ hDW hK rfl rfl
        exact ⟨_, results_tmp2 rfl _ _ _, ⟨pv, cv, by rw [← HNN.out]; rfl, by rw [← HNN.out]; exact ownsRow_putObj (HR.out.mono (by omega)) (.deferred none) hK rfl⟩, HBF.out.trans hd⟩
      case stop =>
        rintro D c pre X _ _ h _
        exact h.elim

end Go.Proofs.YtjgdkfgcfningaaDoor
