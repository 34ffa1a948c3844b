/-
  Split of package sched.
  Conditions: the row of picks reads as a list of at most 2 to the power 40.
-/
import Derived.Test.YtmmeiclclapmfaaDMend
import Derived.Maps.AppendAt
namespace Go.Proofs.Ytmmeiclclapmfaa
open Go.RowKit Go.Shelf

/-- The places of one number, rising. -/
def plcF (c : Int) : Nat → List Int → List Int
  | _, [] => []
  | o, x :: r => if x = c then (o : Int) :: plcF c (o + 1) r else plcF c (o + 1) r
def plc (l : List Int) (c : Int) : List Int := plcF c 0 l
theorem plcF_snoc (c x : Int) : ∀ (l : List Int) (o : Nat), plcF c o (l ++ [x]) = plcF c o l ++ (if x = c then [((o + l.length : Nat) : Int)] else [])
  | [], o => by simp [plcF]
  | y :: r, o => by
    have := plcF_snoc c x r (o + 1)
    simp only [List.cons_append, plcF, this, List.length_cons]
    rw [show o + 1 + r.length = o + (r.length + 1) by omega]
    split <;> simp
theorem plc_snoc (l : List Int) (x c : Int) : plc (l ++ [x]) c = plc l c ++ (if x = c then [(l.length : Int)] else []) := by simp [plc, plcF_snoc]
theorem plcF_len (c : Int) : ∀ (l : List Int) (o : Nat), (plcF c o l).length ≤ l.length
  | [], _ => Nat.le_refl _
  | x :: r, o => by
    have := plcF_len c r (o + 1)
    simp only [plcF, List.length_cons]
    split <;> simp <;> omega
theorem plc_len (l : List Int) (c : Int) : (plc l c).length ≤ l.length := plcF_len c l 0

theorem owns_slice {w : World} {B : Nat} {E : TypeId} {s n : Nat} {v : Value} {xs : List Value} (h : w.ownsRow B E s v n xs) : ∃ p c, v = .slice p n c := by
  rcases h.2 with ⟨rfl, rfl⟩ | ⟨g, cap, cur, rfl, _⟩
  · exact ⟨_, _, rfl⟩
  · exact ⟨_, _, rfl⟩
/-- Block z holds a row of slices. -/
def SBox (w : World) (z : Nat) (vs : List Value) : Prop := w.heap[z]? = some (.cells vs.toArray 22 (0, 0))
theorem SBox.lt {w : World} {b : Nat} {vs : List Value} (h : SBox w b vs) : b < w.heap.size := (Array.getElem?_eq_some_iff.1 h).1
theorem SBox.below {w w' : World} {b : Nat} {vs : List Value} (h : SBox w b vs) (hb : Below w.heap.size w w') : SBox w' b vs := (hb.block b h.lt).trans h
theorem SBox.keeps {S : Nat → Prop} {w w' : World} {b : Nat} {vs : List Value} (h : SBox w b vs) (hk : Keeps S w w') (hz : ¬ S b) : SBox w' b vs := (hk.block b h.lt hz).trans h
theorem SBox.set {w : World} {b : Nat} {vs : List Value} (h : SBox w b vs) (i : Nat) (x : Value) : SBox (w.setCell ⟨b, i, none⟩ x) b (vs.set i x) := by
  unfold SBox
  rw [heap_setCell_same w b i _ _ x h]
  simp
theorem SBox.cell {w : World} {b : Nat} {vs : List Value} (h : SBox w b vs) (i : Nat) (hi : i < vs.length) : w.cell? ⟨b, i, none⟩ = some vs[i] := by
  have h' : w.heap[b]? = _ := h
  simp [World.cell?, h', hi]
theorem SBox.free {w : World} {b : Nat} {vs : List Value} (h : SBox w b vs) (i : Nat) : w.frozen? ⟨b, i, none⟩ = false := by
  have h' : w.heap[b]? = _ := h
  simp [World.frozen?, h']
/-- The rows of places, each in a block of its own. -/
structure Rows' (w : World) (z : Nat) (vs : List Value) (k : Nat) (l : List Int) : Prop where
  box : SBox w z vs
  len : vs.length = k
  own : ∀ j (h : j < vs.length), w.ownsRow (z + 1) 3 1 vs[j] (plc l (j : Int)).length ((plc l (j : Int)).map (Value.int .i64))
  apart : ∀ a b (ha : a < vs.length) (hb : b < vs.length), a ≠ b → ∀ g, vs[a].ownBlock = some g → vs[b].ownBlock ≠ some g
/-- What Split answers. -/
def SplitPost (B k : Nat) (l : List Int) (ok : Bool) (e : Ending) (w' : World) : Prop := if ok then ∃ z vs, B ≤ z ∧ e = .returned (.slice (some ⟨z, 0, none⟩) k k) ∧ Rows' w' z vs k l else e = .returned (.slice none 0 0)
theorem slices_info : (Try.prog.info? 22).map (fun i => (i.zero, i.size, i.bytes)) = some (some (.slice none 0 0), 1, 24) := by kernel_rfl
theorem run_makeS (n : Nat) (hn : n ≤ 1099511627776) (w : World) : (Instr.makeSlice 29 (.int .i64 (n : Int)) (.int .i64 (n : Int))).run Try.prog w = .ok (.slice (some ⟨w.heap.size, 0, none⟩) n n) (w.alloc (.cells (List.replicate n (Value.slice none 0 0)).toArray 22)) := by
  obtain ⟨i0, hi, hz0, hz1, hz2⟩ := info_parts slices_info
  have := run_make (P := Try.prog) w 29 22 i0 (.slice none 0 0) Try.underlying29 hi hz0 .i64 .i64 (n : Int) (n : Int) (by omega) (by omega) (by rw [hz2]; omega) (by omega)
  rw [this, hz1]
  have e : madeCells (Value.slice none 0 0).cells ((n : Int).toNat * 1) = (List.replicate n (Value.slice none 0 0)).toArray := by
    apply Array.toList_inj.1
    rw [List.toList_toArray, Nat.mul_one, Int.toNat_natCast]
    exact toList_madeCells_one _ n
  rw [e]
  simp
/-- What is left behind an append to one of the rows, and its store. -/
theorem Rows'.step {w w1 : World} {z k p : Nat} {vs : List Value} {l : List Int} {v' : Value} {o : Obj} (h : Rows' w z vs k l) (hp : p < vs.length) (hown : w1.ownsRow (z + 1) 3 1 v' ((plc l (p : Int)).length + 1) ((plc l (p : Int)).map (Value.int .i64) ++ [.int .i64 (l.length : Int)]))
    (hg : (w.alloc o).grownBy w1 vs[p].ownBlock) (hat : v'.ownBlock = vs[p].ownBlock ∨ v'.ownBlock = some (w.alloc o).heap.size) : Rows' (w1.setCell ⟨z, p, none⟩ v') z (vs.set p v') k (l ++ [(p : Int)]) := by
  have hne : ∀ j (hj : j < vs.length), ∀ g, vs[j].ownBlock = some g → z + 1 ≤ g ∧ g < w.heap.size := fun j hj g hg => (h.own j hj).lt g hg
  have hzn : ∀ row, vs[p].ownBlock = some row → z ≠ row := fun row hr => by have := (hne p hp row hr).1; omega
  have hz := h.box.lt
  have hbox1 : SBox w1 z vs := by
    refine (hg.block z (by simp; omega) fun e => ?_).trans ((Below.heap_alloc _ _ _ hz).trans h.box)
    exact hzn z e.symm rfl
  refine ⟨hbox1.set p v', by simpa using h.len, fun j hj => ?_, fun a b ha hb hab g hga => ?_⟩
  · have hj' : j < vs.length := by simpa using hj
    rw [List.getElem_set, plc_snoc]
    by_cases e : p = j
    · subst e
      rw [if_pos rfl, if_pos rfl, List.length_append, List.map_append]
      exact ownsRow_setCell_other hown (fun e => by have h2 := (hown.lt _ e).1; have h2 : z + 1 ≤ z := h2; omega) _
    · rw [if_neg e, if_neg (by omega), List.append_nil]
      have hk : Keeps (fun q => some q = vs[p].ownBlock) (w.alloc o) w1 := by
        obtain ⟨h1, h2, h3, h4, h5⟩ := hg
        exact ⟨h1, h2, h3, h4, fun q hq hne => h5 q hq hne⟩
      have h1 := hk.row ((h.own j hj').alloc o) (fun g hg' hS => h.apart j p hj' hp (fun e' => e e'.symm) g hg' (Eq.symm hS))
      exact ownsRow_setCell_other h1 (fun e => by have h2 := (h1.lt _ e).1; have h2 : z + 1 ≤ z := h2; omega) _
  · have ha' : a < vs.length := by simpa using ha
    have hb' : b < vs.length := by simpa using hb
    rw [List.getElem_set] at hga ⊢
    by_cases ea : p = a
    · subst ea
      rw [if_pos rfl] at hga
      rw [if_neg hab]
      intro hgb
      rcases hat with h1 | h1
      · rw [h1] at hga
        exact h.apart p b hp hb' hab g hga hgb
      · rw [h1] at hga
        injection hga with hga
        have := (hne b hb' g hgb).2
        rw [World.size_alloc] at hga
        omega
    · rw [if_neg ea] at hga
      by_cases eb : p = b
      · subst eb
        rw [if_pos rfl]
        intro hgb
        rcases hat with h1 | h1
        · rw [h1] at hgb
          exact h.apart a p ha' hp hab g hga hgb
        · rw [h1] at hgb
          injection hgb with hgb
          have := (hne a ha' g hga).2
          rw [World.size_alloc] at hgb
          omega
      · rw [if_neg eb]
        exact h.apart a b ha' hb' hab g hga
theorem Rows'.grown {w w1 : World} {z k p : Nat} {vs : List Value} {l : List Int} {o : Obj} (h : Rows' w z vs k l) (hp : p < vs.length) {u : Value} (hu : u = vs[p]) (hg : (w.alloc o).grownBy w1 u.ownBlock) : SBox w1 z vs := by
  subst hu
  have hz := h.box.lt
  refine (hg.block z (by simp; omega) fun e => ?_).trans ((Below.heap_alloc _ _ _ hz).trans h.box)
  have := ((h.own p hp).lt z e.symm).1
  omega
theorem Rows'.new (w : World) (k : Nat) : Rows' (w.alloc (.cells (List.replicate k (Value.slice none 0 0)).toArray 22)) w.heap.size (List.replicate k (Value.slice none 0 0)) k [] :=
  ⟨World.alloc_heap_new w _, by simp, fun j hj => by rw [List.getElem_replicate]; exact World.ownsRow_nil _ _ _ _, fun a b ha hb _ g hg => by rw [List.getElem_replicate] at hg; cases hg⟩

set_option maxRecDepth 100000 in
set_option maxHeartbeats 4000000 in
theorem split_c (c : Int) (v : Value) (l : List Int) (W : World) (hv : NumsAt W .i64 v l) (hl : l.length ≤ 1099511627776) :
    Calls Try.prog 13 #[.int .i64 c, v] W fun e w' => SplitPost W.heap.size c.toNat l (okB c l) e w' ∧ Below W.heap.size W w' := by
  obtain ⟨p, cap, rfl, hc⟩ := hv
  have HV := Lib.hid (show NumsAt W .i64 (.slice p l.length cap) l from ⟨p, cap, rfl, hc⟩)
  obtain ⟨n, hn0⟩ : ∃ n, n = l.length := ⟨_, rfl⟩
  have HCK := check_c c _ l W HV.out (by omega)
  rw [← hn0] at hl HV HCK ⊢
  have HN := Lib.hid hn0
  clear hn0
  cases hok : okB c l with
  | false =>
    rw [hok] at HCK
    clear hok
    go_enter Try.func13, Try.ntmps13
    go_wp2_with fail
    refine HCK.mono ?_
    rintro e w1 ⟨rfl, hb⟩
    simp only [errS, Bool.false_eq_true, if_false]
    go_wp2
    go_ret
    exact ⟨(show SplitPost W.heap.size c.toNat l false _ _ from rfl), hb⟩
  | true =>
    rw [hok] at HCK
    obtain ⟨⟨hc1, hc8⟩, hall⟩ := okB_iff.1 hok
    obtain ⟨k, rfl⟩ := Int.eq_ofNat_of_zero_le (show 0 ≤ c by omega)
    have HALL := Lib.hid hall
    have hmk := run_makeS k (by omega)
    obtain ⟨cn, hcn⟩ : ∃ cn : Array Value, cn = (List.replicate k (Value.slice none 0 0)).toArray := ⟨_, rfl⟩
    rw [← hcn] at hmk
    have HCN := Lib.hid hcn
    clear hok hall hcn
    go_enter Try.func13, Try.ntmps13
    go_wp2_with fail
    refine HCK.mono ?_
    rintro e w1 ⟨rfl, hb⟩
    simp only [errS]
    clear HCK
    go_wp2
    obtain ⟨z, hz⟩ : ∃ z, z = w1.heap.size := ⟨_, rfl⟩
    obtain ⟨wo, hwo⟩ : ∃ wo : World, wo = w1.alloc (.cells cn 22) := ⟨_, rfl⟩
    rw [← hwo, ← hz]
    have HRO : Rows' wo z (List.replicate k (Value.slice none 0 0)) k (l.take 0) := by rw [hwo, hz, HCN.out, List.take_zero]; exact Rows'.new w1 k
    have hbo : Below w1.heap.size w1 wo := by rw [hwo]; exact (Below.refl _ _).alloc (Nat.le_refl _) _
    have hB := below_then hb hb.size hbo
    have hWz : W.heap.size ≤ z := by rw [hz]; exact hb.size
    clear hb hbo hwo HV hmk HCN hz
    obtain ⟨i0, hi, hz0, hz1, hz2⟩ := info_parts int_info
    have HI0 := Lib.hid (And.intro hi (And.intro hz0 (And.intro hz1 hz2)))
    clear hi hz0 hz1 hz2
    go_loopw [16] (fun iv wr => ∃ (i : Nat) (vs : List Value), i ≤ n ∧ iv = .int .i64 i ∧ Rows' wr z vs k (l.take i) ∧ Below W.heap.size W wr) (fun iv _ => n - (intOf iv).toNat)
    case atStart => exact ⟨0, _, Nat.zero_le _, rfl, HRO, hB⟩
    case round =>
      clear HRO hB
      obtain ⟨i, vs, hi, rfl, HRO, hB⟩ := hrel
      by_cases hlt : i < n
      · have hil : i < l.length := by have := HN.out; omega
        obtain ⟨b, off, rfl, hcs⟩ := hc (by intro e; rw [e] at hil; cases hil)
        have hx := below_cell hB (hcs i hil)
        obtain ⟨hp0, hp1⟩ := HALL.out _ (List.getElem_mem hil)
        have htk := List.take_succ_eq_append_getElem hil
        obtain ⟨x, hxe⟩ : ∃ x, x = l[i] := ⟨_, rfl⟩
        rw [← hxe] at hx hp0 hp1 htk
        obtain ⟨m, rfl⟩ := Int.eq_ofNat_of_zero_le hp0
        have HT := Lib.hid htk
        have hmk : m < k := by omega
        have hmv : m < vs.length := by rw [HRO.len]; exact hmk
        have hcv := HRO.box.cell m hmv
        have hfv := HRO.box.free m
        have hown := HRO.own m hmv
        have hpl := plc_len (l.take i) (m : Int)
        rw [List.length_take] at hpl
        obtain ⟨u, hu⟩ : ∃ u, u = vs[m]'hmv := ⟨_, rfl⟩
        obtain ⟨nn, hnn⟩ : ∃ nn, nn = (plc (l.take i) (m : Int)).length := ⟨_, rfl⟩
        rw [← hu] at hcv hown
        rw [← hnn] at hown hpl
        have HOWN := Lib.hid hown
        have HU := Lib.hid hu
        have HNN := Lib.hid hnn
        have HLT := Lib.hid (show (l.take i).length = i by rw [List.length_take]; omega)
        have hzr := HRO.box.lt
        clear hcs hxe htk hp0 hp1 hown hu hnn
        go_upto_region 7 with (fail)
        go_wp2_with (at_builtin; refine wpList_append_own_at _ rfl _ _ 22 rfl (z + 1) 3 i0 (.int .i64 0) 1 8 Try.underlying22 HI0.out.1 HI0.out.2.1 HI0.out.2.2.1 HI0.out.2.2.2 rfl (by decide) u nn _ rfl (HOWN.out.alloc _) ⟨wr.heap.size, 0, none⟩ 1 1 [.int .i64 (i : Int)] rfl rfl (cell_one_new _ _ _) (fun y hy => by rw [List.mem_singleton.1 hy]; rfl) (by unfold maxLen; omega) (by omega) (by simp; omega) ?_; intro v' w2 hown' hgrow _ hat; obtain ⟨pv, cv, rfl⟩ := owns_slice hown'; have hb2 := HRO.grown hmv HU.out hgrow; have hcv2 := hb2.cell m hmv; have hfv2 := hb2.free m; have X := Lib.hid (And.intro hown' (And.intro hgrow hat)); clear hown' hgrow hat hb2)
        obtain ⟨hown', hgrow, hat⟩ := X.out
        rw [HU.out] at hgrow hat
        have hown2 : w2.ownsRow (z + 1) 3 1 (.slice pv (nn + 1) cv) ((plc (l.take i) (m : Int)).length + 1) ((plc (l.take i) (m : Int)).map (Value.int .i64) ++ [.int .i64 (i : Int)]) := by rw [← HNN.out]; exact hown'
        have hrows := HRO.step (o := .cells #[.int .i64 (i : Int)] 3) hmv (by rw [HLT.out]; exact hown2) hgrow hat
        rw [← HT.out] at hrows
        have hBE : Below W.heap.size W (w2.setCell ⟨z, m, none⟩ (.slice pv (nn + 1) cv)) := ((hB.alloc hB.size _).grown hgrow (by simp; have := hB.size; omega) (fun r hr => by have := ((HRO.own m hmv).lt r hr).1; omega)).setCell (p := ⟨z, m, none⟩) hWz _
        go_roundw
        case rel => exact ⟨i + 1, vs.set m (.slice pv (nn + 1) cv), by omega, by go_num, hrows, hBE⟩
        case measure => simp [intOf]; omega
      · obtain rfl : i = n := by omega
        rw [List.take_of_length_le (by have := HN.out; omega)] at HRO
        go_wp2
        go_ret
        exact ⟨(show SplitPost W.heap.size k l true _ _ from ⟨z, vs, hWz, rfl, HRO⟩), hB⟩

end Go.Proofs.Ytmmeiclclapmfaa
