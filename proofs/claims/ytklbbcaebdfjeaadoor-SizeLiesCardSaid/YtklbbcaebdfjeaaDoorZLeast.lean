/-
  Package size: the block told of a class, by the generic function; Around.
  Conditions: the package's table of sizes is as it was laid; the ranges of Go's types.
-/
import Derived.Test.YtklbbcaebdfjeaaDoorZAround
namespace Go.Proofs.YtklbbcaebdfjeaaDoor
open Go.RowKit Go.Shelf
attribute [local go_sem] Oper.semAt_some

theorem bbox_own {β : Type} (z : Nat) (f g : β → Int) : Own (fun s W => BBox W z (f s) (g s)) := fun s X Y row hs hg hrow => by
  have hlt : z < X.heap.size := BBox.lt hs
  refine (hg.block z hlt fun e => ?_).trans hs
  obtain ⟨o, ho, hc⟩ := hrow z e.symm
  unfold BBox at hs
  rw [hs] at ho
  cases ho
  cases hc
theorem BBox.other {w : World} {z y o : Nat} {a c : Int} (h : BBox w z a c) (hne : z ≠ y) (v : Value) : BBox (w.setCell ⟨y, o, none⟩ v) z a c := (Below.heap_setCell _ _ _ _ hne).trans h
theorem BBox.alloc {w : World} {z : Nat} {a c : Int} (h : BBox w z a c) (o : Obj) : BBox (w.alloc o) z a c := (Below.heap_alloc _ _ _ h.lt).trans h
theorem boxed_put2 {w : World} {z y : Nat} {T : TypeId} {v : Value} (h : Boxed w z T v) (hne : z ≠ y) (a c : Value) : Boxed ((w.setCell ⟨y, 0, none⟩ a).setCell ⟨y, 1, none⟩ c) z T v :=
  (Below.heap_setCell _ _ _ _ hne).trans ((Below.heap_setCell _ _ _ _ hne).trans h)

set_option maxRecDepth 100000 in
set_option maxHeartbeats 1000000 in
theorem around1_c (s : Blk) (c : Int) (cb : Nat) (W : World) (hc : W.cell? ⟨cb, 0, none⟩ = some (.int .i64 c)) :
    Calls Tryd.prog 43 #[blkE s, .pointer (some ⟨cb, 0, none⟩)] W fun e w' => e = .returned (.bool ((s.1.2 : Int) == c)) ∧ Below W.heap.size W w' := by
  have hlt := World.block_lt_of_cell? _ _ hc
  have hb : Below W.heap.size W (W.alloc (.cells #[.int .i64 (s.1.1 : Int), .int .i64 (s.1.2 : Int)] 33)) := (Below.refl _ _).alloc (Nat.le_refl _) _
  have hc1 := below_cell hb hc
  obtain ⟨⟨a, k⟩, h⟩ := s
  unfold blkE
  simp only at hb hc1 ⊢
  clear h
  go_enter Tryd.func43, Tryd.ntmps43
  go_wp2
  go_ret
  exact ⟨rfl, hb⟩

def lastK (p : List Blk) : Nat × Nat := (p.getLast?.map (·.1)).getD (0, 0)
theorem lastK_snoc (p : List Blk) (s : Blk) : lastK (p ++ [s]) = s.1 := by simp [lastK]
/-- What is told of the class c. -/
def arA (a k : Nat) (c : Int) : Int × Int × Bool := if (k : Int) ≤ c ∧ c < 4 then (((a - a % szN c.toNat : Nat) : Int), c, true) else (0, 0, false)
theorem arA_yes {a k : Nat} {c : Int} {p : List Blk} (hp : p ≠ []) (hl : p.length ≤ 4 - k) (h : p.map (·.1) = arL a k p.length) (hc : ((lastK p).2 : Int) = c) : arA a k c = (((lastK p).1 : Int), ((lastK p).2 : Int), true) := by
  have hl0 : 0 < p.length := List.length_pos_iff.2 hp
  have hlast : lastK p = arAt a k (p.length - 1) := by
    unfold lastK
    rw [List.getLast?_eq_getElem?, List.getElem?_eq_getElem (by omega)]
    have := congrArg (·[p.length - 1]?) h
    unfold arL at this
    simp only [List.getElem?_map, List.getElem?_range (show p.length - 1 < p.length by omega)] at this
    rw [List.getElem?_eq_getElem (by omega)] at this
    simpa using this
  rw [hlast] at hc ⊢
  unfold arAt at hc ⊢
  simp only at hc ⊢
  unfold arA
  rw [if_pos (by omega), ← hc, Int.toNat_natCast]
theorem arA_no {a k : Nat} {c : Int} {p : List Blk} (h : p.map (·.1) = arL a k (4 - k)) (hc : ∀ x ∈ p, ¬ (x.1.2 : Int) = c) : arA a k c = (0, 0, false) := by
  unfold arA
  rw [if_neg]
  rintro ⟨h1, h2⟩
  have : arAt a k (c.toNat - k) ∈ p.map (·.1) := by
    rw [h]
    unfold arL
    exact List.mem_map.2 ⟨c.toNat - k, by simp; omega, rfl⟩
  obtain ⟨x, hx, he⟩ := List.mem_map.1 this
  refine hc x hx ?_
  have he2 : x.1.2 = k + (c.toNat - k) := congrArg Prod.snd he
  omega

set_option maxRecDepth 100000 in
set_option maxHeartbeats 4000000 in
theorem leastB_c (a k : Nat) (ha : a ≤ 4096) (hk : k < 4) (c : Int) (b cb : Nat) (w : World) (hT : Tab w) (hbx : BBox w b a k) (hcb : w.cell? ⟨cb, 0, none⟩ = some (.int .i64 c)) :
    Calls Tryd.prog 41 #[.func (.func 47) #[] #[.pointer (some ⟨b, 0, none⟩)], .func (.func 43) #[] #[.pointer (some ⟨cb, 0, none⟩)]] w fun e w' => e = .returned (.tuple #[blkV (arA a k c).1 (arA a k c).2.1, .bool (arA a k c).2.2]) ∧ Below w.heap.size w w' := by
  refine (callsIn_wide (n := 9)).1 ?_
  refine callsIn_of_wp_marks Tryd.func41 rfl trivial ?_ rfl
  simp only [Tryd.ntmps41, List.size_toArray, List.length_cons, List.length_nil, Nat.reduceAdd, Nat.reduceSub, Array.replicate_succ, Array.replicate_zero, List.push_toArray, List.append_toArray, List.nil_append, List.cons_append]
  gi_wp2
  obtain ⟨fv, hfv⟩ : ∃ f : Value, f = Value.func (Fn.func 43) #[] #[.pointer (some ⟨cb, 0, none⟩)] := ⟨_, rfl⟩
  obtain ⟨w3, hw3⟩ : ∃ X : World, X = ((w.alloc (.cells #[fv] 34)).alloc (.cells #[.int .i64 0, .int .i64 0] 33)).alloc (.cells #[.bool false] 4) := ⟨_, rfl⟩
  rw [← hfv, ← hw3]
  have hB3 : Below w.heap.size w w3 := by rw [hw3]; exact (((Below.refl _ _).alloc (Nat.le_refl _) _).alloc (by simp) _).alloc (by simp; omega) _
  have hz3 : w3.heap.size = w.heap.size + 3 := by rw [hw3]; simp
  have hb0 : Boxed w3 w.heap.size 34 fv := by rw [hw3]; exact ((Boxed.new w _ _).alloc _).alloc _
  have hb1 : BBox w3 (w.heap.size + 1) 0 0 := by rw [hw3]; have := (BBox.new (w.alloc (.cells #[fv] 34)) 0 0).alloc (.cells #[.bool false] 4); simpa using this
  have hb2 : Boxed w3 (w.heap.size + 1 + 1) 4 (.bool false) := by rw [hw3]; have := Boxed.new ((w.alloc (.cells #[fv] 34)).alloc (.cells #[.int .i64 0, .int .i64 0] 33)) 4 (.bool false); simpa using this
  have HFV := Lib.hid hfv
  have HHB := Lib.hid hB3
  have HHT := Lib.hid hT
  have HHb := Lib.hid hbx
  have HHc := Lib.hid hcb
  have hbl := hbx.lt
  have hT0 := hT.lt
  have htb := hT.below hB3
  have hbb3 := hbx.below hB3
  clear hw3 hfv hT hbx hcb hB3
  generalize hz : w.heap.size = z at *
  refine wpIn_rangeBound rfl (by omega) (gf := 47) (bd := #[]) (lb := #[.pointer (some ⟨b, 0, none⟩)]) rfl trivial (enters_of Tryd.func47 (by kernel_rfl) rfl)
    (around_stops 8 (by omega) z b a k ha hk w3 (by omega) (by omega) (by omega) htb hbb3) (fun h k => h.trans k) (belowK_b (w := w3) (by omega)) (Below.refl _ _) (fun _ => rfl)
    (fun pre W => ((Boxed W z 34 fv ∧ BBox W (z + 1) 0 0) ∧ (Boxed W (z + 1 + 1) 4 (.bool false) ∧ ∀ x ∈ pre, ¬ (x.1.2 : Int) = c)) ∧ Below z w W)
    (fun cc p W => (BBox W (z + 1) (lastK p).1 (lastK p).2 ∧ (Boxed W (z + 1 + 1) 4 (.bool true) ∧ (cc = .ret ∧ p ≠ [] ∧ ((lastK p).2 : Int) = c))) ∧ Below z w W)
    ?hI ?hIx ?h0
    (fun s a' W => ∃ blk, (a' = { tmps := #[.func (.func 47) #[] #[.pointer (some ⟨b, 0, none⟩)], fv, undef, .pointer (some ⟨z, 0, none⟩), .pointer (some ⟨z + 1, 0, none⟩), .pointer (some ⟨z + 1 + 1, 0, none⟩), .pointer (some ⟨blk, 0, none⟩), undef, .func (.func 47) #[] #[.pointer (some ⟨b, 0, none⟩)], blkE s, undef, undef, undef, undef, undef], defers := [] } ∧ z + 1 + 1 < blk) ∧ BBox W blk s.1.1 s.1.2)
    ?hAx ?assign ?body ?done ?stop
  case hI => exact OwnFrom.and (OwnFrom.and (OwnFrom.and ((boxed_own _ _ _).from _) ((bbox_own _ _ _).from _)) (OwnFrom.and ((boxed_own _ _ _).from _) (ownFrom_pure _ _))) (ownFrom_below (Nat.le_of_eq hz.symm) (by omega))
  case hIx => exact fun cc => OwnFrom.and (OwnFrom.and (Own.from (bbox_own _ (fun p : List Blk => ((lastK p).1 : Int)) (fun p : List Blk => ((lastK p).2 : Int))) _) (OwnFrom.and ((boxed_own _ _ _).from _) (ownFrom_pure _ _))) (ownFrom_below (Nat.le_of_eq hz.symm) (by omega))
  case h0 => exact ⟨⟨⟨hb0, hb1⟩, hb2, fun x hx => by cases hx⟩, HHB.out⟩
  case hAx =>
    rintro s a' u X Y row ⟨blk, hpure, hs⟩ hg hr
    exact ⟨blk, hpure, (bbox_own blk (fun _ : Unit => (s.1.1 : Int)) (fun _ => (s.1.2 : Int))).from _ () X Y row hs hg hr⟩
  case assign =>
    intro l pre s W K hi hK
    have hlt := hi.1.2.1.lt
    have hzW : z ≤ W.heap.size := by omega
    gi_wp2
    exact hK _ _ ((KeepsOthers.alloc _ _).from _) ((Below.refl _ _).alloc hzW _) ⟨⟨⟨hi.1.1.1.alloc _, hi.1.1.2.alloc _⟩, hi.1.2.1.alloc _, hi.1.2.2⟩, hi.2.alloc hzW _⟩ ⟨W.heap.size, ⟨rfl, by omega⟩, BBox.new W _ _⟩
  case body =>
    rintro l pre s a' W hl _ ⟨⟨⟨hbf, hbi⟩, hbb, hlt⟩, hB⟩ ⟨blk, ⟨rfl, hblk⟩, hs⟩ hlen
    have hcf := hbf.cell
    obtain ⟨s0, s1⟩ := hs.cells
    have hzW : z ≤ W.heap.size := by have := hs.lt; omega
    rw [HFV.out] at hcf
    gi_wp2_with fail
    have HC := around1_c s c cb W (below_cell (by rw [hz]; exact hB) HHc.out)
    refine ⟨trivial, (CallsIn.inRound l (callsIn_wide.2 HC)).mono ?_⟩
    clear HC
    rintro e W2 ⟨rfl, hb2⟩
    have hB2 := below_then hB hzW hb2
    have g0 := boxed_below hbf hb2
    have g1 := hbi.below hb2
    have g2 := boxed_below hbb hb2
    have gs := hs.below hb2
    have hk2 : KeepsFrom w3.heap.size W W2 := keepsFrom_below hb2
    have hw2 : Below z W W2 := hb2.mono hzW
    by_cases hle : (s.1.2 : Int) = c
    · rw [show ((s.1.2 : Int) == c) = true by simp [hle]]
      clear hcf s0 s1
      obtain ⟨s0, s1⟩ := gs.cells
      obtain ⟨i0, i1⟩ := g1.cells
      obtain ⟨f0, f1⟩ := g1.free
      have hcb := g2.cell
      have hfb := g2.frozen
      have G1 := Lib.hid ((g1.put (s.1.1 : Int) (s.1.2 : Int)).other (y := z + 1 + 1) (o := 0) (by omega) (.bool true))
      have G2 := Lib.hid ((boxed_put2 g2 (y := z + 1) (by omega) (.int .i64 (s.1.1 : Int)) (.int .i64 (s.1.2 : Int))).set (.bool true))
      have HLE := Lib.hid hle
      clear hle
      gi_wp2
      refine ⟨hk2.trans ((((KeepsOthers.setCell _ _ _).trans (KeepsOthers.setCell _ _ _)).trans (KeepsOthers.setCell _ _ _)).from _), ⟨?_, ?_, rfl, by simp, by rw [lastK_snoc]; exact HLE.out⟩, ?_⟩
      · rw [lastK_snoc]; exact G1.out
      · exact G2.out
      · exact ((hB2.setCell (p := ⟨z + 1, 0, none⟩) (by simp) _).setCell (p := ⟨z + 1, 1, none⟩) (by simp) _).setCell (p := ⟨z + 1 + 1, 0, none⟩) (by simp; omega) _
    · rw [show ((s.1.2 : Int) == c) = false by simp [hle]]
      gi_wp2
      refine ⟨hk2, hw2, ⟨⟨g0, g1⟩, g2, fun x hx => ?_⟩, hB2⟩
      rcases List.mem_append.1 hx with h | h
      · exact hlt x h
      · rw [List.mem_singleton.1 h]; exact hle
  case done =>
    rintro D xs W hD hxs ⟨⟨⟨hbf, hbi⟩, hbb, hlt⟩, hB⟩ hK
    have hA := Lib.hid (arA_no hxs hlt)
    have hzW : z + 1 + 1 < W.heap.size := hbb.lt
    obtain ⟨W1, hW1⟩ : ∃ X : World, X = W.alloc (.cells #[.int .i64 0, .int .i64 0] 33) := ⟨_, rfl⟩
    have hK1 : W1.heap[D]? = some (.deferred (some [])) := by rw [hW1]; exact (KeepsOthers.alloc _ _).same D _ hK rfl
    have hB1 : Below z w W1 := by rw [hW1]; exact hB.alloc (by omega) _
    have g1 : BBox W1 (z + 1) 0 0 := by rw [hW1]; exact hbi.alloc _
    have g2 : Boxed W1 (z + 1 + 1) 4 (.bool false) := by rw [hW1]; exact hbb.alloc _
    have gn : BBox W1 W.heap.size 0 0 := by rw [hW1]; exact BBox.new _ _ _
    obtain ⟨i0, i1⟩ := g1.cells
    obtain ⟨n0, n1⟩ := gn.cells
    obtain ⟨f0, f1⟩ := g1.free
    have hcb := g2.cell
    have hfb := g2.frozen
    rw [hW1] at i0 i1 n0 n1 f0 f1 hcb hfb
    gi_wp2
    rw [← hW1]
    obtain ⟨W2, hW2⟩ : ∃ X : World, X = ((W1.setCell ⟨z + 1, 0, none⟩ (.int .i64 0)).setCell ⟨z + 1, 1, none⟩ (.int .i64 0)).setCell ⟨z + 1 + 1, 0, none⟩ (.bool false) := ⟨_, rfl⟩
    have hK2 : W2.heap[D]? = some (.deferred (some [])) := by rw [hW2]; exact (((KeepsOthers.setCell _ _ _).trans (KeepsOthers.setCell _ _ _)).trans (KeepsOthers.setCell _ _ _)).same D _ hK1 rfl
    have hB2 : Below z w W2 := by rw [hW2]; exact ((hB1.setCell (p := ⟨z + 1, 0, none⟩) (by simp) _).setCell (p := ⟨z + 1, 1, none⟩) (by simp) _).setCell (p := ⟨z + 1 + 1, 0, none⟩) (by simp; omega) _
    have G1 : BBox W2 (z + 1) 0 0 := by rw [hW2]; exact (g1.put 0 0).other (by omega) _
    have G2 : Boxed W2 (z + 1 + 1) 4 (.bool false) := by rw [hW2]; exact (boxed_put2 g2 (by omega) _ _).set _
    rw [← hW2]
    clear hW2 i0 i1 n0 n1 f0 f1 hcb hfb
    refine ⟨by simp, .inl ⟨_, _, rfl, run_takeDeferred hK2, ?_⟩⟩
    have hd : Below z W2 (W2.putObj D (.deferred none)) := belowK_b (w := w) (Nat.le_of_eq hz.symm) W2 D _ _ (by omega) hK2 rfl rfl
    have c1 : BBox (W2.putObj D (.deferred none)) (z + 1) 0 0 := (World.putObj_heap_other (by omega)).trans G1
    have c2 : (W2.putObj D (.deferred none)).cell? ⟨z + 1 + 1, 0, none⟩ = some (.bool false) := (World.cell?_of_block (World.putObj_heap_other (by show z + 1 + 1 ≠ D; omega))).trans G2.cell
    obtain ⟨r0, r1⟩ := c1.cells
    refine ⟨.tuple #[blkV 0 0, .bool false], ?_, by rw [hA.out], by rw [hz]; exact hB2.trans hd⟩
    generalize World.putObj _ _ _ = W4 at r0 r1 c2 ⊢
    simp [results, Tryd.results41, go_sem, r0, r1, c2]
  case stop =>
    rintro D cc pre W hD ⟨hpl, hpre⟩ ⟨⟨hbi, hbb, rfl, hne, hle⟩, hB⟩ hK
    have hA := Lib.hid (arA_yes hne hpl hpre hle)
    gi_wp2
    refine ⟨by simp, .inl ⟨_, _, rfl, run_takeDeferred hK, ?_⟩⟩
    have hd : Below z W (W.putObj D (.deferred none)) := belowK_b (w := w) (Nat.le_of_eq hz.symm) W D _ _ (by omega) hK rfl rfl
    have c1 : BBox (W.putObj D (.deferred none)) (z + 1) (lastK pre).1 (lastK pre).2 := (World.putObj_heap_other (by omega)).trans hbi
    have c2 : (W.putObj D (.deferred none)).cell? ⟨z + 1 + 1, 0, none⟩ = some (.bool true) := (World.cell?_of_block (World.putObj_heap_other (by show z + 1 + 1 ≠ D; omega))).trans hbb.cell
    obtain ⟨r0, r1⟩ := c1.cells
    refine ⟨.tuple #[blkV (lastK pre).1 (lastK pre).2, .bool true], ?_, by rw [hA.out], by rw [hz]; exact hB.trans hd⟩
    generalize World.putObj _ _ _ = W4 at r0 r1 c2 ⊢
    simp [results, Tryd.results41, go_sem, r0, r1, c2]

end Go.Proofs.YtklbbcaebdfjeaaDoor
