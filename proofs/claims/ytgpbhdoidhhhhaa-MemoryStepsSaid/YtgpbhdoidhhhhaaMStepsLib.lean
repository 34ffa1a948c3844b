/-
  Opening a row of accesses; the first of them in a row of their own; and what accesses come to, one behind the other.
  Conditions: as each has them.
-/
import Derived.Test.YtgpbhdoidhhhhaaMRefStep
import Derived.Test.YtgpbhdoidhhhhaaMOpen
namespace Go.Proofs.Ytgpbhdoidhhhhaa
open Go.RowKit Go.Shelf
open Go.ChangeShapes Go.WideShapes Go.ChangeAt Go.Deep

/-- The cells of a row of accesses. -/
def flatA : List Acc → List Value
  | [] => []
  | x :: r => .int .i64 x.k :: .int .i64 x.a :: .int .u64 x.o :: .int .u64 x.n :: flatA r
theorem flatA_length (l : List Acc) : (flatA l).length = l.length * 4 := by
  induction l with
  | nil => rfl
  | cons x r ih => simp only [flatA, List.length_cons, ih]; omega
theorem flatA_get : ∀ (l : List Acc) (i : Nat) (h : i < l.length), (flatA l)[i * 4]? = some (.int .i64 l[i].k) ∧ (flatA l)[i * 4 + 1]? = some (.int .i64 l[i].a) ∧ (flatA l)[i * 4 + 2]? = some (.int .u64 l[i].o) ∧ (flatA l)[i * 4 + 3]? = some (.int .u64 l[i].n)
  | x :: r, 0, _ => by simp [flatA]
  | x :: r, i + 1, h => by
    have := flatA_get r i (by simpa using h)
    rw [show (i + 1) * 4 = i * 4 + 4 by omega]
    simpa [flatA] using this
theorem flatA_at : ∀ (l : List Acc) (j : Nat) (u : Value), (flatA l)[j]? = some u → ∃ i, ∃ h : i < l.length, (j = i * 4 ∧ u = .int .i64 l[i].k) ∨ (j = i * 4 + 1 ∧ u = .int .i64 l[i].a) ∨ (j = i * 4 + 2 ∧ u = .int .u64 l[i].o) ∨ (j = i * 4 + 3 ∧ u = .int .u64 l[i].n)
  | [], j, u, h => by simp [flatA] at h
  | x :: r, 0, u, h => ⟨0, by simp, .inl ⟨rfl, by simpa [flatA] using h.symm⟩⟩
  | x :: r, 1, u, h => ⟨0, by simp, .inr (.inl ⟨rfl, by simpa [flatA] using h.symm⟩)⟩
  | x :: r, 2, u, h => ⟨0, by simp, .inr (.inr (.inl ⟨rfl, by simpa [flatA] using h.symm⟩))⟩
  | x :: r, 3, u, h => ⟨0, by simp, .inr (.inr (.inr ⟨rfl, by simpa [flatA] using h.symm⟩))⟩
  | x :: r, j + 4, u, h => by
    obtain ⟨i, hi, hh⟩ := flatA_at r j u (by simpa [flatA] using h)
    refine ⟨i + 1, by simpa using hi, ?_⟩
    rcases hh with ⟨rfl, rfl⟩ | ⟨rfl, rfl⟩ | ⟨rfl, rfl⟩ | ⟨rfl, rfl⟩
    · exact .inl ⟨by omega, by simp⟩
    · exact .inr (.inl ⟨by omega, by simp⟩)
    · exact .inr (.inr (.inl ⟨by omega, by simp⟩))
    · exact .inr (.inr (.inr ⟨by omega, by simp⟩))
theorem flatA_one (l : List Acc) : ∀ u ∈ flatA l, u.oneCell' = true := fun u hu => by
  obtain ⟨j, hj⟩ := List.mem_iff_getElem?.1 hu
  obtain ⟨i, hi, h⟩ := flatA_at l j u hj
  rcases h with ⟨_, rfl⟩ | ⟨_, rfl⟩ | ⟨_, rfl⟩ | ⟨_, rfl⟩ <;> rfl
theorem accs_of_owns {B : Nat} {E : TypeId} {W : World} {v : Value} {l : List Acc} {n : Nat} (hl : l.length = n) (h : W.ownsRow B E 4 v n (flatA l)) : AccsAt W v l := by
  subst hl
  rcases h.2 with ⟨rfl, h0⟩ | ⟨g, cap, cur, rfl, _⟩
  · obtain rfl : l = [] := List.eq_nil_of_length_eq_zero h0
    exact ⟨none, 0, rfl, fun h => absurd rfl h⟩
  · refine ⟨_, _, rfl, fun _ => ⟨g, 0, rfl, fun i hi => ?_⟩⟩
    obtain ⟨e0, e1, e2, e3⟩ := flatA_get l i hi
    rw [Nat.zero_add]
    exact ⟨(h.cellAt _ (by omega)).trans e0, (h.cellAt _ (by omega)).trans e1, (h.cellAt _ (by omega)).trans e2, (h.cellAt _ (by omega)).trans e3⟩
/-- A row of accesses that came in. -/
def ArgA (W : World) (v : Value) (l : List Acc) : Prop := ∃ p n c, v = .slice p n c ∧ n = l.length ∧ n ≤ c ∧ ((p = none ∧ n = 0 ∧ c = 0) ∨ ∃ a : Addr, p = some a ∧ ∀ j u, (flatA l)[j]? = some u → W.cell? (a.add j) = some u)

theorem accs_open {H : Type} {enc : TypeId × Value → H} {W : World} {base : Nat} {v : Value} {d : DataW H} {ps : List MemPlace}
    (hval : Value.okWide Try.prog W .any base 40 v) (h : DataW.Trod enc Try.prog W 0 (fun _ => true) true 40 v d ps) :
    ∃ l : List Acc, ArgA W v l ∧ l.length ≤ 9223372036854775807 := by
  obtain ⟨a0, len, cap, rfl⟩ := okWide_slice Try.underlying40 hval
  obtain ⟨fuel, hf⟩ := h
  have hce : Try.prog.cellsOf 44 = 4 := by kernel_rfl
  have hci : Try.prog.cellsOf 3 = 1 := by kernel_rfl
  have hcu : Try.prog.cellsOf 42 = 1 := by kernel_rfl
  rcases open_slice Try.underlying40 hf with ⟨hcs, _⟩ | ⟨a, len', cap', m, n, D, Pl, hcs, _, hl, hm, hmm, _, hall⟩
  · simp [Value.cells] at hcs
    obtain ⟨rfl, rfl, rfl⟩ := hcs
    exact ⟨[], ⟨_, _, _, rfl, rfl, Nat.le_refl _, .inl ⟨rfl, rfl, rfl⟩⟩, by decide⟩
  · simp [Value.cells] at hcs
    obtain ⟨rfl, rfl, rfl⟩ := hcs
    simp only [if_true] at hmm
    have hone : ∀ i, i < len → ∃ x : Acc, W.cell? (a.add (i * 4)) = some (.int .i64 x.k) ∧ W.cell? (a.add (i * 4 + 1)) = some (.int .i64 x.a) ∧ W.cell? (a.add (i * 4 + 2)) = some (.int .u64 x.o) ∧ W.cell? (a.add (i * 4 + 3)) = some (.int .u64 x.n) := by
      intro i hi
      obtain ⟨cs', hc, ht⟩ := hall i (by omega)
      rw [hce] at hc
      obtain ⟨_, hcl, hat⟩ := World.cells?_some hc
      obtain ⟨xs, k, _, _, _, hlx, hx⟩ := DataW.trod_struct Try.underlying44 ht
      have hlx : xs.length = 4 := hlx
      match cs', hcl with
      | [c0, c1, c2, c3], _ =>
        have h0 : DataW.trod enc Try.prog W 0 (fun _ => true) true k 3 (([c0, c1, c2, c3].drop 0).take (Try.prog.cellsOf 3)) = xs[0]? := hx 0 _ rfl
        have h1 : DataW.trod enc Try.prog W 0 (fun _ => true) true k 3 (([c0, c1, c2, c3].drop 1).take (Try.prog.cellsOf 3)) = xs[1]? := hx 1 _ rfl
        have h2 : DataW.trod enc Try.prog W 0 (fun _ => true) true k 42 (([c0, c1, c2, c3].drop 2).take (Try.prog.cellsOf 42)) = xs[2]? := hx 2 _ rfl
        have h3 : DataW.trod enc Try.prog W 0 (fun _ => true) true k 42 (([c0, c1, c2, c3].drop 3).take (Try.prog.cellsOf 42)) = xs[3]? := hx 3 _ rfl
        rw [hci] at h0 h1
        rw [hcu] at h2 h3
        simp only [List.drop_zero, List.take_succ_cons, List.take_zero, List.drop_succ_cons] at h0 h1 h2 h3
        rw [List.getElem?_eq_getElem (by omega)] at h0 h1 h2 h3
        have e0 := hat 0 (by decide)
        have e1 := hat 1 (by decide)
        have e2 := hat 2 (by decide)
        have e3 := hat 3 (by decide)
        rw [Go.Deep.add_add] at e0 e1 e2 e3
        obtain ⟨x0, y0, _, _⟩ := DataW.trod_int Try.underlying3 h0
        obtain ⟨x1, y1, _, _⟩ := DataW.trod_int Try.underlying3 h1
        obtain ⟨x2, y2, _, _⟩ := DataW.trod_int Try.underlying42 h2
        obtain ⟨x3, y3, _, _⟩ := DataW.trod_int Try.underlying42 h3
        simp only [List.cons.injEq, and_true] at y0 y1 y2 y3
        subst y0 y1 y2 y3
        exact ⟨⟨x0, x1, x2, x3⟩, by simpa using e0, by simpa using e1, by simpa using e2, by simpa using e3⟩
    have hone' : ∀ i, i < len → ∃ x : Acc, W.cell? (a.add (i * 4)) = some (.int .i64 x.k) ∧ W.cell? (a.add (i * 4 + 1)) = some (.int .i64 x.a) ∧ W.cell? (a.add (i * 4 + 2)) = some (.int .u64 x.o) ∧ W.cell? (a.add (i * 4 + 3)) = some (.int .u64 x.n) := hone
    have hF := fun i hi => Classical.choose_spec (hone' i hi)
    refine ⟨(List.range len).map fun i => if h : i < len then Classical.choose (hone' i h) else ⟨0, 0, 0, 0⟩, ⟨_, _, _, rfl, by simp, hl, .inr ⟨a, rfl, fun j u hj => ?_⟩⟩, by simp; unfold maxLen at hm; omega⟩
    obtain ⟨i, hi, hh⟩ := flatA_at _ j u hj
    have hi2 : i < len := by simpa using hi
    obtain ⟨f0, f1, f2, f3⟩ := hF i hi2
    have hg : ((List.range len).map fun i => if h : i < len then Classical.choose (hone' i h) else (⟨0, 0, 0, 0⟩ : Acc))[i] = Classical.choose (hone' i hi2) := by simp [hi2]
    rw [hg] at hh
    rcases hh with ⟨rfl, rfl⟩ | ⟨rfl, rfl⟩ | ⟨rfl, rfl⟩ | ⟨rfl, rfl⟩
    · exact f0
    · exact f1
    · exact f2
    · exact f3

theorem run_cutS {T : TypeId} (s : Nat) (hT : Try.prog.underlying T = some (.slice (Try.prog.elem T))) (hE : ∀ wx, (sizeOf (Try.prog.elem T)).run Try.prog wx = .ok s wx) (p : Option Addr) (n c k : Nat) (h : k ≤ c) (wx : World) :
    (Instr.slice T (.slice p n c) none (some (.int .i64 (k : Int))) none).run Try.prog wx = .ok (.slice p k c) wx := by
  rw [run_slice_h wx T p n c hT .i64 (k : Int) (by omega) (by omega), hE]
  have : Option.map (fun x : Addr => x.add 0) p = p := by cases p <;> simp [Addr.add_zero']
  simp [sliced, Result.andThen, this]
theorem flatA_take (l : List Acc) (m : Nat) (j : Nat) (u : Value) (h : (flatA (l.take m))[j]? = some u) : (flatA l)[j]? = some u := by
  obtain ⟨i, hi, hh⟩ := flatA_at _ j u h
  have hi2 : i < l.length := by simp at hi; omega
  obtain ⟨e0, e1, e2, e3⟩ := flatA_get l i hi2
  rw [List.getElem_take] at hh
  rcases hh with ⟨rfl, rfl⟩ | ⟨rfl, rfl⟩ | ⟨rfl, rfl⟩ | ⟨rfl, rfl⟩
  · exact e0
  · exact e1
  · exact e2
  · exact e3
/-- What slices.Clone answers of the first accesses. -/
theorem cloneA_c {W w : World} {p : Option Addr} {n c : Nat} {l : List Acc} (hn : n = l.length) (h : (p = none ∧ n = 0 ∧ c = 0) ∨ ∃ a : Addr, p = some a ∧ ∀ j u, (flatA l)[j]? = some u → W.cell? (a.add j) = some u) (hb : Below W.heap.size W w) :
    Calls Try.prog 19 #[.slice p (min n 16) c] w fun e w' => (∃ q d, e = .returned (.slice q (l.take 16).length d) ∧ AccsAt w' (.slice q (l.take 16).length d) (l.take 16)) ∧ Below w.heap.size w w' := by
  have hlen : (l.take 16).length = min n 16 := by rw [List.length_take, hn]; omega
  refine (cloneA _ (min n 16) (flatA (l.take 16)) w ⟨by rw [flatA_length, hlen], p, c, rfl, ?_⟩ (flatA_one _) (by omega)).mono fun e w' hh => ⟨?_, hh.2⟩
  · rcases h with ⟨rfl, rfl, rfl⟩ | ⟨a, rfl, hc⟩
    · exact .inl ⟨rfl, rfl, rfl⟩
    · exact .inr ⟨a, rfl, fun j u hj => below_cell hb (hc j u (flatA_take l 16 j u hj))⟩
  · obtain ⟨v', rfl, ho⟩ := hh.1
    obtain ⟨q, d, rfl⟩ := owns_slice ho
    rw [← hlen] at ho ⊢
    exact ⟨q, d, rfl, accs_of_owns rfl ho⟩

theorem mbox_ne {w : World} {z b o : Nat} {p0 p1 : Option Addr} {n0 c0 n1 c1 : Nat} {f : Bool} {k : IntKind} {n : Int} (h : MBox w z (.slice p0 n0 c0) (.slice p1 n1 c1) f) (hc : w.cell? ⟨b, o, none⟩ = some (.int k n)) : b ≠ z := by
  rintro rfl
  have h' : w.heap[b]? = _ := h
  rcases o with _ | _ | _ | o <;> simp [World.cell?, h'] at hc
/-- Ahead of the first access of no kind: what the steps came to. -/
def GoodRel (lo0 lo z7 : Nat) (ms : List Bool) (us : List Int) (f : Bool) (done : List Acc) (u : List Int) (f1 : Bool) (ev av : Value) (wr : World) : Prop :=
  kindAll done = true ∧ ev = .int .i64 0 ∧ ∃ gots pt ct qt dt, runS ms us f done = (u, f1, gots) ∧ PVar wr lo wr.heap.size z7 (.slice pt u.length ct) (.slice qt ms.length dt) u ms f1 ∧ wr.ownsRow lo0 47 2 av done.length (flatG gots)
/-- Behind it. -/
def BadRel (z7 : Nat) (done : List Acc) (ev : Value) (wr : World) : Prop :=
  kindAll done = false ∧ ev = .int .i64 121 ∧ ∃ pt nt ct qt mt dt ft, MBox wr z7 (.slice pt nt ct) (.slice qt mt dt) ft
theorem kindAll_snoc (l : List Acc) (x : Acc) : kindAll (l ++ [x]) = (kindAll l && kindB x.k) := by simp [kindAll]
theorem BadRel.keeps {z7 : Nat} {done : List Acc} {ev : Value} {wr w2 : World} (h : BadRel z7 done ev wr) {S : Nat → Prop} (hk : Keeps S wr w2) (hS : ¬ S z7) : BadRel z7 done ev w2 := by
  obtain ⟨h1, h2, pt, nt, ct, qt, mt, dt, ft, hb⟩ := h
  exact ⟨h1, h2, pt, nt, ct, qt, mt, dt, ft, hb.keeps hk hS⟩
theorem BadRel.more {z7 : Nat} {done : List Acc} {ev : Value} {wr : World} (h : BadRel z7 done ev wr) (x : Acc) : BadRel z7 (done ++ [x]) ev wr := by
  obtain ⟨h1, h2, hb⟩ := h
  exact ⟨by rw [kindAll_snoc, h1]; rfl, h2, hb⟩
theorem accM_right {ws : List Int} {ls : List Bool} (h : rightB ws ls = true) (f : Bool) (k a o n : Int) : rightB (accM ws ls f k a o n).1 ls = true := by
  unfold accM
  cases hl : liveAt ws ls a with
  | false => simpa using h
  | true =>
    simp only [if_true]
    split
    · exact h
    · split
      · exact rightB_set h hl n
      · exact h

theorem StepOk.rows {B : Nat} {ls : List Bool} {r : List Int × Bool × (Int × Bool)} {us : List Int} {f : Bool} {g : Int} {d : Bool} {e : Ending} {w' : World} (h : StepOk B ls r e w') (hr : r = (us, f, g, d)) :
    ∃ p0 c0 p1 c1, e = .returned (.tuple #[.agg #[.slice p0 us.length c0, .slice p1 ls.length c1, .bool f], .agg #[.int .u64 g, .bool d], .int .i64 0]) ∧
    w'.ownsRow B 42 1 (.slice p0 us.length c0) us.length (us.map (Value.int .u64)) ∧ w'.ownsRow B 4 1 (.slice p1 ls.length c1) ls.length (ls.map Value.bool) := by
  subst hr
  obtain ⟨gw, cw, gl, cl, rfl, h0, h1⟩ := h
  exact ⟨_, _, _, _, rfl, h0, h1⟩
theorem RefStep.rows {B : Nat} {ls : List Bool} {us : List Int} {f : Bool} {g : Int} {d : Bool} {e : Ending} {w' : World} (h : RefStep B ls (us, f, g, d) e w') :
    ∃ p0 c0 p1 c1, e = .returned (.tuple #[.agg #[.slice p0 us.length c0, .slice p1 ls.length c1, .bool f], .agg #[.int .u64 g, .bool d]]) ∧
    w'.ownsRow B 42 1 (.slice p0 us.length c0) us.length (us.map (Value.int .u64)) ∧ w'.ownsRow B 4 1 (.slice p1 ls.length c1) ls.length (ls.map Value.bool) := by
  obtain ⟨_, rfl, _, _, rfl, h0, h1⟩ := h
  obtain ⟨p0, c0, rfl⟩ := owns_slice h0
  obtain ⟨p1, c1, rfl⟩ := owns_slice h1
  exact ⟨_, _, _, _, rfl, h0, h1⟩
theorem PVar.drew {w : World} {lo hi z : Nat} {x y : Value} {ws : List Int} {ls : List Bool} {f : Bool} (h : PVar w lo hi z x y ws ls f) : PVar w.drew lo hi z x y ws ls f :=
  h.keeps (S := fun _ => False) ⟨rfl, rfl, rfl, Nat.le_refl _, fun _ _ _ => rfl⟩ (fun _ h => h.elim)

end Go.Proofs.Ytgpbhdoidhhhhaa
