/-
  Package pool: the row of flags, a whole array in a block of its own; and a pool that changes.
  Conditions: none.
-/
import Derived.Test.YthjkaabbbhfjhaaPFits
import Derived.Deep.MidRow
import Derived.OwnWalkIn
import Derived.RangeFuncBox
namespace Go.Proofs.Ythjkaabbbhfjhaa
open Go.RowKit Go.Shelf

section
variable {F : Fence} {n : Nat} {P : Program}
theorem wpListIn_load_mid {ops : Array Oper} {rest : List Oper} {op : Oper} {a : Act} {w : World} {Q : Exit → Act → World → Prop} (hgd : op.guard = none) (ty : TypeId) (x : Operand) (ho : op.op = .load ty x)
    (b o : Nat) (hx : a.eval x = .pointer (some ⟨b, o, none⟩)) (cs : List Value) (d : TypeDesc) (hc : w.rangeAt b o cs)
    (hu : P.underlying ty = some d) (hd : d.isRow = true) (hi : (P.info? ty).map (·.size) = some cs.length)
    (h : wpListIn F n P ops Q rest (a.put op.dst (.agg cs.toArray)) w) : wpListIn F n P ops Q (op :: rest) a w := by
  refine wpListIn_plain hgd fun K hK => ?_
  unfold Oper.wpIn
  refine ⟨?_, ?_⟩
  · simp [Oper.about, ho]
  · rw [Oper.semAt_plain F _ _ (by rw [ho]; intro c hc'; cases hc')]
    unfold execOp
    simp only [ho, hx, Instr.loadAt, Instr.sureAddr, Sem.run_bind, Sem.run_pure, Result.andThen_ok, run_loadVar_mid w b o ty cs d hc hu hd hi]
    exact hK _ _ h
theorem wpListIn_store_mid {ops : Array Oper} {rest : List Oper} {op : Oper} {a : Act} {w : World} {Q : Exit → Act → World → Prop} (hgd : op.guard = none) (ty : TypeId) (x y : Operand) (ho : op.op = .store ty x y)
    (b o : Nat) (cells : Array Value) (hx : a.eval x = .pointer (some ⟨b, o, none⟩)) (hy : a.eval y = .agg cells)
    (ht : w.there b o cells.size) (hi : (P.info? ty).map (·.size) = some cells.size) (h1 : cells.all (·.oneCell') = true)
    (h : wpListIn F n P ops Q rest (a.put op.dst undef) (w.setCells b o cells.toList)) : wpListIn F n P ops Q (op :: rest) a w := by
  refine wpListIn_plain hgd fun K hK => ?_
  unfold Oper.wpIn
  refine ⟨?_, ?_⟩
  · simp [Oper.about, ho]
  · rw [Oper.semAt_plain F _ _ (by rw [ho]; intro c hc'; cases hc')]
    unfold execOp
    simp only [ho, hx, hy, Instr.storeAt, Instr.sureAddr, Sem.run_bind, Sem.run_pure, Result.andThen_ok, run_storeVar_mid w b o ty cells ht hi h1]
    exact hK _ _ h
end

/-- Which of the first 64 numbers are in a row. -/
def flg (l : List Int) : List Bool := (List.range 64).map fun (i : Nat) => decide ((i : Int) ∈ l)
theorem flg_len (l : List Int) : (flg l).length = 64 := by simp [flg]
theorem flg_get (l : List Int) (i : Nat) (h : i < 64) : (flg l)[i]'(by rw [flg_len]; exact h) = decide ((i : Int) ∈ l) := by simp [flg]
theorem flg_nil : flg [] = List.replicate 64 false := by decide
theorem flg_snoc (l : List Int) (x : Nat) : (flg l).set x true = flg (l ++ [(x : Int)]) := by
  refine List.ext_getElem (by simp [flg]) fun i h1 h2 => ?_
  rw [flg_len] at h2
  rw [List.getElem_set, flg_get _ _ h2]
  split
  · rename_i e; subst e; rw [flg_get _ _ h2]; simp
  · rename_i e
    rw [flg_get _ _ h2]
    have e' : ¬ (i : Int) = (x : Int) := fun h => e (by omega)
    simp [e']
theorem flg_rev (l : List Int) : flg l.reverse = flg l := by simp [flg]

/-- A block that holds 64 truth values. -/
def FBox (W : World) (z : Nat) (bs : List Bool) : Prop := bs.length = 64 ∧ W.heap[z]? = some (.cells (bs.map Value.bool).toArray 60 (0, 0))
theorem FBox.lt {W : World} {z : Nat} {bs : List Bool} (h : FBox W z bs) : z < W.heap.size := (Array.getElem?_eq_some_iff.1 h.2).1
theorem FBox.below {W W' : World} {z : Nat} {bs : List Bool} (h : FBox W z bs) (hb : Below W.heap.size W W') : FBox W' z bs := ⟨h.1, (hb.block z h.lt).trans h.2⟩
theorem FBox.keeps {S : Nat → Prop} {W W' : World} {z : Nat} {bs : List Bool} (h : FBox W z bs) (hk : Keeps S W W') (hz : ¬ S z) : FBox W' z bs := ⟨h.1, (hk.block z h.lt hz).trans h.2⟩
theorem FBox.cell {W : World} {z : Nat} {bs : List Bool} (h : FBox W z bs) (i : Nat) (hi : i < bs.length) : W.cell? ⟨z, i, none⟩ = some (.bool bs[i]) := by
  have h' := h.2
  simp [World.cell?, h', hi]
theorem FBox.mark {W : World} {z : Nat} {bs : List Bool} (h : FBox W z bs) (i : Nat) : W.frozen? ⟨z, i, none⟩ = false := by
  have h' := h.2
  simp [World.frozen?, h']
theorem FBox.range {W : World} {z : Nat} {bs : List Bool} (h : FBox W z bs) : W.rangeAt z 0 (bs.map Value.bool) := fun j v hv => by
  obtain ⟨hj, rfl⟩ := List.getElem?_eq_some_iff.1 hv
  rw [Nat.zero_add, h.cell j (by simpa using hj)]
  simp
theorem FBox.there {W : World} {z : Nat} {bs : List Bool} (h : FBox W z bs) : W.there z 0 64 := fun j hj => by
  rw [Nat.zero_add]
  exact ⟨by rw [h.cell j (by rw [h.1]; exact hj)]; rfl, h.mark j⟩
theorem FBox.set {W : World} {z : Nat} {bs : List Bool} (h : FBox W z bs) (i : Nat) (x : Bool) : FBox (W.setCell ⟨z, i, none⟩ (.bool x)) z (bs.set i x) := by
  refine ⟨by rw [List.length_set]; exact h.1, ?_⟩
  rw [heap_setCell_same W z i _ _ (.bool x) h.2]
  simp [List.map_set]
theorem heap_setCells (b : Nat) (T : TypeId) : ∀ (vs pre mid post : List Value) (W : World), W.heap[b]? = some (.cells (pre ++ (mid ++ post)).toArray T (0, 0)) → mid.length = vs.length →
    (W.setCells b pre.length vs).heap[b]? = some (.cells (pre ++ (vs ++ post)).toArray T (0, 0))
  | [], pre, mid, post, W, h, hl => by
    obtain rfl : mid = [] := List.eq_nil_of_length_eq_zero hl
    exact h
  | v :: r, pre, [], post, W, h, hl => by simp at hl
  | v :: r, pre, m :: mr, post, W, h, hl => by
    rw [World.setCells]
    have h1 : (W.setCell ⟨b, pre.length, none⟩ v).heap[b]? = some (.cells ((pre ++ [v]) ++ (mr ++ post)).toArray T (0, 0)) := by
      rw [heap_setCell_same W b pre.length _ _ v h]
      simp
    have h2 := heap_setCells b T r (pre ++ [v]) mr post _ h1 (by simpa using hl)
    rw [List.length_append, List.length_singleton] at h2
    rw [h2, List.append_assoc]
    rfl
theorem FBox.put {W : World} {z : Nat} {bs : List Bool} (h : FBox W z bs) (bs' : List Bool) (h' : bs'.length = 64) : FBox (W.setCells z 0 (bs'.map Value.bool)) z bs' := by
  refine ⟨h', ?_⟩
  have h1 := heap_setCells z 60 (bs'.map Value.bool) [] (bs.map Value.bool) [] W (by simpa using h.2) (by simp [h.1, h'])
  simpa using h1
theorem Keeps.setCells (b : Nat) : ∀ (vs : List Value) (o : Nat) (W : World), Keeps (fun k => k = b) W (W.setCells b o vs)
  | [], _, W => Keeps.refl _ W
  | v :: r, o, W => by
    rw [World.setCells]
    exact (Keeps.setCell W (S := (· = b)) (p := ⟨b, o, none⟩) rfl v).trans (Keeps.setCells b r (o + 1) _)
theorem run_fmap {α β : Type} {P : Program} (f : α → β) (s : Sem α) (w : World) : Sem.run P (f <$> s) w = (Sem.run P s w).andThen fun a w' => .ok (f a) w' := by
  show Sem.run P (s >>= fun a => pure (f a)) w = _
  rw [Sem.run_bind]
  rfl
/-- Two results out of cells. -/
theorem results_cell2 {fn : Func} {a b : Tmp} {t u : TypeId} (h : fn.results = #[.cell a t, .cell b u]) (tmps : Array Value) (P : Program) (w : World) {p q : Addr} {x y : Value} (ha : tmps.getD a undef = .pointer (some p)) (hb : tmps.getD b undef = .pointer (some q))
    (hx : (loadVar t p).run P w = .ok x w) (hy : (loadVar u q).run P w = .ok y w) : (results fn tmps).run P w = .ok (.tuple #[x, y]) w := by
  unfold results
  rw [h]
  simp only [Array.mapM_eq_foldlM, List.foldlM_toArray, List.foldlM_cons, List.foldlM_nil, ha, hb, asAddr, run_fmap, Sem.run_bind, Sem.run_pure, Result.andThen_ok, hx, hy]
  rfl
/-- Three results out of cells. -/
theorem results_cell3 {fn : Func} {a b c : Tmp} {t u v : TypeId} (h : fn.results = #[.cell a t, .cell b u, .cell c v]) (tmps : Array Value) (P : Program) (w : World) {p q r : Addr} {x y z : Value} (ha : tmps.getD a undef = .pointer (some p)) (hb : tmps.getD b undef = .pointer (some q)) (hc : tmps.getD c undef = .pointer (some r))
    (hx : (loadVar t p).run P w = .ok x w) (hy : (loadVar u q).run P w = .ok y w) (hz : (loadVar v r).run P w = .ok z w) : (results fn tmps).run P w = .ok (.tuple #[x, y, z]) w := by
  unfold results
  rw [h]
  simp only [Array.mapM_eq_foldlM, List.foldlM_toArray, List.foldlM_cons, List.foldlM_nil, ha, hb, hc, asAddr, run_fmap, Sem.run_bind, Sem.run_pure, Result.andThen_ok, hx, hy, hz]
  rfl
theorem flag_info : (Try.prog.info? 60).map (·.size) = some 64 := by kernel_rfl
theorem FBox.load {W : World} {z : Nat} {bs : List Bool} (h : FBox W z bs) : (loadVar 60 ⟨z, 0, none⟩).run Try.prog W = .ok (.agg (bs.map Value.bool).toArray) W :=
  run_loadVar_mid W z 0 _ _ _ h.range Try.underlying60 rfl (by rw [List.length_map, h.1]; exact flag_info)
theorem bool_load {W : World} {z : Nat} {x : Bool} (h : Boxed W z 4 (.bool x)) : (loadVar 4 ⟨z, 0, none⟩).run Try.prog W = .ok (.bool x) W := by
  have := h.cell
  simp [go_sem, this]
theorem int_load {W : World} {z : Nat} {x : Int} (h : Boxed W z 3 (.int .i64 x)) : (loadVar 3 ⟨z, 0, none⟩).run Try.prog W = .ok (.int .i64 x) W := by
  have := h.cell
  simp [go_sem, this]
theorem errno_load {W : World} {z : Nat} {x : Int} (h : Boxed W z 28 (.int .i64 x)) : (loadVar 28 ⟨z, 0, none⟩).run Try.prog W = .ok (.int .i64 x) W := by
  have := h.cell
  simp [go_sem, this]
theorem pool_info : (Try.prog.info? 24).map (·.size) = some 3 := by kernel_rfl
theorem pool_load {W : World} {z : Nat} {b p : Int} {v : Value} (h : PBox W z b p v) : (loadVar 24 ⟨z, 0, none⟩).run Try.prog W = .ok (.agg #[.int .i64 b, .int .i64 p, v]) W := by
  obtain ⟨h0, h1, h2⟩ := h.cells
  refine run_loadVar_mid W z 0 24 [.int .i64 b, .int .i64 p, v] _ (fun j u hj => ?_) Try.underlying24 rfl pool_info
  rw [Nat.zero_add]
  match j, hj with
  | 0, hj => cases hj; exact h0
  | 1, hj => cases hj; exact h1
  | 2, hj => cases hj; exact h2
  | (k + 3), hj => simp at hj

end Go.Proofs.Ythjkaabbbhfjhaa
