/-
  Package reader: rows of readings, and what readers come to behind them.
  Conditions: none.
-/
import Derived.Test.YtjfphhemhaphbabYTurn2
import Derived.Deep.MidRow
import Derived.Laws.EntriesVeiled
namespace Go.Proofs.Ytjfphhemhaphbab
open Go.RowKit Go.Shelf
attribute [local go_sem] Oper.semAt_some

def runS (s : RdS) (l : List (Int × Bool)) : RdS := l.foldl (fun s x => stepS s x.1 x.2) s
/-- No step of the row has an error. -/
def okTo : RdS → List (Int × Bool) → Prop
  | _, [] => True
  | s, x :: l => stepE s x.1 x.2 = 0 ∧ okTo (stepS s x.1 x.2) l
theorem runS_snoc (s : RdS) (l : List (Int × Bool)) (x : Int × Bool) : runS s (l ++ [x]) = stepS (runS s l) x.1 x.2 := by unfold runS; rw [List.foldl_append]; rfl
theorem okTo_snoc : ∀ (l : List (Int × Bool)) (s : RdS) (x : Int × Bool), okTo s (l ++ [x]) ↔ okTo s l ∧ stepE (runS s l) x.1 x.2 = 0
  | [], s, x => by simp [okTo, runS]
  | y :: l, s, x => by
    simp only [List.cons_append, okTo]
    rw [okTo_snoc l]
    simp only [runS, List.foldl_cons, and_assoc]

/-- A slice that reads as these readings. -/
def RgsAt (W : World) (v : Value) (ls : List (Int × Bool)) : Prop := ∃ p cap, v = .slice p ls.length cap ∧
  (ls ≠ [] → ∃ b off, p = some ⟨b, off, none⟩ ∧ ∀ i (h : i < ls.length), W.cell? ⟨b, off + i * 2, none⟩ = some (.int .i64 ls[i].1) ∧ W.cell? ⟨b, off + i * 2 + 1, none⟩ = some (.bool ls[i].2))
theorem RgsAt.below {W W' : World} {v : Value} {ls : List (Int × Bool)} (h : RgsAt W v ls) (hb : Below W.heap.size W W') : RgsAt W' v ls := by
  obtain ⟨p, cap, e, hc⟩ := h
  refine ⟨p, cap, e, fun hne => ?_⟩
  obtain ⟨b, off, e2, hcs⟩ := hc hne
  exact ⟨b, off, e2, fun i hi => ⟨below_cell hb (hcs i hi).1, below_cell hb (hcs i hi).2⟩⟩
theorem RgsAt.lt {W : World} {p : Option Addr} {n cap : Nat} {ls : List (Int × Bool)} (h : RgsAt W (.slice p n cap) ls) : ∀ a, p = some a → ls ≠ [] → a.block < W.heap.size := fun a ha hne => by
  obtain ⟨q, c, e, hc⟩ := h
  injection e with e1 e2 e3
  subst e1
  obtain ⟨b, off, e2, hcs⟩ := hc hne
  rw [ha] at e2; injection e2 with e2; subst e2
  obtain ⟨i, hi⟩ : ∃ i : Nat, i < ls.length := ⟨0, by cases ls with | nil => exact absurd rfl hne | cons _ _ => simp⟩
  have h9 := World.block_lt_of_cell? W _ (hcs i hi).1
  exact h9
theorem RgsAt.keeps {S : Nat → Prop} {W W' : World} {v : Value} {ls : List (Int × Bool)} (h : RgsAt W v ls) (hk : Keeps S W W') (B : Nat) (hS : ∀ k, S k → B ≤ k) (hB : ∀ a n c, v = .slice (some a) n c → ls ≠ [] → a.block < B) : RgsAt W' v ls := by
  obtain ⟨p, cap, rfl, hc⟩ := h
  refine ⟨p, cap, rfl, fun hne => ?_⟩
  obtain ⟨b, off, rfl, hcs⟩ := hc hne
  have hb := hB _ _ _ rfl hne
  have hn : ¬ S b := fun h => by have := hS b h; simp only at hb; omega
  exact ⟨b, off, rfl, fun i hi => ⟨hk.cell (hcs i hi).1 hn, hk.cell (hcs i hi).2 hn⟩⟩

theorem run_fmap {α β : Type} {P : Program} (f : α → β) (s : Sem α) (w : World) : Sem.run P (f <$> s) w = (Sem.run P s w).andThen fun a w' => .ok (f a) w' := by
  show Sem.run P (s >>= fun a => pure (f a)) w = _
  rw [Sem.run_bind]
  rfl
def zeroR : Value := .agg #[.int .i64 0, .slice none 0 0, .slice none 0 0]
theorem results_ctt {fn : Func} {a b c : Tmp} {t : TypeId} (h : fn.results = #[.cell a t, .tmp b, .tmp c]) (tmps : Array Value) (P : Program) (w : World) {p : Addr} {x y z : Value} (ha : tmps.getD a undef = .pointer (some p)) (hb : tmps.getD b undef = y) (hc : tmps.getD c undef = z)
    (hx : (loadVar t p).run P w = .ok x w) : (results fn tmps).run P w = .ok (.tuple #[x, y, z]) w := by
  unfold results
  rw [h]
  simp only [Array.mapM_eq_foldlM, List.foldlM_toArray, List.foldlM_cons, List.foldlM_nil, ha, hb, hc, asAddr, run_fmap, Sem.run_bind, Sem.run_pure, Result.andThen_ok, hx]
  rfl
theorem results_ct {fn : Func} {a b : Tmp} {t : TypeId} (h : fn.results = #[.cell a t, .tmp b]) (tmps : Array Value) (P : Program) (w : World) {p : Addr} {x y : Value} (ha : tmps.getD a undef = .pointer (some p)) (hb : tmps.getD b undef = y)
    (hx : (loadVar t p).run P w = .ok x w) : (results fn tmps).run P w = .ok (.tuple #[x, y]) w := by
  unfold results
  rw [h]
  simp only [Array.mapM_eq_foldlM, List.foldlM_toArray, List.foldlM_cons, List.foldlM_nil, ha, hb, asAddr, run_fmap, Sem.run_bind, Sem.run_pure, Result.andThen_ok, hx]
  rfl
theorem readers_info : (Try.prog.info? 24).map (·.size) = some 3 := by kernel_rfl
theorem readers_load {W : World} {z : Nat} {b : Int} {u v : Value} (h : RBox W z b u v) : (loadVar 24 ⟨z, 0, none⟩).run Try.prog W = .ok (.agg #[.int .i64 b, u, v]) W := by
  obtain ⟨h0, h1, h2⟩ := h.cells
  refine run_loadVar_mid W z 0 24 [.int .i64 b, u, v] _ (fun j u hj => ?_) Try.underlying24 rfl readers_info
  rw [Nat.zero_add]
  match j, hj with
  | 0, hj => cases hj; exact h0
  | 1, hj => cases hj; exact h1
  | 2, hj => cases hj; exact h2
  | (k + 3), hj => simp at hj
theorem RBox.result3 {fn : Func} {W : World} {z : Nat} {b : Int} {u v x y : Value} (h : RBox W z b u v) (hf : fn.results = #[.cell 4 24, .tmp 5, .tmp 6]) (tmps : Array Value) (h2 : tmps.getD 4 undef = .pointer (some ⟨z, 0, none⟩)) (h3 : tmps.getD 5 undef = x) (h4 : tmps.getD 6 undef = y) :
    (results fn tmps).run Try.prog W = .ok (.tuple #[.agg #[.int .i64 b, u, v], x, y]) W := results_ctt hf tmps _ _ h2 h3 h4 (readers_load h)
theorem RBox.result2 {fn : Func} {W : World} {z : Nat} {b : Int} {u v x : Value} (h : RBox W z b u v) (hf : fn.results = #[.cell 4 24, .tmp 5]) (tmps : Array Value) (h2 : tmps.getD 4 undef = .pointer (some ⟨z, 0, none⟩)) (h3 : tmps.getD 5 undef = x) :
    (results fn tmps).run Try.prog W = .ok (.tuple #[.agg #[.int .i64 b, u, v], x]) W := results_ct hf tmps _ _ h2 h3 (readers_load h)
theorem RBox.result1 {fn : Func} {W : World} {z : Nat} {a : Tmp} {b : Int} {u v : Value} (h : RBox W z b u v) (hf : fn.results = #[.cell a 24]) (tmps : Array Value) (h2 : tmps.getD a undef = .pointer (some ⟨z, 0, none⟩)) :
    (results fn tmps).run Try.prog W = .ok (.agg #[.int .i64 b, u, v]) W := by
  unfold results
  rw [hf]
  simp only [Array.mapM_eq_foldlM, List.foldlM_toArray, List.foldlM_cons, List.foldlM_nil, h2, asAddr, run_fmap, Sem.run_bind, Sem.run_pure, Result.andThen_ok, readers_load h]
  rfl
theorem build_turn (x y z : Value) (w : World) : (Instr.build 49 #[(0, .agg #[x, y, z])]).run Try.prog w = .ok (.agg #[x, y, z]) w := by
  kernel_rfl

/-- The two boxes with which Run begins. -/
def wR (W : World) (now : Int) (u v : Value) : World := (W.alloc (.cells #[.int .i64 now, u, v] 24)).alloc (.cells #[.int .i64 0, .slice none 0 0, .slice none 0 0] 24)
theorem wR_facts (W : World) (now : Int) (u v : Value) : RBox (wR W now u v) W.heap.size now u v ∧ RBox (wR W now u v) (W.heap.size + 1) 0 (.slice none 0 0) (.slice none 0 0) ∧ Below W.heap.size W (wR W now u v) ∧ (wR W now u v).heap.size = W.heap.size + 2 := by
  refine ⟨(RBox.new W now u v).below (below1 _ _), ?_, below2 _ _ _, by unfold wR; simp⟩
  have := RBox.new (W.alloc (.cells #[.int .i64 now, u, v] 24)) 0 (.slice none 0 0) (.slice none 0 0)
  rwa [World.size_alloc] at this

end Go.Proofs.Ytjfphhemhaphbab
