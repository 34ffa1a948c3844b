/-
  What the words of a script are; scripts that lie in a block of their own; Of, of package script, of any script.
  Conditions: as each has them.
-/
import Derived.Test.YtjgdkfgcfningaaDoorSWake
import Derived.Test.YtjgdkfgcfningaaDoorSOwn2
import Derived.Test.YtjgdkfgcfningaaDoorHeld
namespace Go.Proofs.YtjgdkfgcfningaaDoor
open Go.RowKit Go.Shelf
attribute [local go_sem] Oper.semAt_some

theorem tot_mem : ∀ (ls : List (List CallM)) (l : List CallM), l ∈ ls → l.length ≤ tot ls
  | [], l, h => by cases h
  | x :: r, l, h => by
    rcases List.mem_cons.1 h with rfl | h
    · simp only [tot]; omega
    · have := tot_mem r l h
      simp only [tot]; omega
theorem okS_few {s : SM} (h : okS s) : Few s := by
  obtain ⟨⟨h1, h2⟩, _, h3, h4, h5, _⟩ := h
  exact ⟨by omega, fun l hl => by have := tot_mem _ l hl; omega, by omega⟩
theorem WAt.take {w : World} {p : Option Addr} {n d : Nat} {ws : List Nat} (h : WAt w p n d ws) (k : Nat) (hk : k ≤ n) : WAt w p k d (ws.take k) := by
  obtain ⟨q, cap, e, hc⟩ := h.nums
  injection e with e1 e2 e3
  have hl := h.len
  refine ⟨⟨p, d, by rw [List.length_map, List.length_take]; congr 1; omega, fun hne => ?_⟩, by rw [List.length_take]; omega, Nat.le_trans hk h.room, fun x hx => h.big x (List.mem_of_mem_take hx)⟩
  have hne' : ws.map Int.ofNat ≠ [] := by
    intro e
    have : ws = [] := List.map_eq_nil_iff.1 e
    rw [this] at hne; simp at hne
  obtain ⟨b, off, hq, hcs⟩ := hc hne'
  refine ⟨b, off, by rw [e1]; exact hq, fun i hi => ?_⟩
  rw [List.length_map, List.length_take] at hi
  have := hcs i (by rw [List.length_map]; omega)
  simp only [List.getElem_map, List.getElem_take] at this ⊢
  exact this
theorem Gives.sat {B : Nat} {s : SM} {e : Ending} {w : World} (h : Gives B s e w) : ∃ p n c q m d, e = .returned (.agg #[.int .i64 s.c, .int .i64 s.g, .slice p n c, .slice q m d]) ∧ LRow w p n c s.ls ∧ RI w q m d s.ps := by
  obtain ⟨z, vs, vp, rfl, hR, hP, _⟩ := h
  obtain ⟨q, d, rfl⟩ := owns_slice hP
  exact ⟨_, _, _, _, _, _, rfl, hR.lrow (Nat.le_refl _), RI.of_owns hP⟩
/-- A call of words of 64 bits. -/
def CallOk (x : CallM) : Prop := x.k < 18446744073709551616 ∧ x.a0 < 18446744073709551616 ∧ x.a1 < 18446744073709551616 ∧ x.a2 < 18446744073709551616 ∧ x.a3 < 18446744073709551616
def RowsOk (ls : List (List CallM)) : Prop := ∀ l ∈ ls, ∀ x ∈ l, CallOk x
theorem addC_mem : ∀ (ls : List (List CallM)) (i : Nat) (x : CallM), RowsOk ls → CallOk x → RowsOk (addC ls i x)
  | [], _, _, h, _ => h
  | l :: r, 0, x, h, hx => fun m hm y hy => by
    rcases List.mem_cons.1 hm with rfl | hm
    · rcases List.mem_append.1 hy with hy | hy
      · exact h l (by simp) y hy
      · rw [List.mem_singleton.1 hy]; exact hx
    · exact h m (by simp [hm]) y hy
  | l :: r, i + 1, x, h, hx => fun m hm y hy => by
    rcases List.mem_cons.1 hm with rfl | hm
    · exact h m (by simp) y hy
    · exact addC_mem r i x (fun m hm => h m (by simp [hm])) hx m hm y hy
theorem getD_lt {t : List Nat} (h : ∀ x ∈ t, x < 18446744073709551616) (i : Nat) : t.getD i 0 < 18446744073709551616 := by
  rw [List.getD_eq_getElem?_getD]
  cases hi : t[i]? with
  | none => exact (by decide)
  | some x => exact h x (List.mem_of_getElem? hi)
theorem rd_rows {c : Nat} : ∀ (n : Nat) (l : List Nat), l.length ≤ n → (∀ x ∈ l, x < 18446744073709551616) → ∀ s : RdS, RowsOk s.1 → RowsOk (rd c l s).1
  | _, [], _, _, s, h => by rw [rd_nil]; exact h
  | 0, _ :: _, hn, _, _, _ => by simp at hn
  | n + 1, w :: t, hn, hb, s, h => by
    simp only [List.length_cons] at hn
    have hb' : ∀ x ∈ t, x < 18446744073709551616 := fun x hx => hb x (by simp [hx])
    by_cases h1 : kindN w = 1
    · by_cases h5 : t.length < 5
      · rw [rd_short c w t s h1 h5]; exact rd_rows n t (by omega) hb' s h
      · rw [rd_call c w t s h1 (by omega)]
        refine rd_rows n _ (by rw [List.length_drop]; omega) (fun x hx => hb' x (List.mem_of_mem_drop hx)) _ ?_
        unfold callS
        by_cases ht : tot s.1 < 64
        · rw [if_pos ht]
          exact addC_mem _ _ _ h ⟨getD_lt hb' 0, getD_lt hb' 1, getD_lt hb' 2, getD_lt hb' 3, getD_lt hb' 4⟩
        · rw [if_neg ht]; exact h
    · by_cases h2 : kindN w = 2
      · rw [rd_pick c w t s h2]; exact rd_rows n t (by omega) hb' _ h
      · rw [rd_pass c w t s h1 h2]; exact rd_rows n t (by omega) hb' _ h
theorem readL_rows {ws : List Nat} (h : ∀ x ∈ ws, x < 18446744073709551616) : RowsOk (readL ws).ls :=
  rd_rows _ ws.tail (Nat.le_refl _) (fun x hx => h x (List.mem_of_mem_tail hx)) _ (fun l hl x hx => by rw [List.eq_of_mem_replicate hl] at hx; cases hx)
theorem ownS_rows {s : SM} (h : RowsOk s.ls) : RowsOk (ownS s).ls := fun l hl x hx => by
  obtain ⟨m, hm, rfl⟩ := List.mem_map.1 hl
  exact h m (List.mem_of_mem_take hm) x (List.mem_of_mem_take hx)
theorem listsW_lt : ∀ (ls : List (List CallM)) (k : Nat), k + ls.length ≤ 8 → RowsOk ls → ∀ x ∈ listsW k ls, x < 18446744073709551616
  | [], _, _, _, x, h => by cases h
  | l :: r, k, hk, h, x, hx => by
    simp only [List.length_cons] at hk
    rcases List.mem_append.1 hx with hx | hx
    · obtain ⟨w, hw, hx⟩ := List.mem_flatten.1 hx
      obtain ⟨c, hc, rfl⟩ := List.mem_map.1 hw
      obtain ⟨h0, h1, h2, h3, h4⟩ := h l (by simp) c hc
      simp only [callW, List.mem_cons, List.not_mem_nil, or_false] at hx
      rcases hx with rfl | rfl | rfl | rfl | rfl | rfl
      · omega
      all_goals assumption
    · exact listsW_lt r (k + 1) (by omega) (fun m hm => h m (by simp [hm])) x hx
theorem runsW_lt : ∀ (rs : List (Int × Nat)), (∀ r ∈ rs, r.1 < 8 ∧ r.2 ≤ 256) → ∀ x ∈ runsW rs, x < 18446744073709551616
  | [], _, x, h => by cases h
  | r :: rs, h, x, hx => by
    rcases List.mem_append.1 hx with hx | hx
    · exact runsW_lt rs (fun y hy => h y (by simp [hy])) x hx
    · rw [List.mem_singleton.1 hx]
      obtain ⟨h1, h2⟩ := h r (by simp)
      unfold runW; omega
theorem okR_mem : ∀ {rs : List (Int × Nat)}, OkR rs → ∀ r ∈ rs, r.2 ≤ 256
  | x :: rs, h, r, hr => by
    rcases List.mem_cons.1 hr with rfl | hr
    · exact h.head.2
    · exact okR_mem h.tail r hr
theorem words_lt {s : SM} (h : okS s) (hr : RowsOk s.ls) : ∀ x ∈ wordsL s, x < 18446744073709551616 := by
  have hf := firstN_lt h
  obtain ⟨⟨_, h1⟩, _, h3, _, _, h6⟩ := h
  intro x hx
  rcases List.mem_cons.1 hx with rfl | hx
  · omega
  · rcases List.mem_append.1 hx with hx | hx
    · exact listsW_lt s.ls 0 (by omega) hr x hx
    · exact runsW_lt _ (fun r hr' => ⟨by have := h6 _ (runs_mem _ r hr'); omega, okR_mem (runs_ok _) r hr'⟩) x hx
/-- Of, of any script. -/
theorem ofAny_c (v : Value) (s : SM) (W : World) (hs : SAt W v s) (ht : Tab W) (hf : Few s) :
    Calls Tryd.prog 14 #[v] W fun e w' => OfPost W.heap.size s (scriptB s.c s.g (s.ls.map List.length) s.ps) e w' ∧ Below W.heap.size W w' := by
  cases hb : scriptB s.c s.g (s.ls.map List.length) s.ps with
  | true => exact of_yes v s W hs ht ((okS_iff s).1 hb)
  | false => exact of_no v s W hs hf.ls (fun n hn => by obtain ⟨l, hl, rfl⟩ := List.mem_map.1 hn; exact hf.calls l hl) hf.ps hb
/-- A script in a block of its own. -/
def SBlk (w : World) (y : Nat) (c g : Int) (p : Option Addr) (n cp : Nat) (q : Option Addr) (m d : Nat) : Prop := w.heap[y]? = some (.cells #[.int .i64 c, .int .i64 g, .slice p n cp, .slice q m d] 25 (0, 0))
theorem SBlk.lt {w : World} {y : Nat} {c g : Int} {p : Option Addr} {n cp : Nat} {q : Option Addr} {m d : Nat} (h : SBlk w y c g p n cp q m d) : y < w.heap.size := (Array.getElem?_eq_some_iff.1 h).1
theorem SBlk.below {w w' : World} {y : Nat} {c g : Int} {p : Option Addr} {n cp : Nat} {q : Option Addr} {m d : Nat} (h : SBlk w y c g p n cp q m d) (hb : Below w.heap.size w w') : SBlk w' y c g p n cp q m d := (hb.block y h.lt).trans h
theorem SBlk.new (w : World) (c g : Int) (p : Option Addr) (n cp : Nat) (q : Option Addr) (m d : Nat) : SBlk (w.alloc (.cells #[.int .i64 c, .int .i64 g, .slice p n cp, .slice q m d] 25)) w.heap.size c g p n cp q m d := World.alloc_heap_new _ _
theorem SBlk.cells {w : World} {y : Nat} {c g : Int} {p : Option Addr} {n cp : Nat} {q : Option Addr} {m d : Nat} (h : SBlk w y c g p n cp q m d) : w.cell? ⟨y, 0, none⟩ = some (.int .i64 c) ∧ w.cell? ⟨y, 1, none⟩ = some (.int .i64 g) ∧ w.cell? ⟨y, 2, none⟩ = some (.slice p n cp) ∧ w.cell? ⟨y, 3, none⟩ = some (.slice q m d) := by
  have h' : w.heap[y]? = _ := h
  exact ⟨by simp [World.cell?, h'], by simp [World.cell?, h'], by simp [World.cell?, h'], by simp [World.cell?, h']⟩


end Go.Proofs.YtjgdkfgcfningaaDoor
