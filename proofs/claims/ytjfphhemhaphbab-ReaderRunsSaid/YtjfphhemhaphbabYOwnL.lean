/-
  own, of the statements of layer 11: readers with the first nine of their CPUs, in memory of their own.
  Conditions: the readers are ones that came in.
-/
import Derived.Test.YtjfphhemhaphbabYTell
namespace Go.Proofs.Ytjfphhemhaphbab
set_option maxRecDepth 100000
open Go.RowKit Go.Shelf
attribute [local go_sem] Oper.semAt_some

/-- A slice that came in: nil, or at an address. -/
def ArgR (W : World) (v : Value) (xs : List Value) : Prop := ∃ p n c, v = .slice p n c ∧ n = xs.length ∧ ((p = none ∧ n = 0 ∧ c = 0) ∨ ∃ a : Addr, p = some a ∧ n ≤ c ∧ ∀ j u, xs[j]? = some u → W.cell? (a.add j) = some u)
theorem ArgR.below {w w' : World} {v : Value} {xs : List Value} (h : ArgR w v xs) (hb : Below w.heap.size w w') : ArgR w' v xs := by
  obtain ⟨p, n, c, rfl, hn, h⟩ := h
  refine ⟨p, n, c, rfl, hn, ?_⟩
  rcases h with h | ⟨a, rfl, hc, hcs⟩
  · exact .inl h
  · exact .inr ⟨a, rfl, hc, fun j u hj => below_cell hb (hcs j u hj)⟩
theorem vals_cut {W : World} {p : Option Addr} {n c : Nat} {xs : List Value} (hn : n = xs.length) (h : (p = none ∧ n = 0 ∧ c = 0) ∨ ∃ a : Addr, p = some a ∧ n ≤ c ∧ ∀ j u, xs[j]? = some u → W.cell? (a.add j) = some u) :
    ValsAt W (.slice p (min n 9) c) 1 (min n 9) (xs.take 9) := by
  refine ⟨by rw [List.length_take, hn]; omega, p, c, rfl, ?_⟩
  rcases h with ⟨rfl, rfl, rfl⟩ | ⟨a, rfl, _, hcs⟩
  · exact .inl ⟨rfl, rfl, rfl⟩
  · refine .inr ⟨a, rfl, fun j u hj => hcs j u ?_⟩
    rw [List.getElem?_take] at hj
    split at hj
    · exact hj
    · cases hj
theorem run_cut9 (p : Option Addr) (n c k : Nat) (h : k ≤ c) (wx : World) :
    (Instr.slice 22 (.slice p n c) none (some (.int .i64 (k : Int))) none).run Try.prog wx = .ok (.slice p k c) wx := by
  rw [run_slice_h wx 22 p n c Try.underlying22 .i64 (k : Int) (by omega) (by omega)]
  have hE : (sizeOf (Try.prog.elem 22)).run Try.prog wx = .ok 1 wx := by go_simp
  rw [hE]
  have : Option.map (fun x : Addr => x.add 0) p = p := by cases p <;> simp [Addr.add_zero']
  simp [sliced, Result.andThen, this]
theorem run_min9 (n k : Nat) (hk : k = min n 9) (wx : World) : (Builtin.min_ #[3, 3] 3 #[.int .i64 (n : Int), .int .i64 9]).run Try.prog wx = .ok (.int .i64 (k : Int)) wx := by
  have : (if (9 : Int) < (n : Int) then (9 : Int) else n) = (k : Int) := by rw [hk]; split <;> omega
  simp [Builtin.min_, Builtin.min2, this]
/-- Readers that lie in new memory. -/
def OwnR (B : Nat) (s : RdS) (u v : Value) (w : World) : Prop := w.ownsRow B 3 1 u s.ns.length (s.ns.map (Value.int .i64)) ∧ w.ownsRow B 3 1 v s.os.length (s.os.map (Value.int .i64))
theorem OwnR.below {B : Nat} {s : RdS} {u v : Value} {w w' : World} (h : OwnR B s u v w) (hb : Below w.heap.size w w') : OwnR B s u v w' := ⟨owns_below h.1 hb, owns_below h.2 hb⟩
theorem OwnR.nums {B : Nat} {s : RdS} {u v : Value} {w : World} (h : OwnR B s u v w) : NumsAt w .i64 u s.ns ∧ NumsAt w .i64 v s.os := ⟨nums_of_owns rfl h.1, nums_of_owns rfl h.2⟩
def GivesR (B : Nat) (s : RdS) (e : Ending) (w' : World) : Prop := ∃ p0 c0 p1 c1, e = .returned (.agg #[.int .i64 s.now, .slice p0 s.ns.length c0, .slice p1 s.os.length c1]) ∧ OwnR B s (.slice p0 s.ns.length c0) (.slice p1 s.os.length c1) w'

set_option maxHeartbeats 8000000 in
theorem own11_c (now : Int) (v0 v1 : Value) (xs ys : List Int) (W : World) (h0 : ArgR W v0 (xs.map (Value.int .i64))) (h1 : ArgR W v1 (ys.map (Value.int .i64))) (hx : xs.length ≤ 9223372036854775807) (hy : ys.length ≤ 9223372036854775807) :
    Calls Try.prog 7 #[.agg #[.int .i64 now, v0, v1]] W fun e w' => GivesR W.heap.size ⟨now, xs.take 9, ys.take 9⟩ e w' ∧ Below W.heap.size W w' := by
  obtain ⟨p0, n0, c0, rfl, hn0, hp0⟩ := id h0
  obtain ⟨p1, n1, c1, rfl, hn1, hp1⟩ := id h1
  rw [List.length_map] at hn0 hn1
  obtain ⟨k0, hk0⟩ : ∃ k, k = min n0 9 := ⟨_, rfl⟩
  obtain ⟨k1, hk1⟩ : ∃ k, k = min n1 9 := ⟨_, rfl⟩
  have hk90 : k0 ≤ 9 := by omega
  have hk91 : k1 ≤ 9 := by omega
  have HL := Lib.hid (show (xs.take 9).length = k0 ∧ (ys.take 9).length = k1 by rw [List.length_take, List.length_take]; omega)
  have hcw : ∀ (p : Option Addr) (n c : Nat) (zs : List Int) (k : Nat), k = min n 9 → n = zs.length → ArgR W (.slice p n c) (zs.map (Value.int .i64)) → ∀ Z : World, Below W.heap.size W Z → Calls Try.prog 21 #[.slice p k c] Z fun e w' => (∃ p' c', e = .returned (.slice p' k c') ∧ w'.ownsRow Z.heap.size 3 1 (.slice p' k c') k ((zs.take 9).map (Value.int .i64))) ∧ Below Z.heap.size Z w' := fun p n c zs k hk hn h Z hb => by
    obtain ⟨p1, n1, c1, e, hn1, hp1⟩ := h.below hb
    injection e with e1 e2 e3
    subst e1 e2 e3
    have h := cloneI _ _ _ Z (vals_cut hn1 hp1) (fun u hu => by obtain ⟨x, _, rfl⟩ := List.mem_map.1 (List.mem_of_mem_take hu); rfl) (by omega)
    rw [← List.map_take, ← hk] at h
    refine h.mono ?_
    rintro e w' ⟨⟨v', rfl, ho⟩, hb⟩
    obtain ⟨p', c', rfl⟩ := owns_slice ho
    exact ⟨⟨p', c', rfl, ho⟩, hb⟩
  have HC0 := Lib.hid (hcw p0 n0 c0 xs k0 hk0 hn0 h0)
  have HC1 := Lib.hid (hcw p1 n1 c1 ys k1 hk1 hn1 h1)
  have hnc0 : n0 ≤ c0 := by rcases hp0 with ⟨_, b, c⟩ | ⟨_, _, b, _⟩ <;> omega
  have hnc1 : n1 ≤ c1 := by rcases hp1 with ⟨_, b, c⟩ | ⟨_, _, b, _⟩ <;> omega
  have hs0 : ∀ wx, (Instr.slice 22 (.slice p0 n0 c0) none (some (.int .i64 (k0 : Int))) none).run Try.prog wx = .ok (.slice p0 k0 c0) wx := run_cut9 p0 n0 c0 k0 (by omega)
  have hs1 : ∀ wx, (Instr.slice 22 (.slice p1 n1 c1) none (some (.int .i64 (k1 : Int))) none).run Try.prog wx = .ok (.slice p1 k1 c1) wx := run_cut9 p1 n1 c1 k1 (by omega)
  have hm0 := run_min9 n0 k0 hk0
  have hm1 := run_min9 n1 k1 hk1
  have hw0' : n0 ≤ 9223372036854775807 := by omega
  have hw1' : n1 ≤ 9223372036854775807 := by omega
  obtain ⟨wo, hwo⟩ : ∃ X, X = wR W now (.slice p0 n0 c0) (.slice p1 n1 c1) := ⟨_, rfl⟩
  have HG := Lib.hid (wR_facts W now (.slice p0 n0 c0) (.slice p1 n1 c1))
  rw [← hwo] at HG
  unfold wR at hwo
  obtain ⟨d0, d1, d2⟩ := HG.out.1.cells
  obtain ⟨e0, e1, e2⟩ := HG.out.2.1.cells
  have f0 := HG.out.2.1.marks 0
  have f1 := HG.out.2.1.marks 1
  have f2 := HG.out.2.1.marks 2
  clear hp0 hp1 hk0 hk1 hx hy hn0 hn1 h0 h1 hcw hnc0 hnc1
  go_enter Try.func7, Try.ntmps7
  go_wp2_with fail
  rw [← hwo]
  clear hwo
  have hW2 : Below W.heap.size W wo.drew := HG.out.2.2.1.drew
  have hsz : W.heap.size + 2 ≤ wo.drew.heap.size := Nat.le_of_eq HG.out.2.2.2.symm
  have hZ2 : RBox wo.drew (W.heap.size + 1) 0 (.slice none 0 0) (.slice none 0 0) := HG.out.2.1
  go_region_held3 (fun w' => w'.cell? ⟨W.heap.size, 0, none⟩ = some (.int .i64 now) ∧ w'.cell? ⟨W.heap.size, 1, none⟩ = some (.slice p0 n0 c0) ∧ w'.cell? ⟨W.heap.size, 2, none⟩ = some (.slice p1 n1 c1))
    (first
      | exact ⟨d0, d1, d2⟩
      | go_keep
      | (go_split_ands; exact ⟨below_cell hb3 (by assumption), below_cell hb3 (by assumption), below_cell hb3 (by assumption)⟩))
    (first
      | (go_at_call 21; (with_reducible refine (HC0.out _ ?_).mono ?_); exact hW2; rintro e w3 ⟨⟨g3, gc3, rfl, hX3⟩, hb3⟩; (try (replace HX4 := Lib.hid (owns_below HX4.out hb3))); have HX3 := Lib.hid (hX3.mono (base' := W.heap.size + 2) hsz); replace hsz := Nat.le_trans hsz hb3.size; clear hX3; replace f0 := below_frozen hb3 e0 f0; replace f1 := below_frozen hb3 e1 f1; replace f2 := below_frozen hb3 e2 f2; replace e0 := below_cell hb3 e0; replace e1 := below_cell hb3 e1; replace e2 := below_cell hb3 e2; replace hZ2 := hZ2.below hb3; replace hW2 := below_then hW2 hW2.size hb3)
      | (go_at_call 21; (with_reducible refine (HC1.out _ ?_).mono ?_); exact hW2; rintro e w3 ⟨⟨g4, gc4, rfl, hX3⟩, hb3⟩; (try (replace HX3 := Lib.hid (owns_below HX3.out hb3))); have HX4 := Lib.hid (hX3.mono (base' := W.heap.size + 2) hsz); replace hsz := Nat.le_trans hsz hb3.size; clear hX3; replace f0 := below_frozen hb3 e0 f0; replace f1 := below_frozen hb3 e1 f1; replace f2 := below_frozen hb3 e2 f2; replace e0 := below_cell hb3 e0; replace e1 := below_cell hb3 e1; replace e2 := below_cell hb3 e2; replace hZ2 := hZ2.below hb3; replace hW2 := below_then hW2 hW2.size hb3))
  all_goals
    have hP := hZ2.put now (.slice g3 k0 gc3) (.slice g4 k1 gc4)
    have hK := RBox.putK w3 (W.heap.size + 1) now (.slice g3 k0 gc3) (.slice g4 k1 gc4)
    have HP := Lib.hid hP
    have HFIN := Lib.hid (show OwnR W.heap.size ⟨now, xs.take 9, ys.take 9⟩ (.slice g3 k0 gc3) (.slice g4 k1 gc4) (((w3.setCell ⟨W.heap.size + 1, 0, none⟩ (.int .i64 now)).setCell ⟨W.heap.size + 1, 1, none⟩ (.slice g3 k0 gc3)).setCell ⟨W.heap.size + 1, 2, none⟩ (.slice g4 k1 gc4)) ∧ Below W.heap.size W (((w3.setCell ⟨W.heap.size + 1, 0, none⟩ (.int .i64 now)).setCell ⟨W.heap.size + 1, 1, none⟩ (.slice g3 k0 gc3)).setCell ⟨W.heap.size + 1, 2, none⟩ (.slice g4 k1 gc4)) from
      ⟨⟨by simp only [HL.out.1]; exact (hK.row HX3.out (fun g hg e => by have := (HX3.out.lt g hg).1; omega)).mono (by omega), by simp only [HL.out.2]; exact (hK.row HX4.out (fun g hg e => by have := (HX4.out.lt g hg).1; omega)).mono (by omega)⟩, hW2.trans (hK.below hW2.size (fun k e => by omega))⟩)
    clear hP hK hs0 hs1 hm0 hm1 HC0 HC1 hZ2 hW2 HX3 HX4 f0 f1 f2 e0 e1 e2
    go_wp2
    exact bodyPost_ret (v := .agg #[.int .i64 now, .slice g3 k0 gc3, .slice g4 k1 gc4]) (HP.out.result1 rfl _ rfl) rfl ⟨⟨g3, gc3, g4, gc4, by rw [HL.out.1, HL.out.2], by have := HFIN.out.1; simp only at this ⊢; rwa [HL.out.1, HL.out.2]⟩, HFIN.out.2⟩

end Go.Proofs.Ytjfphhemhaphbab
