/-
  own, of the statements of layer 2: the first 16 words of a memory, and truth values, in memory of their own; what was in memory stays.
  Conditions: the memory is one that came in.
-/
import Derived.Test.YtcledklajcdfiaaMRun
import Derived.Deep.RegionHeld3
namespace Go.Proofs.Ytcledklajcdfiaa
open Go.RowKit Go.Shelf

/-- A slice that came in: nil, or at an address. -/
def ArgR (W : World) (v : Value) (xs : List Value) : Prop := ∃ p n c, v = .slice p n c ∧ n = xs.length ∧ ((p = none ∧ n = 0 ∧ c = 0) ∨ ∃ a : Addr, p = some a ∧ n ≤ c ∧ ∀ j u, xs[j]? = some u → W.cell? (a.add j) = some u)
/-- A slice of new memory, of whatever address. -/
def OwnsSl (B : Nat) (E : TypeId) (n : Nat) (xs : List Value) (e : Ending) (w' : World) : Prop := ∃ p' c', e = .returned (.slice p' n c') ∧ w'.ownsRow B E 1 (.slice p' n c') n xs
theorem OwnsNew.sl {B : Nat} {E : TypeId} {n : Nat} {xs : List Value} {e : Ending} {w' : World} (h : OwnsNew B E 1 n xs e w') : OwnsSl B E n xs e w' := by
  obtain ⟨v', rfl, ho⟩ := h
  rcases ho.2 with ⟨rfl, rfl⟩ | ⟨g, cap, cur, rfl, _⟩
  · exact ⟨_, _, rfl, ho⟩
  · exact ⟨_, _, rfl, ho⟩
theorem vals_take {W W' : World} {p : Option Addr} {n c : Nat} {xs : List Value} (hn : n = xs.length) (h : (p = none ∧ n = 0 ∧ c = 0) ∨ ∃ a : Addr, p = some a ∧ n ≤ c ∧ ∀ j u, xs[j]? = some u → W.cell? (a.add j) = some u) (hb : Below W.heap.size W W') :
    ValsAt W' (.slice p (min n 16) c) 1 (min n 16) (xs.take 16) := by
  refine ⟨by rw [List.length_take, hn]; omega, p, c, rfl, ?_⟩
  rcases h with ⟨rfl, rfl, rfl⟩ | ⟨a, rfl, _, hcs⟩
  · exact .inl ⟨rfl, rfl, rfl⟩
  · refine .inr ⟨a, rfl, fun j u hj => below_cell hb (hcs j u ?_)⟩
    rw [List.getElem?_take] at hj
    split at hj
    · exact hj
    · cases hj

theorem own_gives {X : World} {B : Nat} {v0 v1 : Value} {k0 k1 : Nat} {ws : List Int} {ls : List Bool} {f : Bool} (h0 : ws.length = k0) (h1 : ls.length = k1) (ho0 : X.ownsRow B 22 1 v0 k0 (ws.map (Value.int .u64))) (ho1 : X.ownsRow B 4 1 v1 k1 (ls.map Value.bool)) :
    GivesMem B ws ls f (.returned (.agg #[v0, v1, .bool f])) X := by
  subst h0
  subst h1
  exact ⟨_, rfl, _, _, rfl, ho0, ho1⟩
theorem run_cut16 {T : TypeId} (hT : Try.prog.underlying T = some (.slice (Try.prog.elem T))) (hE : ∀ wx, (sizeOf (Try.prog.elem T)).run Try.prog wx = .ok 1 wx) (p : Option Addr) (n c k : Nat) (h : k ≤ c) (wx : World) :
    (Instr.slice T (.slice p n c) none (some (.int .i64 (k : Int))) none).run Try.prog wx = .ok (.slice p k c) wx := by
  rw [run_slice_h wx T p n c hT .i64 (k : Int) (by omega) (by omega), hE]
  have : Option.map (fun x : Addr => x.add 0) p = p := by cases p <;> simp [Addr.add_zero']
  simp [sliced, Result.andThen, this]

set_option maxRecDepth 100000 in
set_option maxHeartbeats 4000000 in
theorem own_c (v0 v1 : Value) (f : Bool) (ws : List Int) (ls : List Bool) (W : World) (h0 : ArgR W v0 (ws.map (Value.int .u64))) (h1 : ArgR W v1 (ls.map Value.bool)) (hw : ws.length ≤ 9223372036854775807) (hl : ls.length ≤ 9223372036854775807) :
    Calls Try.prog 18 #[.agg #[v0, v1, .bool f]] W fun e w' => GivesMem W.heap.size (ws.take 16) (ls.take 16) f e w' ∧ Below W.heap.size W w' := by
  obtain ⟨p0, n0, c0, rfl, hn0, hp0⟩ := h0
  obtain ⟨p1, n1, c1, rfl, hn1, hp1⟩ := h1
  have HCW : ∀ W' : World, Below W.heap.size W W' → Calls Try.prog 36 #[.slice p0 (min n0 16) c0] W' fun e w' => OwnsSl W'.heap.size 22 (min n0 16) ((ws.take 16).map (Value.int .u64)) e w' ∧ Below W'.heap.size W' w' := fun W' hb => by
    have := cloneW _ _ _ W' (vals_take hn0 hp0 hb) (fun u hu => by obtain ⟨x, _, rfl⟩ := List.mem_map.1 (List.mem_of_mem_take hu); rfl) (by omega)
    rw [← List.map_take] at this
    exact this.mono fun _ _ h => ⟨h.1.sl, h.2⟩
  have HCB : ∀ W' : World, Below W.heap.size W W' → Calls Try.prog 37 #[.slice p1 (min n1 16) c1] W' fun e w' => OwnsSl W'.heap.size 4 (min n1 16) ((ls.take 16).map Value.bool) e w' ∧ Below W'.heap.size W' w' := fun W' hb => by
    have := cloneB _ _ _ W' (vals_take hn1 hp1 hb) (fun u hu => by obtain ⟨x, _, rfl⟩ := List.mem_map.1 (List.mem_of_mem_take hu); rfl) (by omega)
    rw [← List.map_take] at this
    exact this.mono fun _ _ h => ⟨h.1.sl, h.2⟩
  rw [List.length_map] at hn0 hn1
  have HL0 := Lib.hid (show (ws.take 16).length = min n0 16 by rw [List.length_take, hn0]; omega)
  have HL1 := Lib.hid (show (ls.take 16).length = min n1 16 by rw [List.length_take, hn1]; omega)
  have hnc0 : n0 ≤ c0 := by rcases hp0 with ⟨_, b, c⟩ | ⟨_, _, b, _⟩ <;> omega
  have hnc1 : n1 ≤ c1 := by rcases hp1 with ⟨_, b, c⟩ | ⟨_, _, b, _⟩ <;> omega
  obtain ⟨k0, hk0⟩ : ∃ k, k = min n0 16 := ⟨_, rfl⟩
  obtain ⟨k1, hk1⟩ : ∃ k, k = min n1 16 := ⟨_, rfl⟩
  rw [← hk0] at HCW HL0
  rw [← hk1] at HCB HL1
  have hs0 : ∀ wx, (Instr.slice 43 (.slice p0 n0 c0) none (some (.int .i64 (k0 : Int))) none).run Try.prog wx = .ok (.slice p0 k0 c0) wx := run_cut16 Try.underlying43 (fun wx => by go_simp) p0 n0 c0 k0 (by omega)
  have hs1 : ∀ wx, (Instr.slice 44 (.slice p1 n1 c1) none (some (.int .i64 (k1 : Int))) none).run Try.prog wx = .ok (.slice p1 k1 c1) wx := run_cut16 Try.underlying44 (fun wx => by go_simp) p1 n1 c1 k1 (by omega)
  have hm0 : ∀ wx, (Builtin.min_ #[3, 3] 3 #[.int .i64 (n0 : Int), .int .i64 16]).run Try.prog wx = .ok (.int .i64 (k0 : Int)) wx := fun wx => by
    have : (if (16 : Int) < (n0 : Int) then (16 : Int) else n0) = (k0 : Int) := by rw [hk0]; split <;> omega
    simp [Builtin.min_, Builtin.min2, this]
  have hm1 : ∀ wx, (Builtin.min_ #[3, 3] 3 #[.int .i64 (n1 : Int), .int .i64 16]).run Try.prog wx = .ok (.int .i64 (k1 : Int)) wx := fun wx => by
    have : (if (16 : Int) < (n1 : Int) then (16 : Int) else n1) = (k1 : Int) := by rw [hk1]; split <;> omega
    simp [Builtin.min_, Builtin.min2, this]
  have hw0 : n0 ≤ 9223372036854775807 := by omega
  have hw1 : n1 ≤ 9223372036854775807 := by omega
  clear hp0 hp1 hk0 hk1 hw hl hn0 hn1 hnc0 hnc1
  obtain ⟨wo, hwo⟩ : ∃ wo : World, wo = (W.alloc (.cells #[.slice p0 n0 c0, .slice p1 n1 c1, .bool f] 46)).alloc (.cells #[.slice none 0 0, .slice none 0 0, .bool false] 46) := ⟨_, rfl⟩
  have hW2 : Below W.heap.size W wo := by rw [hwo]; exact ((Below.refl _ _).alloc (Nat.le_refl _) _).alloc (by simp) _
  have hd0 : wo.cell? ⟨W.heap.size, 0, none⟩ = some (.slice p0 n0 c0) := by rw [hwo]; simp
  have hd1 : wo.cell? ⟨W.heap.size, 1, none⟩ = some (.slice p1 n1 c1) := by rw [hwo]; simp
  have hd2 : wo.cell? ⟨W.heap.size, 2, none⟩ = some (.bool f) := by rw [hwo]; simp
  have he0 : wo.cell? ⟨W.heap.size + 1, 0, none⟩ = some (.slice none 0 0) := by rw [hwo]; simp
  have he1 : wo.cell? ⟨W.heap.size + 1, 1, none⟩ = some (.slice none 0 0) := by rw [hwo]; simp
  have he2 : wo.cell? ⟨W.heap.size + 1, 2, none⟩ = some (.bool false) := by rw [hwo]; simp
  have hf0 : wo.frozen? ⟨W.heap.size + 1, 0, none⟩ = false := by rw [hwo]; simp
  have hf1 : wo.frozen? ⟨W.heap.size + 1, 1, none⟩ = false := by rw [hwo]; simp
  have hf2 : wo.frozen? ⟨W.heap.size + 1, 2, none⟩ = false := by rw [hwo]; simp
  have hsz : W.heap.size + 1 < wo.heap.size := by rw [hwo]; simp
  go_enter Try.func18, Try.ntmps18
  go_wp2_with fail
  rw [← hwo]
  clear hwo
  replace hW2 := hW2.drew
  go_region_held3 (fun w' => w'.cell? ⟨W.heap.size, 0, none⟩ = some (.slice p0 n0 c0) ∧ w'.cell? ⟨W.heap.size, 1, none⟩ = some (.slice p1 n1 c1) ∧ w'.cell? ⟨W.heap.size, 2, none⟩ = some (.bool f))
    (first
      | exact ⟨hd0, hd1, hd2⟩
      | go_keep
      | (go_split_ands; exact ⟨below_cell hb3 (by assumption), below_cell hb3 (by assumption), below_cell hb3 (by assumption)⟩))
    (first
      | (go_at_call 36; refine (HCW _ ?_).mono ?_; exact hW2; rintro e w3 ⟨⟨g3, c3, rfl, hown3⟩, hb3⟩; replace hf0 := below_frozen hb3 he0 hf0; replace hf1 := below_frozen hb3 he1 hf1; replace hf2 := below_frozen hb3 he2 hf2; replace he0 := below_cell hb3 he0; replace he1 := below_cell hb3 he1; replace he2 := below_cell hb3 he2; replace hW2 := below_then hW2 hW2.size hb3)
      | (go_at_call 37; refine (HCB _ ?_).mono ?_; exact hW2; rintro e w3 ⟨⟨g3, c3, rfl, hown3⟩, hb3⟩; replace hf0 := below_frozen hb3 he0 hf0; replace hf1 := below_frozen hb3 he1 hf1; replace hf2 := below_frozen hb3 he2 hf2; replace he0 := below_cell hb3 he0; replace he1 := below_cell hb3 he1; replace he2 := below_cell hb3 he2; replace hW2 := below_then hW2 hW2.size hb3))
  all_goals
    rename_i wx hbx gx cx hownx _
    have hsx : W.heap.size + 1 < wx.heap.size := Nat.lt_of_lt_of_le hsz hbx.size
    first
    | (have ho1 := (ownsRow_setCell_below (ownsRow_setCell_below (ownsRow_setCell_below (owns_below hownx hb3) (a := ⟨W.heap.size + 1, 0, none⟩) hsz (.slice gx k0 cx)) (a := ⟨W.heap.size + 1, 1, none⟩) hsz (.slice g3 k1 c3)) (a := ⟨W.heap.size + 1, 2, none⟩) hsz (.bool f)).mono (base' := W.heap.size) (by have := hsz; have := hsx; simp; omega)
       have ho2 := (ownsRow_setCell_below (ownsRow_setCell_below (ownsRow_setCell_below hown3 (a := ⟨W.heap.size + 1, 0, none⟩) hsx (.slice gx k0 cx)) (a := ⟨W.heap.size + 1, 1, none⟩) hsx (.slice g3 k1 c3)) (a := ⟨W.heap.size + 1, 2, none⟩) hsx (.bool f)).mono (base' := W.heap.size) (by have := hsz; have := hsx; simp; omega)
       have hB := ((hW2.setCell (p := ⟨W.heap.size + 1, 0, none⟩) (Nat.le_succ _) (.slice gx k0 cx)).setCell (p := ⟨W.heap.size + 1, 1, none⟩) (Nat.le_succ _) (.slice g3 k1 c3)).setCell (p := ⟨W.heap.size + 1, 2, none⟩) (Nat.le_succ _) (.bool f)
       have hG := own_gives (f := f) HL0.out HL1.out ho1 ho2
       clear hownx hown3 ho1 ho2 hs0 hs1 hm0 hm1 HCW HCB
       go_wp2
       exact bodyPost_ret (v := .agg #[.slice gx k0 cx, .slice g3 k1 c3, .bool f]) (by simp [results, Try.results18, go_sem, he0, he1, he2]) rfl ⟨hG, hB⟩)
    | (have ho1 := (ownsRow_setCell_below (ownsRow_setCell_below (ownsRow_setCell_below hown3 (a := ⟨W.heap.size + 1, 0, none⟩) hsx (.slice g3 k0 c3)) (a := ⟨W.heap.size + 1, 1, none⟩) hsx (.slice gx k1 cx)) (a := ⟨W.heap.size + 1, 2, none⟩) hsx (.bool f)).mono (base' := W.heap.size) (by have := hsz; have := hsx; simp; omega)
       have ho2 := (ownsRow_setCell_below (ownsRow_setCell_below (ownsRow_setCell_below (owns_below hownx hb3) (a := ⟨W.heap.size + 1, 0, none⟩) hsz (.slice g3 k0 c3)) (a := ⟨W.heap.size + 1, 1, none⟩) hsz (.slice gx k1 cx)) (a := ⟨W.heap.size + 1, 2, none⟩) hsz (.bool f)).mono (base' := W.heap.size) (by have := hsz; have := hsx; simp; omega)
       have hB := ((hW2.setCell (p := ⟨W.heap.size + 1, 0, none⟩) (Nat.le_succ _) (.slice g3 k0 c3)).setCell (p := ⟨W.heap.size + 1, 1, none⟩) (Nat.le_succ _) (.slice gx k1 cx)).setCell (p := ⟨W.heap.size + 1, 2, none⟩) (Nat.le_succ _) (.bool f)
       have hG := own_gives (f := f) HL0.out HL1.out ho1 ho2
       clear hownx hown3 ho1 ho2 hs0 hs1 hm0 hm1 HCW HCB
       go_wp2
       exact bodyPost_ret (v := .agg #[.slice g3 k0 c3, .slice gx k1 cx, .bool f]) (by simp [results, Try.results18, go_sem, he0, he1, he2]) rfl ⟨hG, hB⟩)

end Go.Proofs.Ytcledklajcdfiaa
