/-
  memory.double: the memory in memory of its own; what was in memory stays.
  Conditions: the memory has one word at least, and at most 4096, and as many truth values.
-/
import Derived.Test.YtcledklajcdfiaaMCheck
import Derived.Deep.RegionHeld3
namespace Go.Proofs.Ytcledklajcdfiaa
open Go.RowKit Go.Shelf

theorem below_frozen {W W' : World} {p : Addr} {v : Value} (hb : Below W.heap.size W W') (h : W.cell? p = some v) (hf : W.frozen? p = false) : W'.frozen? p = false := (hb.frozen (World.block_lt_of_cell? W _ h)).trans hf
theorem nums_vals {W : World} {k : IntKind} {v : Value} {ns : List Int} (h : NumsAt W k v ns) (hne : ns ≠ []) : ValsAt W v 1 ns.length (ns.map (Value.int k)) := by
  obtain ⟨p, cap, rfl, hc⟩ := h
  refine ⟨by simp, p, cap, rfl, .inr ?_⟩
  obtain ⟨b, off, rfl, hcs⟩ := hc hne
  refine ⟨_, rfl, fun j u hj => ?_⟩
  rw [addr_add_off]
  rw [List.getElem?_eq_some_iff] at hj
  obtain ⟨h1, h2⟩ := hj
  simp only [List.length_map] at h1
  rw [hcs j h1, ← h2, List.getElem_map]
theorem bools_vals {W : World} {v : Value} {bs : List Bool} (h : BoolsAt W v bs) (hne : bs ≠ []) : ValsAt W v 1 bs.length (bs.map Value.bool) := by
  obtain ⟨p, cap, rfl, hc⟩ := h
  refine ⟨by simp, p, cap, rfl, .inr ?_⟩
  obtain ⟨b, off, rfl, hcs⟩ := hc hne
  refine ⟨_, rfl, fun j u hj => ?_⟩
  rw [addr_add_off]
  rw [List.getElem?_eq_some_iff] at hj
  obtain ⟨h1, h2⟩ := hj
  simp only [List.length_map] at h1
  rw [hcs j h1, ← h2, List.getElem_map]
/-- A slice of new memory, that is not empty. -/
def OwnsHere (B : Nat) (E : TypeId) (size n : Nat) (xs : List Value) (e : Ending) (w' : World) : Prop := ∃ g cap, e = .returned (.slice (some ⟨g, 0, none⟩) n cap) ∧ w'.ownsRow B E size (.slice (some ⟨g, 0, none⟩) n cap) n xs
theorem OwnsNew.here {B : Nat} {E : TypeId} {size n : Nat} {xs : List Value} {e : Ending} {w' : World} (h : OwnsNew B E size n xs e w') (hn : 0 < n) : OwnsHere B E size n xs e w' := by
  obtain ⟨v', rfl, ho⟩ := h
  rcases ho.2 with ⟨_, h0⟩ | ⟨g, cap, cur, rfl, _⟩
  · omega
  · exact ⟨g, cap, rfl, ho⟩
theorem cloneW_n (v : Value) (ws : List Int) (W : World) (hv : NumsAt W .u64 v ws) (hne : 0 < ws.length) (hn : ws.length ≤ 4096) :
    Calls Try.prog 36 #[v] W fun e w' => OwnsHere W.heap.size 22 1 ws.length (ws.map (Value.int .u64)) e w' ∧ Below W.heap.size W w' :=
  (cloneW v _ _ W (nums_vals hv (List.length_pos_iff.1 hne)) (fun u hu => by obtain ⟨x, _, rfl⟩ := List.mem_map.1 hu; rfl) (by omega)).mono fun _ _ h => ⟨h.1.here hne, h.2⟩
theorem cloneB_n (v : Value) (ls : List Bool) (W : World) (hv : BoolsAt W v ls) (hne : 0 < ls.length) (hn : ls.length ≤ 4096) :
    Calls Try.prog 37 #[v] W fun e w' => OwnsHere W.heap.size 4 1 ls.length (ls.map Value.bool) e w' ∧ Below W.heap.size W w' :=
  (cloneB v _ _ W (bools_vals hv (List.length_pos_iff.1 hne)) (fun u hu => by obtain ⟨x, _, rfl⟩ := List.mem_map.1 hu; rfl) (by omega)).mono fun _ _ h => ⟨h.1.here hne, h.2⟩

/-- What a call that answers a memory of its own hands over. -/
def GivesMem (B : Nat) (ws : List Int) (ls : List Bool) (f : Bool) (e : Ending) (w' : World) : Prop := ∃ v', e = .returned v' ∧ OwnsMem w' B v' ws ls f

set_option maxRecDepth 100000 in
set_option maxHeartbeats 2000000 in
theorem double_c (v : Value) (ws : List Int) (ls : List Bool) (f : Bool) (W : World) (hv : MemAt W v ws ls f) (h1 : 0 < ws.length) (h2 : 0 < ls.length) (h3 : ws.length ≤ 4096) (h4 : ls.length ≤ 4096) :
    Calls Try.prog 63 #[v] W fun e w' => GivesMem W.heap.size ws ls f e w' ∧ Below W.heap.size W w' := by
  obtain ⟨vw, vl, rfl, hvw, hvl⟩ := hv
  go_enter Try.func63, Try.ntmps63
  have hW2 : Below W.heap.size W ((W.alloc (.cells #[vw, vl, .bool f] 46)).alloc (.cells #[.slice none 0 0, .slice none 0 0, .bool false] 46)) :=
    ((Below.refl _ _).alloc (Nat.le_refl _) _).alloc (by simp) _
  have HVW := Lib.hid hvw
  have HVL := Lib.hid hvl
  clear hvw hvl
  go_wp2_with fail
  obtain ⟨wo, hwo⟩ : ∃ wo : World, wo = (W.alloc (.cells #[vw, vl, .bool f] 46)).alloc (.cells #[.slice none 0 0, .slice none 0 0, .bool false] 46) := ⟨_, rfl⟩
  have hd0 : wo.cell? ⟨W.heap.size, 0, none⟩ = some vw := by rw [hwo]; simp
  have hd1 : wo.cell? ⟨W.heap.size, 1, none⟩ = some vl := by rw [hwo]; simp
  have hd2 : wo.cell? ⟨W.heap.size, 2, none⟩ = some (.bool f) := by rw [hwo]; simp
  have he0 : wo.cell? ⟨W.heap.size + 1, 0, none⟩ = some (.slice none 0 0) := by rw [hwo]; simp
  have he1 : wo.cell? ⟨W.heap.size + 1, 1, none⟩ = some (.slice none 0 0) := by rw [hwo]; simp
  have he2 : wo.cell? ⟨W.heap.size + 1, 2, none⟩ = some (.bool false) := by rw [hwo]; simp
  have hf0 : wo.frozen? ⟨W.heap.size + 1, 0, none⟩ = false := by rw [hwo]; simp
  have hf1 : wo.frozen? ⟨W.heap.size + 1, 1, none⟩ = false := by rw [hwo]; simp
  have hf2 : wo.frozen? ⟨W.heap.size + 1, 2, none⟩ = false := by rw [hwo]; simp
  have hsz : W.heap.size + 1 < wo.heap.size := by rw [hwo]; simp
  rw [← hwo] at hW2 ⊢
  clear hwo
  replace hW2 := hW2.drew
  go_region_held3 (fun w' => w'.cell? ⟨W.heap.size, 0, none⟩ = some vw ∧ w'.cell? ⟨W.heap.size, 1, none⟩ = some vl ∧ w'.cell? ⟨W.heap.size, 2, none⟩ = some (.bool f))
    (first
      | exact ⟨hd0, hd1, hd2⟩
      | go_keep
      | (go_split_ands; exact ⟨below_cell hb3 (by assumption), below_cell hb3 (by assumption), below_cell hb3 (by assumption)⟩))
    (first
      | (go_at_call 36; refine (cloneW_n vw ws _ ?_ h1 h3).mono ?_; exact nums_below HVW.out hW2; rintro e w3 ⟨⟨g3, c3, rfl, hown3⟩, hb3⟩; replace hf0 := below_frozen hb3 he0 hf0; replace hf1 := below_frozen hb3 he1 hf1; replace hf2 := below_frozen hb3 he2 hf2; replace he0 := below_cell hb3 he0; replace he1 := below_cell hb3 he1; replace he2 := below_cell hb3 he2; replace hW2 := below_then hW2 hW2.size hb3)
      | (go_at_call 37; refine (cloneB_n vl ls _ ?_ h2 h4).mono ?_; exact bools_below HVL.out hW2; rintro e w3 ⟨⟨g3, c3, rfl, hown3⟩, hb3⟩; replace hf0 := below_frozen hb3 he0 hf0; replace hf1 := below_frozen hb3 he1 hf1; replace hf2 := below_frozen hb3 he2 hf2; replace he0 := below_cell hb3 he0; replace he1 := below_cell hb3 he1; replace he2 := below_cell hb3 he2; replace hW2 := below_then hW2 hW2.size hb3))
  rename_i wx hbx gx cx hownx _
  have hsx : W.heap.size + 1 < wx.heap.size := Nat.lt_of_lt_of_le hsz hbx.size
  have ho1 := (((ownsRow_setCell_below (ownsRow_setCell_below (ownsRow_setCell_below (owns_below hownx hb3) (a := ⟨W.heap.size + 1, 0, none⟩) hsz (.slice (some ⟨gx, 0, none⟩) ws.length cx)) (a := ⟨W.heap.size + 1, 1, none⟩) hsz (.slice (some ⟨g3, 0, none⟩) ls.length c3)) (a := ⟨W.heap.size + 1, 2, none⟩) hsz (.bool f)))).mono (base' := W.heap.size) (by have := hsz; simp; omega)
  have ho2 := (((ownsRow_setCell_below (ownsRow_setCell_below (ownsRow_setCell_below hown3 (a := ⟨W.heap.size + 1, 0, none⟩) hsx (.slice (some ⟨gx, 0, none⟩) ws.length cx)) (a := ⟨W.heap.size + 1, 1, none⟩) hsx (.slice (some ⟨g3, 0, none⟩) ls.length c3)) (a := ⟨W.heap.size + 1, 2, none⟩) hsx (.bool f)))).mono (base' := W.heap.size) (by omega)
  have hB := ((hW2.setCell (p := ⟨W.heap.size + 1, 0, none⟩) (Nat.le_succ _) (.slice (some ⟨gx, 0, none⟩) ws.length cx)).setCell (p := ⟨W.heap.size + 1, 1, none⟩) (Nat.le_succ _) (.slice (some ⟨g3, 0, none⟩) ls.length c3)).setCell (p := ⟨W.heap.size + 1, 2, none⟩) (Nat.le_succ _) (.bool f)
  clear hownx hown3
  go_wp2
  exact bodyPost_ret (v := .agg #[.slice (some ⟨gx, 0, none⟩) ws.length cx, .slice (some ⟨g3, 0, none⟩) ls.length c3, .bool f]) (by simp [results, Try.results63, go_sem, he0, he1, he2]) rfl ⟨⟨_, rfl, _, _, rfl, ho1, ho2⟩, hB⟩

end Go.Proofs.Ytcledklajcdfiaa
