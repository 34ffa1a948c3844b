/-
  Package size: what Apart answers, block by block; the map of the words that are taken: a look-up, and one more.
  Conditions: none.
-/
import Derived.Test.YtklbbcaebdfjeaaDoorZWords
namespace Go.Proofs.YtklbbcaebdfjeaaDoor
open Go.RowKit Go.Shelf Go.Maps

/-- The words taken, and more: none, if one of them is taken already. -/
def apF : List Nat → List Nat → Option (List Nat)
  | t, [] => some t
  | t, x :: l => if x ∈ t then none else apF (t ++ [x]) l
theorem apF_snoc : ∀ (l : List Nat) (t : List Nat) (x : Nat), apF t (l ++ [x]) = (apF t l).bind fun m => if x ∈ m then none else some (m ++ [x])
  | [], t, x => rfl
  | y :: l, t, x => by
    simp only [List.cons_append, apF]
    split
    · rfl
    · exact apF_snoc l _ x
theorem apF_none : ∀ (l : List Nat) {t r : List Nat}, apF t l = none → apF t (l ++ r) = none
  | [], t, r, h => by cases h
  | y :: l, t, r, h => by
    simp only [List.cons_append, apF] at h ⊢
    split
    · rfl
    · rename_i hn
      rw [if_neg hn] at h
      exact apF_none l h
theorem apF_len : ∀ (l : List Nat) {t m : List Nat}, apF t l = some m → m.length = t.length + l.length
  | [], t, m, h => by cases h; rfl
  | y :: l, t, m, h => by
    simp only [apF] at h
    split at h
    · cases h
    · rw [apF_len l h, List.length_append, List.length_cons]; simp; omega
/-- .. are apart from those, and each other. -/
theorem apF_some : ∀ (l : List Nat) {t m : List Nat}, apF t l = some m ↔ (l.Nodup ∧ (∀ x ∈ l, x ∉ t)) ∧ m = t ++ l
  | [], t, m => by simp [apF, eq_comm]
  | y :: l, t, m => by
    simp only [apF]
    split
    · rename_i hy
      constructor
      · intro h; cases h
      · rintro ⟨⟨_, h⟩, _⟩; exact absurd hy (h y List.mem_cons_self)
    · rename_i hy
      rw [apF_some l, List.nodup_cons]
      constructor
      · rintro ⟨⟨h1, h2⟩, rfl⟩
        refine ⟨⟨⟨fun hm => h2 y hm (by simp), h1⟩, fun x hx => ?_⟩, by simp⟩
        rcases List.mem_cons.1 hx with rfl | hx
        · exact hy
        · exact fun h => h2 x hx (List.mem_append_left _ h)
      · rintro ⟨⟨⟨h1, h2⟩, h3⟩, rfl⟩
        refine ⟨⟨h2, fun x hx h => ?_⟩, by simp⟩
        rcases List.mem_append.1 h with h | h
        · exact h3 x (List.mem_cons_of_mem _ hx) h
        · rw [List.mem_singleton.1 h] at hx; exact h1 hx

/-- The run over blocks. -/
def ap1 (t : List Nat) (b : Int × Int) : Option (List Nat) := if mayB b.1 b.2 = true then apF t (wrL b.1.toNat (szN b.2.toNat)) else none
def apTo (l : List (Int × Int)) : Option (List Nat) := l.foldl (fun o b => o.bind fun t => ap1 t b) (some [])
theorem apTo_snoc (l : List (Int × Int)) (b : Int × Int) : apTo (l ++ [b]) = (apTo l).bind fun t => ap1 t b := by simp [apTo]
theorem apTo_none {l m : List (Int × Int)} (h : apTo l = none) (hp : l <+: m) : apTo m = none := by
  obtain ⟨r, rfl⟩ := hp
  unfold apTo at h ⊢
  rw [List.foldl_append, h]
  induction r with
  | nil => rfl
  | cons x r ih => exact ih
/-- What Apart answers. -/
def apB (l : List (Int × Int)) : Bool := (apTo l).isSome
theorem ap1_len {t m : List Nat} {b : Int × Int} (h : ap1 t b = some m) : m.length ≤ t.length + 16 := by
  unfold ap1 at h
  split at h
  · rename_i hb
    rw [apF_len _ h]
    obtain ⟨k, n, hc, hk, _⟩ := mayB_yes hb
    have := (sz_ok hk).2
    rw [hc, Int.toNat_natCast]
    unfold wrL
    simp
    omega
  · cases h
theorem apTo_len : ∀ (i : Nat) (l : List (Int × Int)) {m : List Nat}, apTo (l.take i) = some m → m.length ≤ 16 * i
  | 0, l, m, h => by simp [apTo] at h; subst h; simp
  | i + 1, l, m, h => by
    rcases Nat.lt_or_ge i l.length with hl | hl
    · rw [List.take_succ_eq_append_getElem hl, apTo_snoc] at h
      cases ht : apTo (l.take i) with
      | none => rw [ht] at h; cases h
      | some t =>
        rw [ht] at h
        have := ap1_len (show ap1 t l[i] = some m from h)
        have := apTo_len i l ht
        omega
    · rw [List.take_of_length_le (by omega)] at h
      have := apTo_len i l (m := m) (by rw [List.take_of_length_le hl]; exact h)
      omega

/-- A slice that reads as these blocks. -/
def BlksAt (W : World) (v : Value) (bs : List (Int × Int)) : Prop := ∃ p cap, v = .slice p bs.length cap ∧
  (bs ≠ [] → ∃ b off, p = some ⟨b, off, none⟩ ∧ ∀ i (h : i < bs.length), W.cell? ⟨b, off + i * 2, none⟩ = some (.int .i64 bs[i].1) ∧ W.cell? ⟨b, off + i * 2 + 1, none⟩ = some (.int .i64 bs[i].2))
theorem BlksAt.below {W W' : World} {v : Value} {bs : List (Int × Int)} (h : BlksAt W v bs) (hb : Below W.heap.size W W') : BlksAt W' v bs := by
  obtain ⟨p, cap, e, hc⟩ := h
  refine ⟨p, cap, e, fun hne => ?_⟩
  obtain ⟨b, off, e2, hcs⟩ := hc hne
  exact ⟨b, off, e2, fun i hi => ⟨below_cell hb (hcs i hi).1, below_cell hb (hcs i hi).2⟩⟩

theorem intKeyed : Keyed Tryd.prog 3 := int_keyed Tryd.underlying3
/-- The map that counts the words: one for each that is taken. -/
def MapAt (W : World) (mb : Nat) (ws : List Nat) : Prop := ∃ D : DataW Unit, W.ownsMap Tryd.prog 3 (plainElem Tryd.prog 3) mb ws.length D ∧ ∀ y : Int, D.atKey (.int .i64 y) (.lit (.int .i64 0)) = .lit (.int .i64 (if ∃ x ∈ ws, ((x : Nat) : Int) = y then 1 else 0))
theorem MapAt.new (W : World) : MapAt (W.alloc (.map #[] 0)) W.heap.size [] := ⟨.map [], World.ownsMap_made W _ _ _, fun y => by simp [DataW.atKey]⟩
theorem MapAt.kept {W W' : World} {row : Option Nat} {mb : Nat} {ws : List Nat} (h : MapAt W mb ws) (hg : W.grownBy W' row) (hne : some mb ≠ row) : MapAt W' mb ws := by
  obtain ⟨D, ho, hD⟩ := h
  exact ⟨D, ho.kept hg hne, hD⟩
theorem MapAt.lt {W : World} {mb : Nat} {ws : List Nat} (h : MapAt W mb ws) : mb < W.heap.size := by
  obtain ⟨D, ho, _⟩ := h
  exact ho.lt
theorem MapAt.block {W : World} {mb : Nat} {ws : List Nat} (h : MapAt W mb ws) : ∃ es ck, W.heap[mb]? = some (.map es ck) := by
  obtain ⟨D, ⟨es, ck, h1, _⟩, _⟩ := h
  exact ⟨es, ck, h1⟩
theorem wfi {x : Int} (h : 0 ≤ x ∧ x ≤ 9000) : (Lit.int .i64 x).wf = true := by simp [Lit.wf, IntKind.min, IntKind.max, IntKind.signed, IntKind.bits]; omega
/-- A look-up of a word. -/
theorem MapAt.look {W : World} {mb : Nat} {ws : List Nat} (h : MapAt W mb ws) (x : Nat) (hx : x ≤ 9000) : (Instr.lookup 59 (.map (some mb)) (.int .i64 (x : Int)) false).run Tryd.prog W = .ok (.int .i64 (if x ∈ ws then 1 else 0)) W := by
  obtain ⟨D, ho, hD⟩ := h
  obtain ⟨c, hrun, hat, _⟩ := ho.lookup_int intKeyed Tryd.underlying59 Tryd.underlying3 (by kernel_rfl) (keyOf_int_mk Tryd.underlying3 (wfi (x := (x : Int)) (by omega)))
  rw [hD] at hat
  have hc : (if ∃ y ∈ ws, ((y : Nat) : Int) = (x : Int) then (1 : Int) else 0) = c := by injection hat with hat; injection hat
  rw [hrun, ← hc]
  have e : (∃ y ∈ ws, ((y : Nat) : Int) = (x : Int)) ↔ x ∈ ws := ⟨fun ⟨y, hy, hh⟩ => by rw [← Int.natCast_inj.1 hh]; exact hy, fun h => ⟨x, h, rfl⟩⟩
  by_cases hm : x ∈ ws
  · rw [if_pos (e.2 hm), if_pos hm]
  · rw [if_neg (fun h => hm (e.1 h)), if_neg hm]
/-- One more at a word that is not taken. -/
theorem MapAt.one {W : World} {mb : Nat} {ws : List Nat} (h : MapAt W mb ws) (x : Nat) (hx : x ≤ 9000) (hm : x ∉ ws) (hn : ws.length < 1000000000) :
    ∃ W', (Instr.mapUpdate 59 (.map (some mb)) (.int .i64 (x : Int)) (.int .i64 1)).run Tryd.prog W = .ok () W' ∧ MapAt W' mb (ws ++ [x]) ∧ W.grownBy W' (some mb) := by
  obtain ⟨D, ho, hD⟩ := h
  have hmap : IsMap D := by
    obtain ⟨es, ck, _, _, _, e⟩ := ho
    exact ⟨_, e⟩
  have hkey := keyOf_int_mk (P := Tryd.prog) (k := 3) Tryd.underlying3 (wfi (x := (x : Int)) (by omega))
  obtain ⟨W', hrun, ho', hg⟩ := ho.update intKeyed Tryd.underlying59 (by unfold maxLen; omega) hkey (plainElem_int Tryd.underlying3 (wfi (x := 1) (by omega)))
  refine ⟨W', hrun, ⟨_, by rw [List.length_append]; exact ho', fun y => ?_⟩, hg⟩
  by_cases hy : y = (x : Int)
  · subst hy
    rw [atKey_put_same hmap (intKeyed.key hkey)]
    rw [if_pos ⟨x, by simp, rfl⟩]
  · rw [atKey_put_other (by intro e; injection e with _ e; exact hy e), hD]
    congr 3
    simp only [List.mem_append, List.mem_singleton, eq_iff_iff]
    exact ⟨fun ⟨z, hz, he⟩ => ⟨z, .inl hz, he⟩, fun ⟨z, hz, he⟩ => by
      rcases hz with hz | rfl
      · exact ⟨z, hz, he⟩
      · exact absurd he.symm hy⟩
/-- One more at a word that is taken. -/
theorem MapAt.two {W : World} {mb : Nat} {ws : List Nat} (h : MapAt W mb ws) (x : Nat) (hx : x ≤ 9000) (hn : ws.length < 1000000000) :
    ∃ W', (Instr.mapUpdate 59 (.map (some mb)) (.int .i64 (x : Int)) (.int .i64 2)).run Tryd.prog W = .ok () W' ∧ (Instr.lookup 59 (.map (some mb)) (.int .i64 (x : Int)) false).run Tryd.prog W' = .ok (.int .i64 2) W' ∧ W.grownBy W' (some mb) := by
  obtain ⟨D, ho, hD⟩ := h
  have hmap : IsMap D := by
    obtain ⟨es, ck, _, _, _, e⟩ := ho
    exact ⟨_, e⟩
  have hkey := keyOf_int_mk (P := Tryd.prog) (k := 3) Tryd.underlying3 (wfi (x := (x : Int)) (by omega))
  obtain ⟨W', hrun, ho', hg⟩ := ho.update intKeyed Tryd.underlying59 (by unfold maxLen; omega) hkey (plainElem_int Tryd.underlying3 (wfi (x := 2) (by omega)))
  obtain ⟨c, hrun2, hat, _⟩ := ho'.lookup_int intKeyed Tryd.underlying59 Tryd.underlying3 (by kernel_rfl) hkey
  rw [atKey_put_same hmap (intKeyed.key hkey)] at hat
  have hc : 2 = c := by injection hat with hat; injection hat
  exact ⟨W', hrun, by rw [hrun2, ← hc], hg⟩

end Go.Proofs.YtklbbcaebdfjeaaDoor
