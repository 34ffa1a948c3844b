/-
  Package reader: the map of the steps that are met; and which readers may be, in mathematics.
  Conditions: none.
-/
import Derived.Test.YtjfphhemhaphbabYSec
import Derived.Maps.OwnSet
import Derived.Maps.OwnIn
import Derived.Maps.OwnOps
namespace Go.Proofs.Ytjfphhemhaphbab
set_option maxRecDepth 100000
open Go.RowKit Go.Shelf Go.Maps

def I64 (x : Int) : Prop := -9223372036854775808 ≤ x ∧ x ≤ 9223372036854775807
theorem wfi {x : Int} (h : I64 x) : (Lit.int .i64 x).wf = true := by unfold I64 at h; simp [Lit.wf, IntKind.min, IntKind.max, IntKind.signed, IntKind.bits]; omega
theorem intKeyed : Keyed Try.prog 3 := int_keyed Try.underlying3
/-- The map that has just these keys. -/
def MapHas (W : World) (mb : Nat) (ks : List Int) : Prop := ∃ D : DataW Unit, W.ownsMap Try.prog 3 (plainElem Try.prog 3) mb ks.length D ∧ ∀ y : Int, Maps.has D (.int .i64 y) = decide (y ∈ ks)
theorem MapHas.new (W : World) : MapHas (W.alloc (.map #[] 0)) W.heap.size [] := ⟨.map [], World.ownsMap_made W _ _ _, fun y => by simp [Maps.has_eq]⟩
theorem MapHas.kept {W W' : World} {row : Option Nat} {mb : Nat} {ws : List Int} (h : MapHas W mb ws) (hg : W.grownBy W' row) (hne : some mb ≠ row) : MapHas W' mb ws := by
  obtain ⟨D, ho, hD⟩ := h
  exact ⟨D, ho.kept hg hne, hD⟩
theorem MapHas.lt {W : World} {mb : Nat} {ws : List Int} (h : MapHas W mb ws) : mb < W.heap.size := by
  obtain ⟨D, ho, _⟩ := h
  exact ho.lt
theorem MapHas.block {W : World} {mb : Nat} {ws : List Int} (h : MapHas W mb ws) : ∃ es ck, W.heap[mb]? = some (.map es ck) := by
  obtain ⟨D, ⟨es, ck, h1, _⟩, _⟩ := h
  exact ⟨es, ck, h1⟩
theorem MapHas.look {W : World} {mb : Nat} {ws : List Int} (h : MapHas W mb ws) (x : Int) (hx : I64 x) : ∃ c : Int, (Instr.lookup 54 (.map (some mb)) (.int .i64 x) true).run Try.prog W = .ok (.tuple #[.int .i64 c, .bool (decide (x ∈ ws))]) W := by
  obtain ⟨D, ho, hD⟩ := h
  obtain ⟨v, ps, hrun, hv⟩ := ho.look_ok intKeyed Try.underlying54 (z := .int .i64 0) (by kernel_rfl) (plainElem_int Try.underlying3 (by decide)) (keyOf_int_mk Try.underlying3 (wfi hx))
  obtain ⟨c, rfl, hc, hwc⟩ := plainElem_int_inv Try.underlying3 hv
  rw [hD] at hrun
  exact ⟨c, hrun⟩
theorem MapHas.one {W : World} {mb : Nat} {ws : List Int} (h : MapHas W mb ws) (x y : Int) (hx : I64 x) (hy : I64 y) (hn : ws.length < 1000000000) :
    ∃ W', (Instr.mapUpdate 54 (.map (some mb)) (.int .i64 x) (.int .i64 y)).run Try.prog W = .ok () W' ∧ MapHas W' mb (ws ++ [x]) ∧ W.grownBy W' (some mb) := by
  obtain ⟨D, ho, hD⟩ := h
  have hmap : IsMap D := ho.isMap
  have hkey := keyOf_int_mk (P := Try.prog) (k := 3) Try.underlying3 (wfi hx)
  obtain ⟨W', hrun, ho', hg⟩ := ho.update intKeyed Try.underlying54 (by unfold maxLen; omega) hkey (plainElem_int Try.underlying3 (wfi hy))
  refine ⟨W', hrun, ⟨_, by rw [List.length_append]; exact ho', fun z => ?_⟩, hg⟩
  by_cases hz : z = x
  · subst hz
    rw [has_put_same hmap (intKeyed.key hkey)]
    simp
  · rw [has_put_other (by intro e; injection e with _ e; exact hz e), hD]
    simp [hz]

def okOne (now : Int) (s : Int × Int) : Bool := decide (1 ≤ s.1) && decide (s.1 ≤ 8) && decide (1 ≤ s.2) && decide (s.2 ≤ now)
/-- May those be that are in a section? -/
def okS (now : Int) (l : List (Int × Int)) : Bool := l.all (okOne now) && decide ((l.map (·.2)).Nodup)
theorem okS_snoc (now : Int) (l : List (Int × Int)) (s : Int × Int) : okS now (l ++ [s]) = (okS now l && (okOne now s && decide (s.2 ∉ l.map (·.2)))) := by
  unfold okS
  rw [List.all_append, List.map_append, List.map_singleton]
  simp only [List.all_cons, List.all_nil, Bool.and_true]
  have e : decide ((l.map (·.2) ++ [s.2]).Nodup) = (decide ((l.map (·.2)).Nodup) && decide (s.2 ∉ l.map (·.2))) := by
    rw [Bool.eq_iff_iff]
    simp only [decide_eq_true_eq, Bool.and_eq_true, List.nodup_append]
    constructor
    · rintro ⟨h1, _, h2⟩
      exact ⟨h1, fun h => h2 _ h s.2 (by simp) rfl⟩
    · rintro ⟨h1, h2⟩
      exact ⟨h1, by simp, fun a ha b hb e => by rw [List.mem_singleton.1 hb] at e; exact h2 (e ▸ ha)⟩
  rw [e]
  cases l.all (okOne now) <;> cases okOne now s <;> cases decide ((l.map (·.2)).Nodup) <;> simp
theorem okS_pre (now : Int) : ∀ (m l : List (Int × Int)), okS now (l ++ m) = true → okS now l = true
  | [], l, h => by simpa using h
  | s :: m, l, h => by
    have h2 := okS_pre now m (l ++ [s]) (by simpa using h)
    rw [okS_snoc, Bool.and_eq_true] at h2
    exact h2.1
def mayB (now : Int) (ns os : List Int) : Bool := mayCpus ns.length && (decide (os.length = ns.length) && (decide (0 ≤ now) && (decide (now ≤ 2147483647) && okS now (secs (ns.zip os)))))

end Go.Proofs.Ytjfphhemhaphbab
