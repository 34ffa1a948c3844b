/-
  mask, called with the places of a field of which At and Wide are at most 64 together: the word that has 1 at just these places; what was in memory stays.
  Conditions: At and Wide are at least 0.
-/
import Derived.Test.YtjgdkfgcfningaaDoorPlaces
import Derived.Test.YtjgdkfgcfningaaDoorMath
import Derived.BigQuiet
import Derived.Deep.QuietTactic
import Derived.IntWalk
namespace Go.Proofs.YtjgdkfgcfningaaDoor
open Go.RowKit Go.Shelf
attribute [local go_sem] Oper.semAt_some

/-- What the loop has put together when these places have come. -/
def orAll (l : List Nat) : Nat := l.foldl (fun m x => m ||| 2 ^ x % 18446744073709551616) 0
theorem orAll_snoc (l : List Nat) (x : Nat) : orAll (l ++ [x]) = orAll l ||| 2 ^ x % 18446744073709551616 := by simp [orAll]
theorem orAll_lt (l : List Nat) : orAll l < 18446744073709551616 := by
  suffices ∀ m, m < 2 ^ 64 → l.foldl (fun m x => m ||| 2 ^ x % 18446744073709551616) m < 2 ^ 64 from this 0 (by decide)
  induction l with
  | nil => intro m h; exact h
  | cons x l ih => intro m h; exact ih _ (Nat.or_lt_two_pow h (Nat.mod_lt _ (by decide)))
theorem orAll_upto (a k : Nat) (h : a + k ≤ 64) : orAll (upto a k) = maskN a k := by
  induction k with
  | zero => simp [upto_zero, orAll, maskN_zero]
  | succ k ih =>
    rw [upto_succ, orAll_snoc, ih (by omega), ← maskN_succ, Nat.mod_eq_of_lt]
    exact (Nat.pow_lt_pow_right (by decide) (by omega) : 2 ^ (a + k) < 2 ^ 64)

theorem wrap_u64 (n : Int) : IntKind.u64.wrap n = n % 18446744073709551616 := by simp [IntKind.wrap, IntKind.bits, IntKind.signed]
theorem wrap_pow (x : Nat) : IntKind.u64.wrap (2 ^ min x 64) = ((2 ^ x % 18446744073709551616 : Nat) : Int) := by
  rw [wrap_u64]
  by_cases h : x < 64
  · rw [show min x 64 = x by omega]
    simp
  · obtain ⟨d, rfl⟩ := Nat.exists_eq_add_of_le (show 64 ≤ x by omega)
    rw [show min (64 + d) 64 = 64 by omega, show 2 ^ (64 + d) % 18446744073709551616 = 0 by rw [Nat.pow_add]; exact Nat.mul_mod_right _ _]
    decide
theorem or_pow (m x : Nat) (hm : m < 18446744073709551616) : bits .or .u64 (m : Int) (IntKind.u64.wrap (2 ^ min x 64)) = ((m ||| 2 ^ x % 18446744073709551616 : Nat) : Int) := by
  rw [wrap_pow, u64_or_nat _ _ hm (Nat.mod_lt _ (by decide))]

set_option maxRecDepth 100000 in
set_option maxHeartbeats 2000000 in
theorem mask_in (F : Fence) (n : Nat) (h : F.fn 60) (h2 : F.fn 61) (hro : F.round = none) (hn : 3 ≤ n) (a k : Nat) (hak : a + k ≤ 64) (w : World) :
    CallsIn F n Tryd.prog 60 #[.func (.func 61) #[partV a k] #[]] w fun e w' => e = .returned (.int .u64 (maskN a k)) ∧ Below w.heap.size w w' := by
  have h1 : 1 ≤ n := by omega
  refine callsIn_of_wp_marks Tryd.func60 rfl h ?_ hro
  simp only [Tryd.ntmps60, List.size_toArray, List.length_cons, List.length_nil, Nat.reduceAdd, Nat.reduceSub, Array.replicate_succ, Array.replicate_zero, List.push_toArray, List.append_toArray, List.nil_append, List.cons_append]
  gi_wp2
  refine wpIn_rangeBound hro h1 (gf := 61) (bd := #[partV a k]) (lb := #[]) rfl h2 (enters_of Tryd.func61 (by kernel_rfl) rfl)
    (places_stops F (n - 1) h2 hro (by omega) (w.heap.size + 1) a k hak _ (by simp)) (fun h k => h.trans k) (fun W l o o' hl => KeepsNew.turn _ W l o o' (by simpa using hl)) (Below.refl _ _) (fun _ => rfl)
    (fun pre W => Boxed W w.heap.size 37 (.int .u64 (orAll pre)) ∧ Below w.heap.size w W) (fun _ _ _ => False)
    (OwnFrom.and ((boxed_own _ _ _).from _) (ownFrom_below (Nat.le_refl _) (by simp)))
    (fun _ _ _ _ _ hs _ _ => hs)
    ⟨Boxed.new _ _ _, (Below.refl _ _).alloc (Nat.le_refl _) _⟩
    (fun x a' _ => a' = { tmps := #[.func (.func 61) #[partV a k] #[], undef, .int .u64 0, .pointer (some ⟨w.heap.size, 0, none⟩), .int .i64 x, .func (.func 61) #[partV a k] #[], .int .i64 x, undef, undef, undef, undef, undef], defers := [] })
    (fun _ _ => ownFrom_pure _ _) ?assign ?body ?done ?stop
  case assign =>
    intro l pre x W K hi hK
    gi_wp2
    exact hK _ _ (KeepsFrom.refl _ _) (KeepsNew.refl _ _) hi rfl
  case body =>
    rintro l pre x a' W hl _ ⟨hv, hB⟩ rfl hlt
    have hc := hv.cell
    have hf := hv.frozen
    have hmx : Tryd.prog.follows .mixedOrders = true := by kernel_rfl
    gi_wp2
    gi_region_o
    all_goals gi_wp2
    all_goals (try go_bits)
    all_goals
      rw [or_pow _ _ (orAll_lt pre), ← orAll_snoc]
      exact ⟨((KeepsOthers.setCell _ _ _).trans (KeepsOthers.drew _)).from _, (KeepsNew.setCell _ _ _ _ (by simp)).trans (KeepsNew.drew _ _), hv.set _, (hB.setCell (p := ⟨w.heap.size, 0, none⟩) (Nat.le_refl _) _).drew⟩
  case done =>
    rintro D xs W hD rfl ⟨hv, hB⟩ hK
    have hc := hv.cell
    gi_wp2
    refine ⟨by simp, .inl ⟨_, _, rfl, run_takeDeferred hK, ?_⟩⟩
    have hd : Below w.heap.size W (W.putObj D (.deferred none)) := belowK_b (w := w) (Nat.le_refl _) W D _ _ (by simp at hD; omega) hK rfl rfl
    exact ⟨_, results_tmp rfl _ _ _, by rw [orAll_upto a k hak]; rfl, hB.trans hd⟩
  case stop =>
    rintro D c pre W _ _ h _
    exact h.elim

end Go.Proofs.YtjgdkfgcfningaaDoor
