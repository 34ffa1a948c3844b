/-
  Package pool: next tells the free pages, the last one first.
  Conditions: who ranges over them leaves the pool, and its row, as they are.
-/
import Derived.Test.YthjkaabbbhfjhaaPBack
namespace Go.Proofs.Ythjkaabbbhfjhaa
open Go.RowKit Go.Shelf
attribute [local go_sem] Oper.semAt_some

set_option maxRecDepth 100000 in
set_option maxHeartbeats 4000000 in
theorem next_stops (n : Nat) (hn : 3 ≤ n) (S : Nat → Prop) (pb cap : Nat) (b pg : Int) (p : Option Addr) (fs : List Int) (w : World) (hSw : ∀ k, S k → k < w.heap.size) (hmax : fs.length ≤ 4611686018427387904)
    (hc : PBox w pb b pg (.slice p fs.length cap)) (hl : RowOut S w p fs) :
    SeqDeep Fence.wide n Try.prog 40 #[.pointer (some ⟨pb, 0, none⟩)] (fun x : Int => #[.int .i64 x]) (KeepsCells S) (fun xs => xs = fs.reverse) (fun xs => ∃ j, xs = (fs.drop j).reverse) fs.length w := fun l J Jx W hW hJ hJx hY h0 => by
  refine callsIn_of_wp_marks Try.func40 rfl trivial ?_ rfl
  simp only [Try.ntmps40, List.size_toArray, List.length_cons, List.length_nil, Nat.reduceAdd, Nat.reduceSub, Array.replicate_succ, Array.replicate_zero, List.push_toArray, List.append_toArray, List.nil_append, List.cons_append]
  have hcW := ((hc.below hW).below (below1 W (.cells #[.func (.yield l) #[] #[]] 74))).cells.2.2
  have HLW := Lib.hid (hl.below hW)
  have HSW := Lib.hid (show ∀ k, S k → k < W.heap.size from fun k hk => Nat.lt_of_lt_of_le (hSw k hk) hW.size)
  have HJ := Lib.hid (And.intro hJ hJx)
  clear hc hl hSw hJ hJx
  gi_wp2_with fail
  refine ⟨trivial, ⟨fun _ => by omega, ?_⟩⟩
  refine (callsIn_wide.2 (backward_c p fs.length cap _)).mono ?_
  rintro e w1 ⟨rfl, hw1⟩
  have hz1 : w1.heap.size = W.heap.size + 2 := by rw [hw1]; simp
  have hb1 : Below W.heap.size W w1 := by rw [hw1]; exact below2 _ _ _
  have hy1 : w1.cell? ⟨W.heap.size, 0, none⟩ = some (.func (.yield l) #[] #[]) := by
    rw [hw1, World.cell?_alloc_lt _ _ _ (by simp)]
    exact (Boxed.new W _ _).cell
  have hs1 : w1.cell? ⟨W.heap.size + 1, 0, none⟩ = some (.slice p fs.length cap) := by
    rw [hw1]
    have := (Boxed.new (W.alloc (.cells #[.func (.yield l) #[] #[]] 74)) 22 (.slice p fs.length cap)).cell
    rw [World.size_alloc] at this
    exact this
  have hJ1 : J [] w1 := by rw [hw1]; exact HJ.out.1.alloc _ (HJ.out.1.alloc _ h0)
  have HL1 := Lib.hid (HLW.out.below hb1)
  rw [World.size_alloc]
  clear hw1 h0 HLW
  gi_wp2
  refine wpIn_rangeDeep rfl (by omega) (gf := 54) (lb := #[.pointer (some ⟨W.heap.size + 1, 0, none⟩)]) rfl trivial (enters_of Try.func54 (by kernel_rfl) rfl)
    (backward_stops (n - 1) (by omega) S (W.heap.size + 1) cap p fs w1 (fun h => by have := HSW.out _ h; omega) hmax hs1 HL1.out) (fun h k => h.trans k) (fun W l o o' _ => KeepsCells.turn _ W l o o') (Below.refl _ _) (fun _ => rfl)
    (fun pre W' => J (pre.map (·.2)) W' ∧ W'.cell? ⟨W.heap.size, 0, none⟩ = some (.func (.yield l) #[] #[]))
    (fun c pre W' => c = .ret ∧ Jx (pre.map (·.2)) W')
    ?hI ?hIx ?h0
    (fun s a' _ => a' = { tmps := #[.func (.yield l) #[] #[], .pointer (some ⟨pb, 0, none⟩), .pointer (some ⟨W.heap.size, 0, none⟩), undef, .int .i64 s.2, .pointer (some ⟨pb, 2, none⟩), .slice p fs.length cap, .func (.func 54) #[] #[.pointer (some ⟨W.heap.size + 1, 0, none⟩)], .int .i64 s.1, .int .i64 s.2, undef, undef, undef, undef], defers := [] })
    ?hAx ?assign ?body ?done ?stop
  case hI =>
    rintro s X Y row ⟨h1, h2⟩ hg hr
    exact ⟨HJ.out.1 _ X Y row h1 hg (fun r e => ⟨by have := (hr r e).1; omega, (hr r e).2⟩), cell_kept h2 hg (fun r e => (hr r e).2)⟩
  case hIx =>
    rintro c s X Y row ⟨h1, h2⟩ hg hr
    exact ⟨h1, HJ.out.2 _ X Y row h2 hg (fun r e => ⟨by have := (hr r e).1; omega, (hr r e).2⟩)⟩
  case h0 => exact ⟨hJ1, hy1⟩
  case hAx => exact fun x a' => ownFrom_pure _ _
  case assign =>
    rintro l' pre x W' K hi hK
    clear hY hy1 hs1 hJ1 hcW
    gi_wp2
    exact hK _ _ (KeepsFrom.refl _ _) (KeepsCells.refl _ _) hi rfl
  case body =>
    rintro l' pre x a' W' hl _ ⟨hJp, hyc⟩ rfl hlen ⟨j, hj⟩
    obtain ⟨fn, tmps, assign, body, hy, hR⟩ := yield_within (F := Fence.wide) rfl (n - 1 - 1 - 1) l' (hY (pre.map (·.2)) x.2 W' hJp (by simpa using hlen) ⟨j, by simpa using hj⟩)
    clear hY hy1 hs1 hJ1 hcW hJp hj
    obtain ⟨x1, x2⟩ := x
    dsimp only at hy hR ⊢
    gi_wp2_with fail
    refine ⟨fun _ => by omega, ?_⟩
    refine hR.mono ?_
    rintro e W3 (⟨rfl, hJ3, hk3, hf3⟩ | ⟨rfl, hJx3, hf3⟩)
    · have hc3 := hk3 _ _ _ (fun h => absurd (HSW.out _ h) (Nat.lt_irrefl _)) hyc
      gi_wp2
      exact ⟨⟨hf3.size, fun k o hk => hf3.same k o (by omega)⟩, hk3, by rw [List.map_append]; exact hJ3, hc3⟩
    · gi_wp2
      exact ⟨⟨hf3.size, fun k o hk => hf3.same k o (by omega)⟩, rfl, by rw [List.map_append]; exact hJx3⟩
  case done =>
    rintro D xs W' hD hxs ⟨hJ', -⟩ hK
    clear hY hy1 hs1 hJ1 hcW
    gi_wp2
    refine ⟨by simp, .inl ⟨_, _, rfl, run_takeDeferred hK, ?_⟩⟩
    refine ⟨_, results_none rfl _ _ _, ⟨_, rfl⟩, .inl ⟨xs.map (·.2), hxs, HJ.out.1.putObj _ hJ' (by omega) hK rfl⟩⟩
  case stop =>
    rintro D c pre W' hD ⟨j, hj⟩ ⟨rfl, hJ'⟩ hK
    clear hY hy1 hs1 hJ1 hcW
    gi_wp2
    refine ⟨by simp, .inl ⟨_, _, rfl, run_takeDeferred hK, ?_⟩⟩
    refine ⟨_, results_none rfl _ _ _, ⟨_, rfl⟩, .inr ⟨pre.map (·.2), ⟨j, hj⟩, HJ.out.2.putObj _ hJ' (by omega) hK rfl⟩⟩

end Go.Proofs.Ythjkaabbbhfjhaa
