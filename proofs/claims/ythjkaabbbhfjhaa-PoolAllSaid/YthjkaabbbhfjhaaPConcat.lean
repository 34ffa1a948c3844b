/-
  slices.Grow of nothing, and slices.Concat of two rows of ints.
  Conditions: the rows are short.
-/
import Derived.Test.YthjkaabbbhfjhaaPCont
import Derived.Laws.AppendOwnNone
import Derived.Lib.AppendZeros
namespace Go.Proofs.Ythjkaabbbhfjhaa
open Go.RowKit Go.Shelf
attribute [local go_sem] Oper.semAt_some

set_option maxRecDepth 100000 in
set_option maxHeartbeats 4000000 in
theorem grow_c (n : Nat) (hn : n ≤ 100000) (W : World) : Calls Try.prog 36 #[.slice none 0 0, .int .i64 (n : Int)] W fun e w' => OwnsNew W.heap.size 3 1 0 [] e w' ∧ Below W.heap.size W w' := by
  obtain ⟨i0, hi0, hi1, hz0, hz1⟩ : ∃ i, Try.prog.info? 3 = some i ∧ i.zero = some (.int .i64 0) ∧ i.size = 1 ∧ i.bytes = 8 := by
    have h := cloneI_info
    cases hh : Try.prog.info? 3 with
    | none => rw [hh] at h; cases h
    | some i => rw [hh] at h; simp at h; exact ⟨i, rfl, h.1, h.2.1, h.2.2⟩
  by_cases h0 : n = 0
  · subst h0
    go_enter Try.func36, Try.ntmps36
    go_wp2
    go_ret
    exact ⟨⟨_, rfl, World.ownsRow_nil _ _ _ _⟩, Below.refl _ _⟩
  · have hr := fun (w : World) => Lib.run_append_nil_zeros (P := Try.prog) w 22 3 22 3 i0 (.int .i64 0) .i64 .i64 Try.underlying22 Try.underlying3 hi0 hi1 n (by omega) (by omega) (by omega) (by rw [hz1]; omega)
    have hge := grownCap_ge W n 0 3
    have hcm : grownCap W n 0 3 ≤ maxLen := grownCap_le_maxLen W n 0 3 (by unfold maxLen; omega)
    obtain ⟨gc, hgc⟩ : ∃ c, c = grownCap W n 0 3 := ⟨_, rfl⟩
    rw [← hgc] at hge hcm
    have hr := hr W
    rw [← hgc] at hr
    obtain ⟨w1, hw1⟩ : ∃ X : World, X = (W.drew.alloc (.cells (Builtin.zeroCells (Value.int .i64 0).cells n ++ Builtin.zeroCells (Value.int .i64 0).cells (gc - n)) 3)) := ⟨_, rfl⟩
    rw [← hw1] at hr
    have HFIN := Lib.hid (show w1.ownsRow W.heap.size 3 1 (.slice (some ⟨W.heap.size, 0, none⟩) 0 gc) 0 [] ∧ Below W.heap.size W w1 by
      refine ⟨⟨rfl, .inr ⟨W.heap.size, _, _, rfl, Nat.le_refl _, by rw [hw1]; exact heap_alloc_new W.drew _, by omega, hcm, ?_, rfl⟩⟩, by rw [hw1]; exact ((Below.refl W.heap.size W).drew).alloc (Nat.le_refl _) _⟩
      simp only [Array.size_append, size_zeroCells]
      simp [Value.cells]
      omega)
    have hs1 : ∀ wx, (Instr.slice 22 (.slice none 0 0) none (some (.int .i64 0)) none).run Try.prog wx = .ok (.slice none 0 0) wx := fun wx => run_cut70 none 0 0 0 (Nat.le_refl _) wx
    have hs2 : ∀ wx, (Instr.slice 22 (.slice (some ⟨W.heap.size, 0, none⟩) n gc) none (some (.int .i64 0)) none).run Try.prog wx = .ok (.slice (some ⟨W.heap.size, 0, none⟩) 0 gc) wx := fun wx => run_cut70 (some ⟨W.heap.size, 0, none⟩) n gc 0 (Nat.zero_le _) wx
    have hpos : (0 : Int) < (n : Int) := by omega
    have HR := Lib.hid hr
    clear hr hw1 hgc hi1 hz0 hz1 hcm
    go_enter Try.func36, Try.ntmps36
    go_wp2_with (at_builtin; refine Lib.wpList_append_run _ rfl _ _ _ _ rfl _ _ rfl rfl _ _ HR.out ?_)
    go_ret
    exact ⟨⟨_, rfl, HFIN.out.1⟩, HFIN.out.2⟩

theorem vals_below {W W' : World} {v : Value} {s n : Nat} {xs : List Value} (h : ValsAt W v s n xs) (hb : Below W.heap.size W W') : ValsAt W' v s n xs := by
  obtain ⟨h1, p, c, e, h2⟩ := h
  refine ⟨h1, p, c, e, ?_⟩
  rcases h2 with h2 | ⟨a, e2, h2⟩
  · exact .inl h2
  · exact .inr ⟨a, e2, fun j u hj => below_cell hb (h2 j u hj)⟩
/-- append of a row that reads so to one of one's own. -/
theorem wpList_append_vals {P : Program} {w : World} {ops : Array Oper} {rest : List Oper} {o : Oper} {a : Act} {Q : Exit → Act → World → Prop} (hgd : o.guard = none) (s x : Operand) (t : TypeId)
    (ho : o.op = .call { callee := .builtin .append, args := #[s, x], argTypes := #[t, t] })
    (base : Nat) (e : TypeId) (i : TypeInfo) (z : Value) (bytes : Nat) (ht : P.underlying t = some (.slice e)) (hi : P.info? e = some i) (hz : i.zero = some z)
    (hsize : i.size = 1) (hby : i.bytes = bytes) (hzs : z.cells.size = 1)
    (v : Value) (n : Nat) (xs : List Value) (hs : a.eval s = v) (hown : w.ownsRow base e 1 v n xs)
    (vx : Value) (m : Nat) (news : List Value) (hx : a.eval x = vx) (hxo : ValsAt w vx 1 m news) (h1 : ∀ u ∈ news, u.oneCell' = true)
    (h63 : n + m ≤ maxLen) (hbytes : (n + m) * bytes ≤ 140737488355328) (hbase : base ≤ w.heap.size)
    (h : ∀ v' w', w'.ownsRow base e 1 v' (n + m) (xs ++ news) → Keeps (fun q => some q = v.ownBlock) w w' → wpList P ops Q rest (a.put o.dst v') w') : wpList P ops Q (o :: rest) a w := by
  obtain ⟨hlen, p, c, rfl, ⟨rfl, rfl, rfl⟩ | ⟨ad, rfl, hcs⟩⟩ := hxo
  · obtain rfl : news = [] := List.eq_nil_of_length_eq_zero (by omega)
    refine wpList_append_own_none hgd s x t ho base e i 1 ht hi v n xs hs hown hx (h _ _ ?_ (Keeps.refl _ _))
    rw [List.append_nil]
    exact hown
  · exact wpList_append_own w hgd s x t ho base e i z 1 bytes ht hi hz hsize hby hzs (by decide) v n xs hs hown ad m c news hx hlen hcs h1 h63 hbytes hbase fun v' w' h2 h3 _ => h v' w' h2 (Keeps.of_grown h3)

/-- Between two rounds of the appends. -/
def CG (W : World) (n1 n2 : Nat) (xs1 xs2 : List Value) (i : Nat) (v : Value) (w : World) : Prop :=
  ((i = 0 ∧ w.ownsRow W.heap.size 3 1 v 0 []) ∨ (i = 1 ∧ w.ownsRow W.heap.size 3 1 v n1 xs1) ∨ (i = 2 ∧ w.ownsRow W.heap.size 3 1 v (n1 + n2) (xs1 ++ xs2))) ∧ Below W.heap.size W w

set_option maxRecDepth 100000 in
set_option maxHeartbeats 4000000 in
theorem concat_c (g : Nat) (p1 p2 : Option Addr) (n1 n2 c1 c2 : Nat) (xs1 xs2 : List Value) (W : World) (h1 : ValsAt W (.slice p1 n1 c1) 1 n1 xs1) (h2 : ValsAt W (.slice p2 n2 c2) 1 n2 xs2) (hc1 : ∀ u ∈ xs1, u.oneCell' = true) (hc2 : ∀ u ∈ xs2, u.oneCell' = true) (hn1 : n1 ≤ 1000) (hn2 : n2 ≤ 1000)
    (hg0 : W.cell? ⟨g, 0, none⟩ = some (.slice p1 n1 c1)) (hg1 : W.cell? ⟨g, 1, none⟩ = some (.slice p2 n2 c2)) :
    Calls Try.prog 21 #[.slice (some ⟨g, 0, none⟩) 2 2] W fun e w' => OwnsNew W.heap.size 3 1 (n1 + n2) (xs1 ++ xs2) e w' ∧ Below W.heap.size W w' := by
  have HI := Lib.hid (show ∃ i, Try.prog.info? 3 = some i ∧ i.zero = some (.int .i64 0) ∧ i.size = 1 ∧ i.bytes = 8 by
    have h := cloneI_info
    cases hh : Try.prog.info? 3 with
    | none => rw [hh] at h; cases h
    | some i => rw [hh] at h; simp at h; exact ⟨i, rfl, h.1, h.2.1, h.2.2⟩)
  have HV := Lib.hid (And.intro h1 (And.intro h2 (And.intro hc1 hc2)))
  have HGR := Lib.hid (grow_c (n1 + n2) (by omega) W)
  rw [Int.natCast_add] at HGR
  have HG := Lib.hid (And.intro hg0 hg1)
  clear h1 h2 hc1 hc2 hg0 hg1
  go_enter Try.func21, Try.ntmps21
  go_wp2_with fail
  go_loopw [3, 11] (fun sv iv wr => ∃ (i s : Nat), iv = .int .i64 (i : Int) ∧ sv = .int .i64 (s : Int) ∧ wr = W ∧ Hid ((i = 0 ∧ s = 0) ∨ (i = 1 ∧ s = n1) ∨ (i = 2 ∧ s = n1 + n2))) (fun _ iv _ => 2 - (pIntOf iv).toNat)
  case atStart => exact ⟨0, 0, rfl, rfl, rfl, Lib.hid (.inl ⟨rfl, rfl⟩)⟩
  case round =>
    obtain ⟨i, s, rfl, rfl, hW, HS⟩ := hrel
    subst wr
    rcases HS.out with ⟨rfl, rfl⟩ | ⟨rfl, rfl⟩ | ⟨rfl, rfl⟩
    · have hg0 := HG.out.1
      have hge : ¬ ((n1 : Int) < 0) := by omega
      clear HS
      go_wp2
      go_roundw
      case rel => exact ⟨1, n1, by simp, by go_num, trivial, Lib.hid (.inr (.inl ⟨rfl, rfl⟩))⟩
      case measure => simp [pIntOf]
    · have hg1 := HG.out.2
      have hge : ¬ ((s : Int) + (n2 : Int) < 0) := by omega
      clear HS
      go_wp2
      go_roundw
      case rel => exact ⟨2, s + n2, by simp, by go_num, trivial, Lib.hid (.inr (.inr ⟨rfl, rfl⟩))⟩
      case measure => simp [pIntOf]
    · clear HS
      go_wp2_with fail
      refine HGR.out.mono ?_
      rintro e w1 ⟨⟨v, rfl, ho⟩, hb⟩
      have HC := Lib.hid (show CG W n1 n2 xs1 xs2 0 v w1 from ⟨.inl ⟨rfl, ho⟩, hb⟩)
      clear ho hb HGR
      go_wp2_with fail
      go_loopw [6, 27] (fun v iv w => ∃ i : Nat, iv = .int .i64 (i : Int) ∧ Hid (CG W n1 n2 xs1 xs2 i v w)) (fun _ iv _ => 2 - (pIntOf iv).toNat)
      case atStart => exact ⟨0, rfl, HC⟩
      case round =>
        clear HC
        obtain ⟨i, rfl, HC⟩ := hrel
        rcases HC.out with ⟨⟨rfl, ho⟩ | ⟨rfl, ho⟩ | ⟨rfl, ho⟩, hb⟩
        · have hg0 := below_cell hb HG.out.1
          obtain ⟨i0, hi0, hz0, hi1, hby⟩ := HI.out
          have HO := Lib.hid (And.intro ho hb)
          have HVL := Lib.hid (And.intro (vals_below HV.out.1 hb) hb.size)
          clear ho hb HC
          go_wp2_with (at_builtin; refine wpList_append_vals rfl _ _ 22 rfl W.heap.size 3 i0 (.int .i64 0) 8 Try.underlying22 hi0 hz0 hi1 hby rfl _ 0 [] rfl HO.out.1 _ n1 xs1 rfl HVL.out.1 HV.out.2.2.1 (by unfold maxLen; omega) (by omega) HVL.out.2 ?_; intro v' w5 hown' hk5; have X := Lib.hid (And.intro hown' hk5); clear hown' hk5)
          go_roundw
          case rel => exact ⟨1, by simp, Lib.hid ⟨.inr (.inl ⟨rfl, by have h := X.out.1; rw [Nat.zero_add, List.nil_append] at h; exact h⟩), HO.out.2.trans (X.out.2.below HO.out.2.size (fun k e => (HO.out.1.lt k e.symm).1))⟩⟩
          case measure => simp [pIntOf]
        · have hg1 := below_cell hb HG.out.2
          obtain ⟨i0, hi0, hz0, hi1, hby⟩ := HI.out
          have HO := Lib.hid (And.intro ho hb)
          have HVL := Lib.hid (And.intro (vals_below HV.out.2.1 hb) hb.size)
          clear ho hb HC
          go_wp2_with (at_builtin; refine wpList_append_vals rfl _ _ 22 rfl W.heap.size 3 i0 (.int .i64 0) 8 Try.underlying22 hi0 hz0 hi1 hby rfl _ n1 xs1 rfl HO.out.1 _ n2 xs2 rfl HVL.out.1 HV.out.2.2.2 (by unfold maxLen; omega) (by omega) HVL.out.2 ?_; intro v' w5 hown' hk5; have X := Lib.hid (And.intro hown' hk5); clear hown' hk5)
          go_roundw
          case rel => exact ⟨2, by simp, Lib.hid ⟨.inr (.inr ⟨rfl, X.out.1⟩), HO.out.2.trans (X.out.2.below HO.out.2.size (fun k e => (HO.out.1.lt k e.symm).1))⟩⟩
          case measure => simp [pIntOf]
        · have HO := Lib.hid (And.intro ho hb)
          clear ho hb HC
          go_wp2
          go_ret
          exact ⟨⟨_, rfl, HO.out.1⟩, HO.out.2⟩
end Go.Proofs.Ythjkaabbbhfjhaa
