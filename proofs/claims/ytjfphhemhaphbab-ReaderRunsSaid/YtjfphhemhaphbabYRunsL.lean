/-
  Words for ReaderRuns: what Run answers, as readers, a number and an error.
  Conditions: none.
-/
import Derived.Test.YtjfphhemhaphbabYStays
namespace Go.Proofs.Ytjfphhemhaphbab
set_option maxRecDepth 100000
open Go.RowKit Go.Shelf
attribute [local go_sem] Oper.semAt_some

def zS : RdS := ⟨0, [], []⟩
theorem zS_reads (w : World) : Reads zS (.slice none 0 0) (.slice none 0 0) w := ⟨⟨none, 0, rfl, fun h => absurd rfl h⟩, ⟨none, 0, rfl, fun h => absurd rfl h⟩⟩
/-- What Run comes to. -/
def RunQ (s : RdS) (l : List (Int × Bool)) (gs : RdS) (k err : Int) : Prop :=
  (mayB s.now s.ns s.os = false ∧ gs = zS ∧ k = 0 ∧ err = 210) ∨
  (Good s ∧ (∃ i, ∃ h : i < l.length, okTo s (l.take i) ∧ stepE (runS s (l.take i)) l[i].1 l[i].2 ≠ 0 ∧ gs = zS ∧ k = (i : Int) + 1 ∧ err = stepE (runS s (l.take i)) l[i].1 l[i].2)) ∨
  (Good s ∧ okTo s l ∧ gs = runS s l ∧ k = (l.length : Int) ∧ err = 0)
/-- Readers whose rows can be written. -/
def Writes (B : Nat) (gs : RdS) (p1 : Option Addr) (n1 c1 : Nat) (p2 : Option Addr) (n2 c2 : Nat) (w : World) : Prop :=
  gs.ns.length = n1 ∧ gs.os.length = n2 ∧ Reads gs (.slice p1 n1 c1) (.slice p2 n2 c2) w ∧
  ((n1 = 0 ∧ n2 = 0) ∨ (n2 = n1 ∧ n1 ≤ 8 ∧ (∀ x ∈ gs.ns, 0 ≤ x ∧ x ≤ 2147483647) ∧ (∀ x ∈ gs.os, 0 ≤ x ∧ x ≤ 2147483647) ∧ ∃ g h : Nat, B ≤ g ∧ B ≤ h ∧ g ≠ h ∧ p1 = some ⟨g, 0, none⟩ ∧ p2 = some ⟨h, 0, none⟩ ∧ IBlock w g gs.ns ∧ IBlock w h gs.os))
theorem Writes.below {B : Nat} {gs : RdS} {p1 : Option Addr} {n1 c1 : Nat} {p2 : Option Addr} {n2 c2 : Nat} {w w' : World} (h : Writes B gs p1 n1 c1 p2 n2 c2 w) (hb : Below w.heap.size w w') : Writes B gs p1 n1 c1 p2 n2 c2 w' := by
  obtain ⟨h1, h2, h3, h4⟩ := h
  refine ⟨h1, h2, h3.below hb, ?_⟩
  rcases h4 with h4 | ⟨a, b, c, d, g, hh, h5, h6, h7, h8, h9, h10, h11⟩
  · exact .inl h4
  · exact .inr ⟨a, b, c, d, g, hh, h5, h6, h7, h8, h9, h10.below hb, h11.below hb⟩
theorem Good.nowO {s : RdS} (g : Good s) : ∀ x ∈ s.os, 0 ≤ x ∧ x ≤ 2147483647 := fun x hx => by
  obtain ⟨i, hi, rfl⟩ := List.getElem_of_mem hx
  have := g.each i (by have := g.lo; omega)
  unfold oO at this
  rw [getD_lt hi] at this
  have := g.n1
  omega
theorem run_all (s : RdS) (u v lv : Value) (l : List (Int × Bool)) (W : World) (hn : NumsAt W .i64 u s.ns) (ho : NumsAt W .i64 v s.os) (h1 : s.ns.length ≤ 9223372036854775807) (h2 : s.os.length ≤ 9223372036854775807) (hr : ∀ x ∈ s.os, I64 x) (hlv : RgsAt W lv l) (hll : l.length ≤ 1000000000) :
    Calls Try.prog 9 #[.agg #[.int .i64 s.now, u, v], lv] W fun e w' => (∃ gs p1 n1 c1 p2 n2 c2 k err, e = .returned (.tuple #[.agg #[.int .i64 gs.now, .slice p1 n1 c1, .slice p2 n2 c2], .int .i64 k, .int .i64 err]) ∧ RunQ s l gs k err ∧ Writes W.heap.size gs p1 n1 c1 p2 n2 c2 w') ∧ Below W.heap.size W w' := by
  cases hm : mayB s.now s.ns s.os with
  | false =>
    refine (run_no s.now u v lv s.ns s.os W hn ho h1 h2 hr hm).mono ?_
    rintro e w' ⟨rfl, hb⟩
    exact ⟨⟨zS, none, 0, 0, none, 0, 0, 0, 210, rfl, .inl ⟨hm, rfl, rfl, rfl⟩, rfl, rfl, zS_reads _, .inl ⟨rfl, rfl⟩⟩, hb⟩
  | true =>
    have g := (good_iff s).1 hm
    refine (run_yes s u v lv l W hn ho hlv hll g).mono ?_
    rintro e w' ⟨h | h, hb⟩
    · obtain ⟨i, hi, h3, h4, rfl⟩ := h
      exact ⟨⟨zS, none, 0, 0, none, 0, 0, _, _, rfl, .inr (.inl ⟨g, i, hi, h3, h4, rfl, rfl, rfl⟩), rfl, rfl, zS_reads _, .inl ⟨rfl, rfl⟩⟩, hb⟩
    · obtain ⟨h3, gg, hh, h4, h5, h6, rfl, h7, h8⟩ := h
      have g2 := g.run l h3
      exact ⟨⟨runS s l, _, _, _, _, _, _, _, _, rfl, .inr (.inr ⟨g, h3, rfl, rfl, rfl⟩), rfl, rfl, ⟨h7.nums, h8.nums⟩, .inr ⟨g2.lo, g2.l8, (fun x hx => by have := g2.range x hx; omega), g2.nowO, gg, hh, h4, h5, h6, rfl, rfl, h7, h8⟩⟩, hb⟩
/-- The first step that has an error is one. -/
theorem first_one {s : RdS} {l : List (Int × Bool)} : ∀ {i j : Nat} (hi : i < l.length) (hj : j < l.length), okTo s (l.take i) → okTo s (l.take j) → stepE (runS s (l.take i)) l[i].1 l[i].2 ≠ 0 → stepE (runS s (l.take j)) l[j].1 l[j].2 ≠ 0 → i = j := by
  have key : ∀ {i j : Nat} (hi : i < l.length) (_ : j < l.length), i < j → okTo s (l.take j) → stepE (runS s (l.take i)) l[i].1 l[i].2 = 0 := fun {i j} hi _ hij ho => by
    have h := okTo_at (l.take j) s ho i (by simp; omega)
    rw [List.take_take, Nat.min_eq_left (by omega)] at h
    simpa using h
  intro i j hi hj oi oj ei ej
  rcases Nat.lt_trichotomy i j with h | h | h
  · exact absurd (key hi hj h oj) ei
  · exact h
  · exact absurd (key hj hi h oi) ej
theorem all_then {s : RdS} {l : List (Int × Bool)} {i : Nat} (hi : i < l.length) (ho : okTo s l) : stepE (runS s (l.take i)) l[i].1 l[i].2 = 0 := okTo_at l s ho i hi
theorem run_min40 (n k : Nat) (hk : k = min n 40) (wx : World) : (Builtin.min_ #[3, 3] 3 #[.int .i64 (n : Int), .int .i64 40]).run Try.prog wx = .ok (.int .i64 (k : Int)) wx := by
  have : (if (40 : Int) < (n : Int) then (40 : Int) else n) = (k : Int) := by rw [hk]; split <;> omega
  simp [Builtin.min_, Builtin.min2, this]
theorem run_cut40 (p : Option Addr) (n c k : Nat) (h : k ≤ c) (wx : World) :
    (Instr.slice 25 (.slice p n c) none (some (.int .i64 (k : Int))) none).run Try.prog wx = .ok (.slice p k c) wx := by
  rw [run_slice_h wx 25 p n c Try.underlying25 .i64 (k : Int) (by omega) (by omega)]
  have hE : ∃ z, (sizeOf (Try.prog.elem 25)).run Try.prog wx = .ok z wx := ⟨2, by go_simp⟩
  obtain ⟨z, hE⟩ := hE
  rw [hE]
  have : Option.map (fun x : Addr => x.add 0) p = p := by cases p <;> simp [Addr.add_zero']
  simp [sliced, Result.andThen, this]
theorem RgsAt.take {W : World} {p : Option Addr} {n c : Nat} {l : List (Int × Bool)} (h : RgsAt W (.slice p n c) l) (k : Nat) (hk : k = min n 40) : RgsAt W (.slice p k c) (l.take 40) ∧ (l.take 40).length = k := by
  obtain ⟨q, cap, e, hc⟩ := h
  injection e with e1 e2 e3
  subst e1
  have hl : (l.take 40).length = k := by rw [List.length_take, hk, e2]; omega
  refine ⟨⟨p, c, by rw [hl], fun hne => ?_⟩, hl⟩
  obtain ⟨b, off, e, hcs⟩ := hc (by rintro rfl; simp at hne)
  refine ⟨b, off, e, fun i hi => ?_⟩
  rw [List.getElem_take]
  exact hcs i (by rw [List.length_take] at hi; omega)

theorem nums_none {W W' : World} {v : Value} {ns : List Int} (h : NumsAt W .i64 v ns) (h0 : ns.length = 0) : NumsAt W' .i64 v ns := by
  obtain rfl := List.eq_nil_of_length_eq_zero h0
  obtain ⟨p, c, e, _⟩ := h
  exact ⟨p, c, e, fun h => absurd rfl h⟩
theorem box_block {w : World} {z g : Nat} {b : Int} {u v : Value} {ns : List Int} (h : RBox w z b u v) (k : IBlock w g ns) : g ≠ z := fun e => by
  have h1 : w.heap[z]? = _ := h
  have h2 : w.heap[g]? = _ := k
  rw [e, h1] at h2
  simp at h2
theorem Writes.keep {B : Nat} {gs : RdS} {p1 : Option Addr} {n1 c1 : Nat} {p2 : Option Addr} {n2 c2 : Nat} {w w' : World} {z : Nat} {b : Int} {u v : Value} (h : Writes B gs p1 n1 c1 p2 n2 c2 w) (hz : RBox w z b u v) (hk : Keeps (fun q => q = z) w w') : Writes B gs p1 n1 c1 p2 n2 c2 w' := by
  obtain ⟨h1, h2, h3, h4⟩ := h
  rcases h4 with ⟨a, b⟩ | ⟨a, b, c, d, g, hh, h5, h6, h7, rfl, rfl, h10, h11⟩
  · exact ⟨h1, h2, ⟨nums_none h3.1 (by omega), nums_none h3.2 (by omega)⟩, .inl ⟨a, b⟩⟩
  · have k10 := h10.keeps hk (box_block hz h10)
    have k11 := h11.keeps hk (box_block hz h11)
    refine ⟨h1, h2, ⟨nums_keeps h3.1 hk (fun x hx => ?_), nums_keeps h3.2 hk (fun x hx => ?_)⟩, .inr ⟨a, b, c, d, g, hh, h5, h6, h7, rfl, rfl, k10, k11⟩⟩
    · injection hx with hx; rw [← hx]; exact box_block hz h10
    · injection hx with hx; rw [← hx]; exact box_block hz h11
/-- What a step comes to, its readers zero where it has an error. -/
def oneS (s : RdS) (c : Int) (en : Bool) : RdS := if stepE s c en = 0 then stepS s c en else zS
theorem StepQ.one {B : Nat} {s : RdS} {c : Int} {en : Bool} {nw : Int} {p1 : Option Addr} {n1 c1 : Nat} {p2 : Option Addr} {n2 c2 : Nat} {err : Int} {w : World} (h : StepQ B s c en nw p1 n1 c1 p2 n2 c2 err w) (g : Good s) : err = stepE s c en ∧ nw = (oneS s c en).now ∧ n1 = (oneS s c en).ns.length ∧ n2 = (oneS s c en).os.length ∧ Reads (oneS s c en) (.slice p1 n1 c1) (.slice p2 n2 c2) w := by
  unfold oneS
  by_cases he : stepE s c en = 0
  · rw [if_pos he]
    have h0 : err = 0 := by
      by_cases e : err = 0
      · exact e
      · rcases (h.fail e).1 with h | h
        · rw [(good_iff s).2 g] at h; cases h.1
        · exact absurd he h.2.1
    obtain ⟨_, _, h1, h2, h3, h4⟩ := h.ok h0
    exact ⟨h0.trans he.symm, h1, h3, h4, h2⟩
  · rw [if_neg he]
    have h0 : err ≠ 0 := fun e => he (h.ok e).2.1
    obtain ⟨h1, rfl, ⟨rfl, rfl, rfl⟩, ⟨rfl, rfl, rfl⟩⟩ := h.fail h0
    refine ⟨?_, rfl, rfl, rfl, zS_reads _⟩
    rcases h1 with h | h
    · rw [(good_iff s).2 g] at h; cases h.1
    · exact h.2.2
theorem sameB_self (s : RdS) : sameB s s = true := by unfold sameB; simp
theorem oneS_len {s : RdS} (g : Good s) (c : Int) (en : Bool) : (oneS s c en).ns.length ≤ 8 ∧ (oneS s c en).os.length ≤ 8 := by
  unfold oneS
  split
  · have := stepS_len s c en; have := g.l8; have := g.lo; omega
  · exact ⟨by decide, by decide⟩

end Go.Proofs.Ytjfphhemhaphbab
