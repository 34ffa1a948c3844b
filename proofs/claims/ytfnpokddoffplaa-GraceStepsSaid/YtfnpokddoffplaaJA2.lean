/-
  Package reader: rows in memory of their own; what a turn holds, and the steps that it makes.
  Conditions: the ranges of Go's types.
-/
import Derived.Test.YtfnpokddoffplaaJA1
import Derived.Maps.OwnSet
import Derived.Maps.OwnIn
import Derived.Maps.OwnOps
import Derived.Laws.EntriesVeiled
import Derived.Laws.CopyOwn
import Derived.BigRegion
import Derived.Deep.Cut
import Derived.Deep.DeepCutAuto
import Derived.Deep.CutBlock
import Derived.WalkSpells
/-
  Package reader: sections tells the CPUs that are in a section, or seem so, CPU by CPU.
  Conditions: who ranges over them leaves the readers, and their rows, as they are.
-/
namespace Go.Proofs.Ytfnpokddoffplaa
open Go.RowKit Go.Shelf
attribute [local go_sem] Oper.semAt_some

def secs (l : List (Int × Int)) : List (Int × Int) := l.filter fun s => secB s.1 s.2
def Small (k : Nat) (xs : List (Int × Int × Int)) : Prop := ∀ x ∈ xs, 0 ≤ x.1 ∧ x.1 < (k : Int)
theorem secs_len (l : List (Int × Int)) : (secs l).length ≤ l.length := List.length_filter_le _ _
theorem secs_snoc (l : List (Int × Int)) (s : Int × Int) : secs (l ++ [s]) = secs l ++ (if secB s.1 s.2 = true then [s] else []) := by
  unfold secs
  rw [List.filter_append]
  by_cases h : secB s.1 s.2 = true <;> simp [h]
theorem zip_take_succ {ns os : List Int} (hl : os.length = ns.length) {j : Nat} (hj : j < ns.length) : (ns.zip os).take (j + 1) = (ns.zip os).take j ++ [(ns[j], os[j]'(by omega))] := by
  have h : j < (ns.zip os).length := by simp; omega
  rw [List.take_succ_eq_append_getElem h]
  simp

set_option maxRecDepth 100000 in
set_option maxHeartbeats 4000000 in
theorem sections_stops (n : Nat) (hn : 1 ≤ n) (S : Nat → Prop) (lb : Nat) (b : Int) (p q : Option Addr) (c d : Nat) (ns os : List Int) (w : World) (hSl : ¬ S lb) (hlen : os.length = ns.length) (hmax : ns.length ≤ 4611686018427387904)
    (hc : RBox w lb b (.slice p ns.length c) (.slice q ns.length d)) (hl : RowOut S w p ns) (hm : RowOut S w q os) :
    SeqDeep Fence.wide n Try.prog 84 #[.pointer (some ⟨lb, 0, none⟩)] (fun x : Int × Int × Int => #[.int .i64 x.1, .agg #[.int .i64 x.2.1, .int .i64 x.2.2]]) (KeepsCells S)
      (fun xs => xs.map (·.2) = secs (ns.zip os) ∧ Small ns.length xs) (fun xs => (∃ j, xs.map (·.2) = secs ((ns.zip os).take j)) ∧ Small ns.length xs) ns.length w := fun l J Jx W hW hJ hJx hY h0 => by
  refine callsIn_of_wp Try.func84 rfl trivial ?_ rfl
  simp only [Try.ntmps84, List.size_toArray, List.length_cons, List.length_nil, Nat.reduceAdd, Nat.reduceSub, Array.replicate_succ, Array.replicate_zero, List.push_toArray, List.append_toArray, List.nil_append, List.cons_append]
  have hcW1 := (hc.below hW).cells.2.1
  have hcW2 := (hc.below hW).cells.2.2
  have HLW := Lib.hid (And.intro (hl.below hW) (hm.below hW))
  have HSL := Lib.hid hSl
  have HLEN := Lib.hid hlen
  have HJ := Lib.hid (And.intro hJ hJx)
  clear hc hl hm hSl hlen hJ hJx
  gi_wp2
  gi_loopw [9] (fun iv wr => ∃ (j : Nat) (pre : List (Int × Int × Int)), j ≤ ns.length ∧ iv = .int .i64 (j : Int) ∧ (wr.cell? ⟨lb, 1, none⟩ = some (.slice p ns.length c) ∧ wr.cell? ⟨lb, 2, none⟩ = some (.slice q ns.length d) ∧ Hid (RowOut S wr p ns ∧ RowOut S wr q os ∧ W.heap.size ≤ wr.heap.size)) ∧ Hid (J pre wr) ∧ Hid (pre.map (·.2) = secs ((ns.zip os).take j) ∧ Small ns.length pre)) (fun iv _ => ns.length - (intOf iv).toNat)
  case atStart => exact ⟨0, [], Nat.zero_le _, rfl, ⟨hcW1, hcW2, HLW.out.1, HLW.out.2, Nat.le_refl _⟩, h0, by simp [secs], fun x hx => by cases hx⟩
  case round =>
    clear HLW hcW1 hcW2 h0
    obtain ⟨j, pre, hj, rfl, ⟨hc1, hc2, HL⟩, HJp, HE⟩ := hrel
    by_cases hjl : j < ns.length
    · have hne : ns ≠ [] := by intro e; rw [e] at hjl; simp at hjl
      have hne2 : os ≠ [] := by intro e; have := HLEN.out; rw [e] at this; simp at this; omega
      obtain ⟨h1, h2, hsz⟩ := HL.out
      obtain ⟨b1, off1, hp, hSb1, hcs1⟩ := h1 hne
      obtain ⟨b2, off2, hq, hSb2, hcs2⟩ := h2 hne2
      have hx := hcs1 j hjl
      have hy := hcs2 j (by rw [HLEN.out]; exact hjl)
      have hsn := zip_take_succ HLEN.out hjl
      obtain ⟨x, hxe⟩ : ∃ x, x = ns[j] := ⟨_, rfl⟩
      obtain ⟨y, hye⟩ : ∃ y, y = os[j]'(by rw [HLEN.out]; exact hjl) := ⟨_, rfl⟩
      rw [← hxe] at hx hsn
      rw [← hye] at hy hsn
      have HSN := Lib.hid hsn
      have HLN := Lib.hid (fun (wr' : World) (hk : KeepsCells S wr wr') (hz : wr.heap.size ≤ wr'.heap.size) => (show RowOut S wr' p ns ∧ RowOut S wr' q os ∧ W.heap.size ≤ wr'.heap.size from ⟨h1.keeps hk, h2.keeps hk, Nat.le_trans hsz hz⟩))
      clear hcs1 hcs2 hne hne2 hxe hye hsn h1 h2 hsz
      subst hp
      subst hq
      have hj0 : (0 : Int) ≤ (j : Int) := by omega
      have hjl' : (j : Int) < (ns.length : Int) := by omega
      have hb1 := World.block_lt_of_cell? wr _ hx
      have hb2 := World.block_lt_of_cell? wr _ hy
      have hbl := World.block_lt_of_cell? wr _ hc1
      have HN := Lib.hid (fun w => run_neq_sec x y w)
      cases hs : secB x y with
      | false =>
        rw [hs] at HN
        have HE2 := Lib.hid (show pre.map (·.2) = secs ((ns.zip os).take (j + 1)) ∧ Small ns.length pre by
          rw [HSN.out, secs_snoc, if_neg (by rw [hs]; exact Bool.false_ne_true), List.append_nil]; exact HE.out)
        have HJ2 := Lib.hid (HJ.out.1.alloc (.cells #[.int .i64 x, .int .i64 y] 107) HJp.out)
        have hnq := HN.out
        clear HE HJp HSN hs HN hY
        gi_wp2
        refine ⟨fun f h => (by cases h), ?_⟩
        gi_wp2
        go_roundw
        case rel => exact ⟨j + 1, pre, by omega, rfl, ⟨below_cell (below1 wr _) hc1, below_cell (below1 wr _) hc2, HLN.out _ (fun b o v _ h => below_cell (below1 wr _) h) (by simp)⟩, HJ2, HE2⟩
        case measure => first | omega | (simp [intOf]; omega)
      | true =>
        rw [hs] at HN
        have HE2 := Lib.hid (show (pre ++ [((j : Int), x, y)]).map (·.2) = secs ((ns.zip os).take (j + 1)) ∧ Small ns.length (pre ++ [((j : Int), x, y)]) by
          rw [HSN.out, secs_snoc, if_pos hs, List.map_append, HE.out.1]
          exact ⟨rfl, fun z hz => by
            rcases List.mem_append.1 hz with hz | hz
            · exact HE.out.2 z hz
            · rw [List.mem_singleton.1 hz]; exact ⟨hj0, hjl'⟩⟩)
        have hlp : pre.length < ns.length := by
          have h1 := congrArg List.length HE.out.1
          have h2 := secs_len ((ns.zip os).take j)
          have h3 : ((ns.zip os).take j).length ≤ j := List.length_take_le _ _
          simp only [List.length_map] at h1
          omega
        obtain ⟨w1, hw1⟩ : ∃ X : World, X = wr.alloc (.cells #[.int .i64 x, .int .i64 y] 107) := ⟨_, rfl⟩
        have hb1' : Below wr.heap.size wr w1 := by rw [hw1]; exact below1 _ _
        have hJ1 := HJ.out.1.alloc (.cells #[.int .i64 x, .int .i64 y] 107) HJp.out
        rw [← hw1] at hJ1
        have hs0 : w1.cell? ⟨wr.heap.size, 0, none⟩ = some (.int .i64 x) := by rw [hw1]; simp
        have hs1 : w1.cell? ⟨wr.heap.size, 1, none⟩ = some (.int .i64 y) := by rw [hw1]; simp
        have hk1 : KeepsCells S wr w1 := fun b o v _ h => below_cell hb1' h
        have hcc1 := below_cell hb1' hc1
        have hcc2 := below_cell hb1' hc2
        have HZ1 := Lib.hid (show wr.heap.size ≤ w1.heap.size ∧ W.heap.size ≤ wr.heap.size from ⟨hb1'.size, HL.out.2.2⟩)
        have HK1 := Lib.hid hk1
        obtain ⟨fn, tmps, assign, body, hy2, hR⟩ := hY pre ((j : Int), x, y) w1 hJ1 hlp ⟨⟨j + 1, HE2.out.1⟩, HE2.out.2⟩
        dsimp only at hy2
        rw [hw1] at hy2 hR
        have hnq := HN.out
        clear HE HJp HSN hs HN hY hb1' hJ1 hk1
        rw [hw1] at HK1 HZ1 hcc1 hcc2
        clear hw1 hs0 hs1
        gi_wp2
        refine hR.mono ?_
        rintro e W3 (⟨rfl, hJ3, hk3, hf3⟩ | ⟨rfl, hJx3, -⟩)
        · have hc31 := hk3 _ _ _ HSL.out hcc1
          have hc32 := hk3 _ _ _ HSL.out hcc2
          have HL3 := Lib.hid (HLN.out W3 (HK1.out.trans hk3) (Nat.le_trans HZ1.out.1 hf3.size))
          have HJ3 := Lib.hid hJ3
          clear hJ3 hk3 hf3 hR
          gi_wp2
          go_roundw
          case rel => exact ⟨j + 1, _, by omega, rfl, ⟨hc31, hc32, HL3⟩, HJ3, HE2⟩
          case measure => first | omega | (simp [intOf]; omega)
        · have HJX := Lib.hid (show (∃ pre', ((∃ j, List.map (·.2) pre' = secs ((ns.zip os).take j)) ∧ Small ns.length pre') ∧ Jx pre' W3) from ⟨_, ⟨⟨j + 1, HE2.out.1⟩, HE2.out.2⟩, hJx3⟩)
          clear hJx3 hR
          gi_wp2
          refine bodyPost_ret (results_none rfl _ _ _) rfl ?_
          exact ⟨⟨_, rfl⟩, .inr HJX.out⟩
    · obtain rfl : j = ns.length := by omega
      have HF := Lib.hid (show ∃ xs, (List.map (·.2) xs = secs (ns.zip os) ∧ Small ns.length xs) ∧ J xs wr from ⟨pre, ⟨by
        have h := HE.out.1
        rwa [List.take_of_length_le (by simp; omega)] at h, HE.out.2⟩, HJp.out⟩)
      clear HE HJp hjl hj
      gi_wp2
      go_end0
      exact ⟨⟨_, rfl⟩, .inl HF.out⟩

end Go.Proofs.Ytfnpokddoffplaa
/-
  Package reader: the map of the steps that are met; and which readers may be, in mathematics.
  Conditions: none.
-/
namespace Go.Proofs.Ytfnpokddoffplaa
set_option maxRecDepth 100000
open Go.RowKit Go.Shelf Go.Maps

def I64 (x : Int) : Prop := -9223372036854775808 ≤ x ∧ x ≤ 9223372036854775807
theorem wfi {x : Int} (h : I64 x) : (Lit.int .i64 x).wf = true := by unfold I64 at h; simp [Lit.wf, IntKind.min, IntKind.max, IntKind.signed, IntKind.bits]; omega
theorem intKeyed : Keyed Try.prog 3 := int_keyed Try.underlying3
/-- The map that has just these keys. -/
def MapHas (W : World) (mb : Nat) (ks : List Int) : Prop := ∃ D : DataW Unit, W.ownsMap Try.prog 3 (plainElem Try.prog 3) mb ks.length D ∧ ∀ y : Int, Maps.has D (.int .i64 y) = decide (y ∈ ks)
theorem MapHas.new (W : World) : MapHas (W.alloc (.map #[] 0)) W.heap.size [] := ⟨.map [], World.ownsMap_made W _ _ _, fun y => by simp [Maps.has_eq]⟩
theorem MapHas.kept {W W' : World} {row : Option Nat} {mb : Nat} {ws : List Int} (h : MapHas W mb ws) (hg : W.grownBy W' row) (hne : some mb ≠ row) : MapHas W' mb ws := by
  obtain ⟨D, ho, hD⟩ := h
  exact ⟨D, ho.kept hg hne, hD⟩
theorem MapHas.lt {W : World} {mb : Nat} {ws : List Int} (h : MapHas W mb ws) : mb < W.heap.size := by
  obtain ⟨D, ho, _⟩ := h
  exact ho.lt
theorem MapHas.block {W : World} {mb : Nat} {ws : List Int} (h : MapHas W mb ws) : ∃ es ck, W.heap[mb]? = some (.map es ck) := by
  obtain ⟨D, ⟨es, ck, h1, _⟩, _⟩ := h
  exact ⟨es, ck, h1⟩
theorem MapHas.look {W : World} {mb : Nat} {ws : List Int} (h : MapHas W mb ws) (x : Int) (hx : I64 x) : ∃ c : Int, (Instr.lookup 61 (.map (some mb)) (.int .i64 x) true).run Try.prog W = .ok (.tuple #[.int .i64 c, .bool (decide (x ∈ ws))]) W := by
  obtain ⟨D, ho, hD⟩ := h
  obtain ⟨v, ps, hrun, hv⟩ := ho.look_ok intKeyed Try.underlying61 (z := .int .i64 0) (by kernel_rfl) (plainElem_int Try.underlying3 (by decide)) (keyOf_int_mk Try.underlying3 (wfi hx))
  obtain ⟨c, rfl, hc, hwc⟩ := plainElem_int_inv Try.underlying3 hv
  rw [hD] at hrun
  exact ⟨c, hrun⟩
theorem MapHas.one {W : World} {mb : Nat} {ws : List Int} (h : MapHas W mb ws) (x y : Int) (hx : I64 x) (hy : I64 y) (hn : ws.length < 1000000000) :
    ∃ W', (Instr.mapUpdate 61 (.map (some mb)) (.int .i64 x) (.int .i64 y)).run Try.prog W = .ok () W' ∧ MapHas W' mb (ws ++ [x]) ∧ W.grownBy W' (some mb) := by
  obtain ⟨D, ho, hD⟩ := h
  have hmap : IsMap D := ho.isMap
  have hkey := keyOf_int_mk (P := Try.prog) (k := 3) Try.underlying3 (wfi hx)
  obtain ⟨W', hrun, ho', hg⟩ := ho.update intKeyed Try.underlying61 (by unfold maxLen; omega) hkey (plainElem_int Try.underlying3 (wfi hy))
  refine ⟨W', hrun, ⟨_, by rw [List.length_append]; exact ho', fun z => ?_⟩, hg⟩
  by_cases hz : z = x
  · subst hz
    rw [has_put_same hmap (intKeyed.key hkey)]
    simp
  · rw [has_put_other (by intro e; injection e with _ e; exact hz e), hD]
    simp [hz]

def okOne (now : Int) (s : Int × Int) : Bool := decide (1 ≤ s.1) && decide (s.1 ≤ 8) && decide (1 ≤ s.2) && decide (s.2 ≤ now)
/-- May those be that are in a section? -/
def okS (now : Int) (l : List (Int × Int)) : Bool := l.all (okOne now) && decide ((l.map (·.2)).Nodup)
theorem okS_snoc (now : Int) (l : List (Int × Int)) (s : Int × Int) : okS now (l ++ [s]) = (okS now l && (okOne now s && decide (s.2 ∉ l.map (·.2)))) := by
  unfold okS
  rw [List.all_append, List.map_append, List.map_singleton]
  simp only [List.all_cons, List.all_nil, Bool.and_true]
  have e : decide ((l.map (·.2) ++ [s.2]).Nodup) = (decide ((l.map (·.2)).Nodup) && decide (s.2 ∉ l.map (·.2))) := by
    rw [Bool.eq_iff_iff]
    simp only [decide_eq_true_eq, Bool.and_eq_true, List.nodup_append]
    constructor
    · rintro ⟨h1, _, h2⟩
      exact ⟨h1, fun h => h2 _ h s.2 (by simp) rfl⟩
    · rintro ⟨h1, h2⟩
      exact ⟨h1, by simp, fun a ha b hb e => by rw [List.mem_singleton.1 hb] at e; exact h2 (e ▸ ha)⟩
  rw [e]
  cases l.all (okOne now) <;> cases okOne now s <;> cases decide ((l.map (·.2)).Nodup) <;> simp
theorem okS_pre (now : Int) : ∀ (m l : List (Int × Int)), okS now (l ++ m) = true → okS now l = true
  | [], l, h => by simpa using h
  | s :: m, l, h => by
    have h2 := okS_pre now m (l ++ [s]) (by simpa using h)
    rw [okS_snoc, Bool.and_eq_true] at h2
    exact h2.1
def mayB (now : Int) (ns os : List Int) : Bool := mayCpus ns.length && (decide (os.length = ns.length) && (decide (0 ≤ now) && (decide (now ≤ 2147483647) && okS now (secs (ns.zip os)))))

end Go.Proofs.Ytfnpokddoffplaa
/-
  Package reader: which readers may be.
  Conditions: the ranges of Go's types.
-/
namespace Go.Proofs.Ytfnpokddoffplaa
set_option maxRecDepth 100000
open Go.RowKit Go.Shelf Go.Maps
attribute [local go_sem] Oper.semAt_some

def wM (W : World) (now : Int) (u v : Value) : World := (((W.alloc (.cells #[.int .i64 now, u, v] 45)).alloc (.map #[] 0)).alloc (.cells #[.map (some (W.heap.size + 1))] 61)).alloc (.cells #[.bool true] 4)
theorem wM_facts (W : World) (now : Int) (u v : Value) : RBox (wM W now u v) W.heap.size now u v ∧ MapHas (wM W now u v) (W.heap.size + 1) [] ∧ Boxed (wM W now u v) (W.heap.size + 1 + 1) 61 (.map (some (W.heap.size + 1))) ∧ Boxed (wM W now u v) (W.heap.size + 1 + 1 + 1) 4 (.bool true) ∧ Below W.heap.size W (wM W now u v) ∧ (wM W now u v).heap.size = W.heap.size + 4 := by
  refine ⟨((((RBox.new W now u v).below (below1 _ _)).below (below1 _ _)).below (below1 _ _)), ?_, ?_, ?_, below4 _ _ _ _ _, by unfold wM; simp⟩
  · have := MapHas.new (W.alloc (.cells #[.int .i64 now, u, v] 45))
    rw [World.size_alloc] at this
    exact (this.kept (World.grownBy_alloc _ _ none) (by simp)).kept (World.grownBy_alloc _ _ none) (by simp)
  · have := (Boxed.new ((W.alloc (.cells #[.int .i64 now, u, v] 45)).alloc (.map #[] 0)) 61 (.map (some (W.heap.size + 1)))).alloc (.cells #[.bool true] 4)
    simpa [wM] using this
  · have := Boxed.new (((W.alloc (.cells #[.int .i64 now, u, v] 45)).alloc (.map #[] 0)).alloc (.cells #[.map (some (W.heap.size + 1))] 61)) 4 (.bool true)
    simpa [wM] using this

set_option maxHeartbeats 4000000 in
theorem may_no (now : Int) (p q : Option Addr) (k m c d : Nat) (W : World) (h : mayCpus k = false ∨ m ≠ k ∨ now < 0 ∨ 2147483647 < now) (hk : k ≤ 9223372036854775807) (_ : m ≤ 9223372036854775807) :
    Calls Try.prog 59 #[.agg #[.int .i64 now, .slice p k c, .slice q m d]] W fun e w' => e = .returned (.bool false) ∧ Below W.heap.size W w' := by
  have hc : mayCpus k = false ∨ (mayCpus k = true ∧ m ≠ k) ∨ (mayCpus k = true ∧ m = k ∧ now < 0) ∨ (mayCpus k = true ∧ m = k ∧ 0 ≤ now ∧ 2147483647 < now) := by
    cases hh : mayCpus k with
    | false => exact .inl rfl
    | true =>
      rw [hh] at h
      refine .inr ?_
      by_cases h1 : m = k
      · by_cases h2 : now < 0
        · exact .inr (.inl ⟨rfl, h1, h2⟩)
        · refine .inr (.inr ⟨rfl, h1, by omega, ?_⟩)
          rcases h with h | h | h | h
          · cases h
          · exact absurd h1 h
          · omega
          · exact h
      · exact .inl ⟨rfl, h1⟩
  clear h
  have HC := Lib.hid (fun (W : World) => mayBe_c (k : Int) W)
  rcases hc with h1 | ⟨h1, h2⟩ | ⟨h1, h2, h3⟩ | ⟨h1, h2, h3, h4⟩
  all_goals
    rw [h1] at HC
    clear h1
    try subst h2
    try (have h2' : ((m : Int) != (k : Int)) = true := by rw [bne_iff_ne]; omega)
    try clear h2
    go_enter Try.func59, Try.ntmps59
    go_wp2_with fail
    refine (wpIn_wide (n := 9)).1 (wpIn_scope ((wpIn_wide (n := 9)).2 ?_))
    go_wp2_with fail
    refine (HC.out _).mono ?_
    rintro e w1 ⟨rfl, rfl⟩
    go_wp2
    simp only [Exit.noGoto]
    go_ret
    exact ⟨rfl, below1 _ _⟩

theorem MapHas.grown_keeps {W W' : World} {m : Nat} {S : Nat → Prop} (hg : W.grownBy W' (some m)) (hm : S m) : KeepsCells S W W' := fun b o v hb h => by
  have hk : W'.heap[b]? = W.heap[b]? := hg.block b (World.block_lt_of_cell? W _ h) (fun e => by injection e with e; exact hb (e ▸ hm))
  simp only [World.cell?] at h ⊢
  rw [hk]
  exact h
/-- Between two rounds. -/
def MI (W : World) (now : Int) (u v : Value) (pre : List (Int × Int × Int)) (W' : World) : Prop :=
  RBox W' W.heap.size now u v ∧ MapHas W' (W.heap.size + 1) (pre.map (·.2.2)) ∧ Boxed W' (W.heap.size + 1 + 1) 61 (.map (some (W.heap.size + 1))) ∧ Boxed W' (W.heap.size + 1 + 1 + 1) 4 (.bool true) ∧ Below W.heap.size W W' ∧ okS now (pre.map (·.2)) = true
/-- Where a round has left. -/
def MX (W : World) (now : Int) (c : Code) (pre : List (Int × Int × Int)) (W' : World) : Prop :=
  c = .exit 0 ∧ Boxed W' (W.heap.size + 1 + 1 + 1) 4 (.bool false) ∧ Below W.heap.size W W' ∧ okS now (pre.map (·.2)) = false

theorem heap_own {X Y : World} {row : Option Nat} {k : Nat} {cs : Array Value} {T : TypeId} {f : Nat × Nat} (h : X.heap[k]? = some (.cells cs T f)) (hg : X.grownBy Y row) (hr : ∀ r, row = some r → ∃ o : Obj, X.heap[r]? = some o ∧ o.isCells = false) : Y.heap[k]? = some (.cells cs T f) :=
  (hg.block k (Array.getElem?_eq_some_iff.1 h).1 (fun e => by obtain ⟨o, ho, hc⟩ := hr k e.symm; rw [h] at ho; cases ho; cases hc)).trans h
theorem mi_own (W : World) (now : Int) (u v : Value) (z : Nat) (hz : W.heap.size + 5 ≤ z) : OwnFrom z (MI W now u v) := by
  rintro s X Y row ⟨h1, h2, h3, h4, h5, h6⟩ hg hr
  have hr' := fun r e => (hr r e).2
  exact ⟨heap_own h1 hg hr', h2.kept hg (fun e => by have := (hr _ e.symm).1; omega), heap_own h3 hg hr', heap_own h4 hg hr', h5.grown hg h5.size (fun k e => by have := (hr k e).1; omega), h6⟩
theorem mx_own (W : World) (now : Int) (z : Nat) (hz : W.heap.size + 5 ≤ z) (cc : Code) : OwnFrom z (MX W now cc) := by
  rintro s X Y row ⟨h1, h2, h3, h4⟩ hg hr
  have hr' := fun r e => (hr r e).2
  exact ⟨h1, heap_own h2 hg hr', h3.grown hg h3.size (fun k e => by have := (hr k e).1; omega), h4⟩

set_option maxHeartbeats 8000000 in
theorem may_yes (now : Int) (p q : Option Addr) (c d : Nat) (ns os : List Int) (W : World) (h1 : mayCpus ns.length = true) (h2 : os.length = ns.length) (h3 : 0 ≤ now) (h4 : now ≤ 2147483647)
    (hn : RowOut (fun _ => False) W p ns) (ho : RowOut (fun _ => False) W q os) (hr : ∀ x ∈ os, I64 x) :
    Calls Try.prog 59 #[.agg #[.int .i64 now, .slice p ns.length c, .slice q ns.length d]] W fun e w' => e = .returned (.bool (okS now (secs (ns.zip os)))) ∧ Below W.heap.size W w' := by
  have HF := Lib.hid (wM_facts W now (.slice p ns.length c) (.slice q ns.length d))
  obtain ⟨w0, hw0⟩ : ∃ X, X = wM W now (.slice p ns.length c) (.slice q ns.length d) := ⟨_, rfl⟩
  rw [← hw0] at HF
  unfold wM at hw0
  have hk8 : 1 ≤ ns.length ∧ ns.length ≤ 8 := by unfold mayCpus at h1; simp only [Bool.and_eq_true, decide_eq_true_eq] at h1; omega
  have HC := Lib.hid (fun (W : World) => mayBe_c (ns.length : Int) W)
  rw [h1] at HC
  have hl : ∀ {p : Option Addr} {fs : List Int}, RowOut (fun _ => False) W p fs → RowOut (fun k => k = W.heap.size + 1) w0 p fs := fun {p fs} hl hne => by
    obtain ⟨bb, off, e, -, hcs⟩ := hl hne
    obtain ⟨i0, hi0⟩ : ∃ i : Nat, i < fs.length := ⟨0, by cases fs with | nil => exact absurd rfl hne | cons _ _ => simp⟩
    have hlt := World.block_lt_of_cell? W _ (hcs i0 hi0)
    exact ⟨bb, off, e, (by simp only at hlt; omega), fun i hi => below_cell HF.out.2.2.2.2.1 (hcs i hi)⟩
  have HL := Lib.hid (And.intro (hl hn) (hl ho))
  have HR := Lib.hid hr
  have HLEN := Lib.hid h2
  obtain ⟨c0, c1, c2⟩ := HF.out.1.cells
  have hmm := @run_makeMap Try.prog
  have hq : ((ns.length : Int) != (ns.length : Int)) = false := by simp
  have hd1 : decide (now < 0) = false := by simp; omega
  have hd2 : decide (2147483647 < now) = false := by simp; omega
  clear h1 h2 hn ho hr hl
  refine (callsIn_wide (n := 9)).1 ?_
  refine callsIn_of_wp_marks Try.func59 rfl trivial ?_ rfl
  simp only [Try.ntmps59, List.size_toArray, List.length_cons, List.length_nil, Nat.reduceAdd, Nat.reduceSub, Array.replicate_succ, Array.replicate_zero, List.push_toArray, List.append_toArray, List.nil_append, List.cons_append]
  gi_wp2_with fail
  refine wpIn_scope ?_
  gi_wp2_with fail
  refine ⟨trivial, (callsIn_wide.2 (HC.out _)).mono ?_⟩
  rintro e w1 ⟨rfl, rfl⟩
  gi_wp2
  refine wpIn_label ?_
  rw [← hw0]
  clear hw0 hq hd1 hd2 hmm HC
  gi_wp2_with fail
  refine ⟨trivial, (callsIn_wide.2 (sections_c now _ _ w0)).mono ?_⟩
  rintro e w2 ⟨rfl, hw2⟩
  have hb12 : Below w0.heap.size w0 w2 := by rw [hw2]; exact below1 _ _
  have HPB := Lib.hid (show RBox w2 w0.heap.size now (.slice p ns.length c) (.slice q ns.length d) by rw [hw2]; exact RBox.new _ _ _ _)
  have HI0 := Lib.hid (show MI W now (.slice p ns.length c) (.slice q ns.length d) [] w2 from ⟨HF.out.1.below hb12, HF.out.2.1.kept (row := none) (by rw [hw2]; exact World.grownBy_alloc _ _ none) (by simp), (hb12.block _ HF.out.2.2.1.lt).trans HF.out.2.2.1, (hb12.block _ HF.out.2.2.2.1.lt).trans HF.out.2.2.2.1, below_then HF.out.2.2.2.2.1 HF.out.2.2.2.2.1.size hb12, rfl⟩)
  have HL2 := Lib.hid (And.intro (HL.out.1.below hb12) (HL.out.2.below hb12))
  have hz0 : w0.heap.size = W.heap.size + 4 := HF.out.2.2.2.2.2
  have hz2 : w2.heap.size = W.heap.size + 5 := by rw [hw2, World.size_alloc, hz0]
  have HZ0 := Lib.hid (And.intro hz0 hz2)
  clear hw2 hb12 c0 c1 c2 HL hz0 hz2
  gi_wp2
  have hMI := mi_own W now (.slice p ns.length c) (.slice q ns.length d) w2.heap.size (by have := HZ0.out; omega)
  refine wpIn_rangeDeep rfl (by omega) (gf := 84) (lb := #[.pointer (some ⟨w0.heap.size, 0, none⟩)]) rfl trivial (enters_of Try.func84 (by kernel_rfl) rfl)
    (sections_stops 8 (by omega) (fun k => k = W.heap.size + 1) w0.heap.size now p q c d ns os w2 (by have := HZ0.out; omega) HLEN.out (by omega) HPB.out HL2.out.1 HL2.out.2) (fun h k => h.trans k) (fun W l o o' _ => KeepsCells.turn _ W l o o') (Below.refl _ _) (fun _ => rfl)
    (MI W now (.slice p ns.length c) (.slice q ns.length d)) (MX W now) hMI (mx_own W now _ (by have := HZ0.out; omega)) HI0.out
    (fun x a' X => ∃ k, a' = { tmps := #[.agg #[.int .i64 now, .slice p ns.length c, .slice q ns.length d], .pointer (some ⟨W.heap.size, 0, none⟩), .bool false, .int .i64 (ns.length : Int), .pointer (some ⟨W.heap.size + 1 + 1, 0, none⟩), .pointer (some ⟨W.heap.size + 1 + 1 + 1, 0, none⟩), .int .i64 x.1, .pointer (some ⟨k, 0, none⟩), undef, undef, .pointer (some ⟨W.heap.size, 1, none⟩), .slice p ns.length c, .int .i64 (ns.length : Int), .int .i64 (ns.length : Int), .bool true, .bool false, .bool false, .pointer (some ⟨W.heap.size, 2, none⟩), .slice q ns.length d, .int .i64 (ns.length : Int), .int .i64 (ns.length : Int), .bool false, .bool false, .bool false, .pointer (some ⟨W.heap.size, 0, none⟩), .int .i64 now, .bool false, .bool false, .bool false, .pointer (some ⟨W.heap.size, 0, none⟩), .int .i64 now, .bool false, .bool false, .map (some (W.heap.size + 1)), .agg #[.int .i64 now, .slice p ns.length c, .slice q ns.length d], .func (.func 84) #[] #[.pointer (some ⟨w0.heap.size, 0, none⟩)], .int .i64 x.1, .agg #[.int .i64 x.2.1, .int .i64 x.2.2], undef, undef, undef, undef, undef, undef, undef, undef, undef, undef, undef, undef, undef, undef, undef, undef, undef, undef, undef, undef, undef, undef, undef, undef, undef, undef, undef, undef], defers := [] } ∧ X.heap[k]? = some (.cells #[.int .i64 x.2.1, .int .i64 x.2.2] 107 (0, 0)))
    ?hAx ?assign ?body ?done ?stop
  case hAx =>
    rintro x a' s X Y row ⟨k, ha, hc⟩ hg hr
    exact ⟨k, ha, heap_own hc hg (fun r e => (hr r e).2)⟩
  case assign =>
    rintro l' pre x X K hi hK
    have hi2 := hMI.alloc (.cells #[.int .i64 x.2.1, .int .i64 x.2.2] 107) hi
    clear hi
    gi_wp2
    exact hK _ _ (KeepsFrom.of_grownBy (World.grownBy_alloc _ _ none) (fun j e => by cases e)) (fun b o v _ h => below_cell (below1 _ _) h) hi2 ⟨_, rfl, World.alloc_heap_new _ _⟩
  case body =>
    rintro l' pre x a' X hl' _ hI ⟨k, rfl, hck⟩ hlen ⟨⟨j, hj⟩, hsm⟩
    obtain ⟨hi1, hi2, hi3, hi4, hi5, hi6⟩ := hI
    have hmem : x.2 ∈ secs ((ns.zip os).take j) := by rw [← hj]; simp
    have hox : I64 x.2.2 := HR.out _ (List.of_mem_zip (List.mem_of_mem_take (List.mem_filter.1 hmem).1)).2
    have hcx : I64 x.1 := by have := hsm x (by simp); unfold I64; omega
    obtain ⟨cc, hlook⟩ := hi2.look x.2.2 hox
    obtain ⟨X2, hupd, hm2, hg2⟩ := hi2.one x.2.2 x.1 hox hcx (by rw [List.length_map]; omega)
    obtain ⟨xc, xn, xo⟩ := x
    simp only at hlook hupd hm2 hck
    have hk0 : X.cell? ⟨k, 0, none⟩ = some (.int .i64 xn) := by simp [World.cell?, hck]
    have hk1 : X.cell? ⟨k, 1, none⟩ = some (.int .i64 xo) := by simp [World.cell?, hck]
    obtain ⟨d0, d1, d2⟩ := hi1.cells
    have e3 := hi3.cell
    have e4 := hi4.cell
    have f4 := hi4.frozen
    have HSN := Lib.hid (okS_snoc now (pre.map (·.2)) (xn, xo))
    have HEQ := Lib.hid (show (pre ++ [(xc, xn, xo)]).map (·.2) = pre.map (·.2) ++ [(xn, xo)] by simp)
    have HI5 := Lib.hid (show Below W.heap.size W (X.setCell ⟨W.heap.size + 1 + 1 + 1, 0, none⟩ (.bool false)) ∧ Boxed (X.setCell ⟨W.heap.size + 1 + 1 + 1, 0, none⟩ (.bool false)) (W.heap.size + 1 + 1 + 1) 4 (.bool false) from ⟨hi5.setCell (p := ⟨W.heap.size + 1 + 1 + 1, 0, none⟩) (by show W.heap.size ≤ W.heap.size + 1 + 1 + 1; omega) _, hi4.set _⟩)
    have HI2 := Lib.hid (show KeepsFrom w2.heap.size X X2 ∧ KeepsCells (fun k => k = W.heap.size + 1) X X2 ∧ (okS now ((pre ++ [(xc, xn, xo)]).map (·.2)) = true → MI W now (.slice p ns.length c) (.slice q ns.length d) (pre ++ [(xc, xn, xo)]) X2) from ⟨KeepsFrom.of_grownBy hg2 (fun j e => by cases e; have := HZ0.out; omega), MapHas.grown_keeps hg2 rfl, fun hok =>
      ⟨(hg2.block _ hi1.lt (by intro e; injection e with e; omega)).trans hi1, by simpa using hm2, (hg2.block _ hi3.lt (by intro e; injection e with e; omega)).trans hi3, (hg2.block _ hi4.lt (by intro e; injection e with e; omega)).trans hi4, hi5.grown hg2 hi5.size (fun k e => by cases e; omega), hok⟩⟩)
    have HI6 := Lib.hid hi6
    clear hi1 hi2 hi3 hi4 hi5 hi6 hm2 hg2 hck hmem hj hsm hox hcx hlen hMI HI0 HPB HL2
    by_cases hm : xo ∈ pre.map (·.2.2)
    · have HM := Lib.hid hm
      rw [decide_eq_true hm] at hlook
      clear hm
      gi_wp2
      refine ⟨(KeepsOthers.setCell _ _ _).from _, rfl, HI5.out.2, HI5.out.1, ?_⟩
      rw [HEQ.out, HSN.out, HI6.out, Bool.true_and, decide_eq_false (fun h => h (by simpa using HM.out)), Bool.and_false]
    · have HM := Lib.hid hm
      rw [decide_eq_false hm] at hlook
      clear hm
      by_cases c1 : xn < 1
      · gi_wp2
        refine ⟨(KeepsOthers.setCell _ _ _).from _, rfl, HI5.out.2, HI5.out.1, ?_⟩
        rw [HEQ.out, HSN.out, show okOne now (xn, xo) = false by unfold okOne; rw [decide_eq_false (show ¬ 1 ≤ (xn, xo).1 by simp only; omega)]; rfl]
        simp
      · by_cases c2 : 8 < xn
        · gi_wp2
          refine ⟨(KeepsOthers.setCell _ _ _).from _, rfl, HI5.out.2, HI5.out.1, ?_⟩
          rw [HEQ.out, HSN.out, show okOne now (xn, xo) = false by unfold okOne; rw [decide_eq_false (show ¬ (xn, xo).1 ≤ 8 by simp only; omega)]; simp]
          simp
        · by_cases c3 : xo < 1
          · gi_wp2
            refine ⟨(KeepsOthers.setCell _ _ _).from _, rfl, HI5.out.2, HI5.out.1, ?_⟩
            rw [HEQ.out, HSN.out, show okOne now (xn, xo) = false by unfold okOne; rw [decide_eq_false (show ¬ 1 ≤ (xn, xo).2 by simp only; omega)]; simp]
            simp
          · by_cases c4 : now < xo
            · gi_wp2
              refine ⟨(KeepsOthers.setCell _ _ _).from _, rfl, HI5.out.2, HI5.out.1, ?_⟩
              rw [HEQ.out, HSN.out, show okOne now (xn, xo) = false by unfold okOne; rw [decide_eq_false (show ¬ (xn, xo).2 ≤ now by simp only; omega)]; simp]
              simp
            · gi_wp2
              refine ⟨HI2.out.1, HI2.out.2.1, HI2.out.2.2 ?_⟩
              rw [HEQ.out, HSN.out, HI6.out, show okOne now (xn, xo) = true by unfold okOne; simp only [Bool.and_eq_true, decide_eq_true_eq]; omega, decide_eq_true (show (xn, xo).2 ∉ (pre.map (·.2)).map (·.2) from fun h => HM.out (by simpa using h))]
              rfl
  case done =>
    rintro D xs X hD ⟨hxs, -⟩ ⟨h1, h2, h3, h4, h5, h6⟩ hK
    rw [hxs] at h6
    have e4 := h4.cell
    have HB := Lib.hid h5
    have HW := Lib.hid (And.intro hD hK)
    have HR6 := Lib.hid h6
    have HSZ := Lib.hid (show W.heap.size ≤ w2.heap.size by have := HZ0.out; omega)
    clear h1 h2 h3 h4 h5 h6 hxs hMI HI0 HPB HL2 hD hK
    gi_wp2
    refine leaves_marks (B := W.heap.size) [D] _ ((Marks.nil _ _).cons (Nat.le_trans HSZ.out HW.out.1) (by simp) HW.out.2) fun X' hX' => ⟨_, results_tmp rfl _ _ _, ?_, HB.out.trans hX'⟩
    exact ret_bool HR6.out.symm
  case stop =>
    rintro D cc pre X hD ⟨⟨j, hj⟩, -⟩ ⟨rfl, h2, h3, h4⟩ hK
    have h5 : okS now (secs (ns.zip os)) = false := by
      cases hh : okS now (secs (ns.zip os)) with
      | false => rfl
      | true =>
        have e : secs (ns.zip os) = secs ((ns.zip os).take j) ++ secs ((ns.zip os).drop j) := by unfold secs; rw [← List.filter_append, List.take_append_drop]
        rw [e] at hh
        have := okS_pre now _ _ hh
        rw [← hj, h4] at this
        cases this
    have e4 := h2.cell
    have HB := Lib.hid h3
    have HW := Lib.hid (And.intro hD hK)
    have HR6 := Lib.hid h5
    have HSZ := Lib.hid (show W.heap.size ≤ w2.heap.size by have := HZ0.out; omega)
    clear h2 h3 h4 h5 hj hMI HI0 HPB HL2 hD hK
    gi_wp2
    refine leaves_marks (B := W.heap.size) [D] _ ((Marks.nil _ _).cons (Nat.le_trans HSZ.out HW.out.1) (by simp) HW.out.2) fun X' hX' => ⟨_, results_tmp rfl _ _ _, ?_, HB.out.trans hX'⟩
    exact ret_bool HR6.out.symm

/-- Which readers may be. -/
theorem may_c (now : Int) (u v : Value) (ns os : List Int) (W : World) (hn : NumsAt W .i64 u ns) (ho : NumsAt W .i64 v os) (h1 : ns.length ≤ 9223372036854775807) (h2 : os.length ≤ 9223372036854775807) (hr : ∀ x ∈ os, I64 x) :
    Calls Try.prog 59 #[.agg #[.int .i64 now, u, v]] W fun e w' => e = .returned (.bool (mayB now ns os)) ∧ Below W.heap.size W w' := by
  obtain ⟨p, c, rfl, hp⟩ := hn
  obtain ⟨q, d, rfl, hq⟩ := ho
  unfold mayB
  by_cases c1 : mayCpus ns.length = true
  · by_cases c2 : os.length = ns.length
    · by_cases c3 : 0 ≤ now
      · by_cases c4 : now ≤ 2147483647
        · rw [c1, decide_eq_true c2, decide_eq_true c3, decide_eq_true c4, Bool.true_and, Bool.true_and, Bool.true_and, Bool.true_and]
          have := may_yes now p q c d ns os W c1 c2 c3 c4 (fun hne => by obtain ⟨b, off, e, hc⟩ := hp hne; exact ⟨b, off, e, fun h => h, hc⟩) (fun hne => by obtain ⟨b, off, e, hc⟩ := hq hne; exact ⟨b, off, e, fun h => h, hc⟩) hr
          rwa [c2]
        · rw [decide_eq_false c4, Bool.false_and, Bool.and_false, Bool.and_false, Bool.and_false]
          exact may_no now p q _ _ c d W (.inr (.inr (.inr (by omega)))) h1 h2
      · rw [decide_eq_false c3, Bool.false_and, Bool.and_false, Bool.and_false]
        exact may_no now p q _ _ c d W (.inr (.inr (.inl (by omega)))) h1 h2
    · rw [decide_eq_false c2, Bool.false_and, Bool.and_false]
      exact may_no now p q _ _ c d W (.inr (.inl c2)) h1 h2
  · have c1' : mayCpus ns.length = false := by cases h : mayCpus ns.length <;> simp_all
    rw [c1', Bool.false_and]
    exact may_no now p q _ _ c d W (.inl c1') h1 h2

end Go.Proofs.Ytfnpokddoffplaa
/-
  Package reader: the oldest section.
  Conditions: as many of the one row as of the other.
-/
namespace Go.Proofs.Ytfnpokddoffplaa
set_option maxRecDepth 100000
open Go.RowKit Go.Shelf Go.Maps
attribute [local go_sem] Oper.semAt_some

def aheadB (a s : Int) : Bool := decide (a = 0) || decide (s < a)
def oldM (l : List (Int × Int)) : Int := l.foldl (fun a s => if aheadB a s.2 = true then s.2 else a) 0
theorem oldM_snoc (l : List (Int × Int)) (s : Int × Int) : oldM (l ++ [s]) = if aheadB (oldM l) s.2 = true then s.2 else oldM l := by unfold oldM; rw [List.foldl_append]; rfl

set_option maxHeartbeats 4000000 in
theorem ahead_c (s a : Int) (lb : Nat) (W : World) (hc : W.cell? ⟨lb, 0, none⟩ = some (.int .i64 a)) : Calls Try.prog 74 #[.int .i64 s, .pointer (some ⟨lb, 0, none⟩)] W fun e w' => e = .returned (.bool (aheadB a s)) ∧ w' = W := by
  unfold aheadB
  by_cases h : a = 0
  · have hq : (a == 0) = true := by rw [h]; rfl
    rw [decide_eq_true h, Bool.true_or]
    clear h
    go_enter Try.func74, Try.ntmps74
    go_wp2
    go_ret
    exact ⟨rfl, rfl⟩
  · have hq : (a == 0) = false := by rw [beq_eq_false_iff_ne]; exact h
    rw [decide_eq_false h, Bool.false_or]
    clear h
    go_enter Try.func74, Try.ntmps74
    go_wp2
    go_ret
    exact ⟨rfl, rfl⟩

def wO (W : World) (now : Int) (u v : Value) : World := ((W.alloc (.cells #[.int .i64 now, u, v] 45)).alloc (.cells #[.int .i64 0] 3)).alloc (.cells #[.func (.func 74) #[] #[.pointer (some ⟨W.heap.size + 1, 0, none⟩)]] 93)
theorem wO_facts (W : World) (now : Int) (u v : Value) : RBox (wO W now u v) W.heap.size now u v ∧ Boxed (wO W now u v) (W.heap.size + 1) 3 (.int .i64 0) ∧ Boxed (wO W now u v) (W.heap.size + 1 + 1) 93 (.func (.func 74) #[] #[.pointer (some ⟨W.heap.size + 1, 0, none⟩)]) ∧ Below W.heap.size W (wO W now u v) ∧ (wO W now u v).heap.size = W.heap.size + 3 := by
  refine ⟨(((RBox.new W now u v).below (below1 _ _)).below (below1 _ _)), ?_, ?_, below3 _ _ _ _, by unfold wO; simp⟩
  · have := (Boxed.new (W.alloc (.cells #[.int .i64 now, u, v] 45)) 3 (.int .i64 0)).alloc (.cells #[.func (.func 74) #[] #[.pointer (some ⟨W.heap.size + 1, 0, none⟩)]] 93)
    simpa [wO] using this
  · have := Boxed.new ((W.alloc (.cells #[.int .i64 now, u, v] 45)).alloc (.cells #[.int .i64 0] 3)) 93 (.func (.func 74) #[] #[.pointer (some ⟨W.heap.size + 1, 0, none⟩)])
    simpa [wO] using this
/-- Between two rounds. -/
def OI (W : World) (pre : List (Int × Int × Int)) (W' : World) : Prop :=
  Boxed W' (W.heap.size + 1) 3 (.int .i64 (oldM (pre.map (·.2)))) ∧ Boxed W' (W.heap.size + 1 + 1) 93 (.func (.func 74) #[] #[.pointer (some ⟨W.heap.size + 1, 0, none⟩)]) ∧ Below W.heap.size W W'
theorem oi_own (W : World) (z : Nat) (hz : W.heap.size + 4 ≤ z) : OwnFrom z (OI W) := by
  rintro s X Y row ⟨h1, h2, h3⟩ hg hr
  have hr' := fun r e => (hr r e).2
  exact ⟨heap_own h1 hg hr', heap_own h2 hg hr', h3.grown hg h3.size (fun k e => by have := (hr k e).1; omega)⟩

set_option maxHeartbeats 8000000 in
theorem oldest_c (now : Int) (u v : Value) (ns os : List Int) (W : World) (h2 : os.length = ns.length) (h8 : ns.length ≤ 8) (hnn : NumsAt W .i64 u ns) (hoo : NumsAt W .i64 v os) :
    Calls Try.prog 60 #[.agg #[.int .i64 now, u, v]] W fun e w' => e = .returned (.int .i64 (oldM (secs (ns.zip os)))) ∧ Below W.heap.size W w' := by
  obtain ⟨p, c, rfl, hp⟩ := hnn
  obtain ⟨q, d, rfl, hq⟩ := hoo
  rw [h2]
  have hn : RowOut (fun _ => False) W p ns := fun hne => by obtain ⟨b, off, e, hc⟩ := hp hne; exact ⟨b, off, e, fun h => h, hc⟩
  have ho : RowOut (fun _ => False) W q os := fun hne => by obtain ⟨b, off, e, hc⟩ := hq hne; exact ⟨b, off, e, fun h => h, hc⟩
  clear hp hq
  have HF := Lib.hid (wO_facts W now (.slice p ns.length c) (.slice q ns.length d))
  obtain ⟨w0, hw0⟩ : ∃ X, X = wO W now (.slice p ns.length c) (.slice q ns.length d) := ⟨_, rfl⟩
  rw [← hw0] at HF
  unfold wO at hw0
  have hl : ∀ {p : Option Addr} {fs : List Int}, RowOut (fun _ => False) W p fs → RowOut (fun k => k = W.heap.size + 1) w0 p fs := fun {p fs} hl hne => by
    obtain ⟨bb, off, e, -, hcs⟩ := hl hne
    obtain ⟨i0, hi0⟩ : ∃ i : Nat, i < fs.length := ⟨0, by cases fs with | nil => exact absurd rfl hne | cons _ _ => simp⟩
    have hlt := World.block_lt_of_cell? W _ (hcs i0 hi0)
    exact ⟨bb, off, e, (by simp only at hlt; omega), fun i hi => below_cell HF.out.2.2.2.1 (hcs i hi)⟩
  have HL := Lib.hid (And.intro (hl hn) (hl ho))
  have HLEN := Lib.hid h2
  obtain ⟨c0, c1, c2⟩ := HF.out.1.cells
  clear h2 hn ho hl
  refine (callsIn_wide (n := 9)).1 ?_
  refine callsIn_of_wp_marks Try.func60 rfl trivial ?_ rfl
  simp only [Try.ntmps60, List.size_toArray, List.length_cons, List.length_nil, Nat.reduceAdd, Nat.reduceSub, Array.replicate_succ, Array.replicate_zero, List.push_toArray, List.append_toArray, List.nil_append, List.cons_append]
  gi_wp2_with fail
  rw [← hw0]
  clear hw0
  refine ⟨trivial, (callsIn_wide.2 (sections_c now _ _ w0)).mono ?_⟩
  rintro e w2 ⟨rfl, hw2⟩
  have hb12 : Below w0.heap.size w0 w2 := by rw [hw2]; exact below1 _ _
  have HPB := Lib.hid (show RBox w2 w0.heap.size now (.slice p ns.length c) (.slice q ns.length d) by rw [hw2]; exact RBox.new _ _ _ _)
  have HI0 := Lib.hid (show OI W [] w2 from ⟨(hb12.block _ HF.out.2.1.lt).trans HF.out.2.1, (hb12.block _ HF.out.2.2.1.lt).trans HF.out.2.2.1, below_then HF.out.2.2.2.1 HF.out.2.2.2.1.size hb12⟩)
  have HL2 := Lib.hid (And.intro (HL.out.1.below hb12) (HL.out.2.below hb12))
  have hz0 : w0.heap.size = W.heap.size + 3 := HF.out.2.2.2.2
  have hz2 : w2.heap.size = W.heap.size + 4 := by rw [hw2, World.size_alloc, hz0]
  have HZ0 := Lib.hid (And.intro hz0 hz2)
  clear hw2 hb12 c0 c1 c2 HL hz0 hz2
  gi_wp2
  have hOI := oi_own W w2.heap.size (by have := HZ0.out; omega)
  refine wpIn_rangeDeep rfl (by omega) (gf := 84) (lb := #[.pointer (some ⟨w0.heap.size, 0, none⟩)]) rfl trivial (enters_of Try.func84 (by kernel_rfl) rfl)
    (sections_stops 8 (by omega) (fun k => k = W.heap.size + 1) w0.heap.size now p q c d ns os w2 (by have := HZ0.out; omega) HLEN.out (by omega) HPB.out HL2.out.1 HL2.out.2) (fun h k => h.trans k) (fun W l o o' _ => KeepsCells.turn _ W l o o') (Below.refl _ _) (fun _ => rfl)
    (OI W) (fun _ _ _ => False) hOI (fun _ => ownFrom_pure _ _) HI0.out
    (fun x a' X => ∃ k, a' = { tmps := #[.agg #[.int .i64 now, .slice p ns.length c, .slice q ns.length d], .pointer (some ⟨W.heap.size, 0, none⟩), .int .i64 0, .pointer (some ⟨W.heap.size + 1, 0, none⟩), .pointer (some ⟨W.heap.size + 1 + 1, 0, none⟩), undef, .pointer (some ⟨k, 0, none⟩), .func (.func 74) #[] #[.pointer (some ⟨W.heap.size + 1, 0, none⟩)], .agg #[.int .i64 now, .slice p ns.length c, .slice q ns.length d], .func (.func 84) #[] #[.pointer (some ⟨w0.heap.size, 0, none⟩)], .int .i64 x.1, .agg #[.int .i64 x.2.1, .int .i64 x.2.2], undef, undef, undef, undef, undef, undef, undef], defers := [] } ∧ X.heap[k]? = some (.cells #[.int .i64 x.2.1, .int .i64 x.2.2] 107 (0, 0)))
    ?hAx ?assign ?body ?done ?stop
  case hAx =>
    rintro x a' s X Y row ⟨k, ha, hc⟩ hg hr
    exact ⟨k, ha, heap_own hc hg (fun r e => (hr r e).2)⟩
  case assign =>
    rintro l' pre x X K hi hK
    have hi2 := hOI.alloc (.cells #[.int .i64 x.2.1, .int .i64 x.2.2] 107) hi
    clear hi
    gi_wp2
    exact hK _ _ (KeepsFrom.of_grownBy (World.grownBy_alloc _ _ none) (fun j e => by cases e)) (fun b o v _ h => below_cell (below1 _ _) h) hi2 ⟨_, rfl, World.alloc_heap_new _ _⟩
  case body =>
    rintro l' pre x a' X hl' _ hI ⟨k, rfl, hck⟩ hlen -
    obtain ⟨hi1, hi2, hi3⟩ := hI
    obtain ⟨xc, xn, xo⟩ := x
    simp only at hck
    have hk1 : X.cell? ⟨k, 1, none⟩ = some (.int .i64 xo) := by simp [World.cell?, hck]
    have e1 := hi1.cell
    have f1 := hi1.frozen
    have e2 := hi2.cell
    have HSN := Lib.hid (show oldM ((pre ++ [(xc, xn, xo)]).map (·.2)) = if aheadB (oldM (pre.map (·.2))) xo = true then xo else oldM (pre.map (·.2)) by rw [List.map_append, List.map_singleton, oldM_snoc])
    have HI := Lib.hid (And.intro hi1 (And.intro hi2 hi3))
    obtain ⟨m, hm⟩ : ∃ m, m = oldM (pre.map (·.2)) := ⟨_, rfl⟩
    rw [← hm] at e1 HSN HI
    have HC := Lib.hid (ahead_c xo m (W.heap.size + 1) X e1)
    clear hi1 hi2 hi3 hck hlen hOI HI0 HPB HL2 hm
    cases hh : aheadB m xo with
    | false =>
      rw [hh] at HC HSN
      clear hh
      gi_wp2_with fail
      refine ⟨trivial, ((callsIn_wide.2 HC.out).inRound l').mono ?_⟩
      rintro e X2 ⟨rfl, rfl⟩
      gi_wp2
      refine ⟨KeepsFrom.refl _ _, KeepsCells.refl _ _, ?_, HI.out.2.1, HI.out.2.2⟩
      rw [HSN.out]; exact HI.out.1
    | true =>
      rw [hh] at HC HSN
      clear hh
      gi_wp2_with fail
      refine ⟨trivial, ((callsIn_wide.2 HC.out).inRound l').mono ?_⟩
      rintro e X2 ⟨rfl, hX2⟩
      subst hX2
      gi_wp2
      refine ⟨(KeepsOthers.setCell _ _ _).from _, KeepsCells.keeps (Keeps.setCell _ (S := (· = W.heap.size + 1)) (p := ⟨W.heap.size + 1, 0, none⟩) rfl _), ?_, ?_, HI.out.2.2.setCell (p := ⟨W.heap.size + 1, 0, none⟩) (by show W.heap.size ≤ W.heap.size + 1; omega) _⟩
      · rw [HSN.out]; exact HI.out.1.set _
      · exact ((Keeps.setCell _ (S := (· = W.heap.size + 1)) (p := ⟨W.heap.size + 1, 0, none⟩) rfl (.int .i64 xo)).block _ HI.out.2.1.lt (by omega)).trans HI.out.2.1
  case done =>
    rintro D xs X hD ⟨hxs, -⟩ ⟨h1, h2, h3⟩ hK
    rw [hxs] at h1
    have e4 := h1.cell
    have HB := Lib.hid h3
    have HW := Lib.hid (And.intro hD hK)
    have HSZ := Lib.hid (show W.heap.size ≤ w2.heap.size by have := HZ0.out; omega)
    clear h1 h2 h3 hxs hOI HI0 HPB HL2 hD hK
    gi_wp2
    refine leaves_marks (B := W.heap.size) [D] _ ((Marks.nil _ _).cons (Nat.le_trans HSZ.out HW.out.1) (by simp) HW.out.2) fun X' hX' => ⟨_, results_tmp rfl _ _ _, ?_, HB.out.trans hX'⟩
    rfl
  case stop =>
    rintro D cc pre X hD - hF hK
    exact hF.elim

end Go.Proofs.Ytfnpokddoffplaa
namespace Go.Proofs.Ytfnpokddoffplaa
open Go.RowKit Go.Shelf
attribute [local go_sem] Oper.semAt_some

/-- A block that holds these numbers. -/
def IBlock (W : World) (g : Nat) (ns : List Int) : Prop := W.heap[g]? = some (.cells (ns.map (Value.int .i64)).toArray 3 (0, 0))
theorem IBlock.lt {W : World} {g : Nat} {ns : List Int} (h : IBlock W g ns) : g < W.heap.size := (Array.getElem?_eq_some_iff.1 h).1
theorem IBlock.below {W W' : World} {g : Nat} {ns : List Int} (h : IBlock W g ns) (hb : Below W.heap.size W W') : IBlock W' g ns := (hb.block g h.lt).trans h
theorem IBlock.keeps {S : Nat → Prop} {W W' : World} {g : Nat} {ns : List Int} (h : IBlock W g ns) (hk : Keeps S W W') (hS : ¬ S g) : IBlock W' g ns := (hk.block g h.lt hS).trans h
theorem IBlock.cell {W : World} {g : Nat} {ns : List Int} (h : IBlock W g ns) (i : Nat) (hi : i < ns.length) : W.cell? ⟨g, i, none⟩ = some (.int .i64 ns[i]) := block_cell h i hi
theorem IBlock.free {W : World} {g : Nat} {ns : List Int} (h : IBlock W g ns) (i : Nat) : W.frozen? ⟨g, i, none⟩ = false := block_free h i
theorem IBlock.nums {W : World} {g : Nat} {ns : List Int} (h : IBlock W g ns) : NumsAt W .i64 (.slice (some ⟨g, 0, none⟩) ns.length ns.length) ns := by
  have := nums_block (c := ns.length) h (Nat.le_refl _)
  rwa [List.take_length] at this
theorem IBlock.owns {W : World} {B g : Nat} {ns : List Int} (h : IBlock W g ns) (hB : B ≤ g) (hl : ns.length ≤ 1099511627776) : W.ownsRow B 3 1 (.slice (some ⟨g, 0, none⟩) ns.length ns.length) ns.length (ns.map (Value.int .i64)) :=
  ⟨by rw [List.length_map]; omega, .inr ⟨g, ns.length, _, rfl, hB, h, Nat.le_refl _, by unfold maxLen; omega, by rw [List.size_toArray, List.length_map]; omega, by rw [List.toList_toArray]; exact List.take_of_length_le (by rw [List.length_map]; omega)⟩⟩

theorem run_makeI (n : Nat) (hn : n ≤ 1099511627776) (w : World) : (Instr.makeSlice 25 (.int .i64 (n : Int)) (.int .i64 (n : Int))).run Try.prog w = .ok (.slice (some ⟨w.heap.size, 0, none⟩) n n) (w.alloc (.cells (Array.replicate n (Value.int .i64 0)) 3)) := by
  obtain ⟨i0, hi, hz0, hz1, hz2⟩ := info_parts cloneI_info
  have := run_make (P := Try.prog) w 25 3 i0 (.int .i64 0) Try.underlying25 hi hz0 .i64 .i64 (n : Int) (n : Int) (by omega) (by omega) (by rw [hz2]; omega) (by omega)
  rw [this, hz1]
  have e : madeCells (Value.int .i64 0).cells ((n : Int).toNat * 1) = Array.replicate n (Value.int .i64 0) := by
    apply Array.toList_inj.1
    rw [Nat.mul_one, Int.toNat_natCast, Array.toList_replicate]
    exact toList_madeCells_one _ n
  rw [e]
  simp
set_option maxRecDepth 100000 in
set_option maxHeartbeats 4000000 in
theorem own_c (v : Value) (vs : List Int) (W : World) (hv : NumsAt W .i64 v vs) (hn : vs.length ≤ 1099511627776) :
    Calls Try.prog 77 #[v] W fun e w' => (e = .returned (.slice (some ⟨W.heap.size, 0, none⟩) vs.length vs.length) ∧ IBlock w' W.heap.size vs) ∧ Below W.heap.size W w' := by
  obtain ⟨p, cap, rfl, hc⟩ := hv
  obtain ⟨n, hn0⟩ : ∃ n, n = vs.length := ⟨_, rfl⟩
  rw [← hn0] at hn ⊢
  have hmk := run_makeI n hn
  obtain ⟨w1, hw1⟩ : ∃ w : World, w = W.alloc (.cells (Array.replicate n (Value.int .i64 0)) 3) := ⟨_, rfl⟩
  obtain ⟨g, hg⟩ : ∃ g, g = W.heap.size := ⟨_, rfl⟩
  have hb1 : Below g W w1 := by rw [hw1, hg]; exact (Below.refl _ _).alloc (Nat.le_refl _) _
  have hg1 : w1.heap[g]? = some (.cells (List.replicate n (Value.int .i64 0)).toArray 3 (0, 0)) := by rw [hw1, hg, List.toArray_replicate]; exact World.alloc_heap_new _ _
  have HSR := Lib.hid (show 0 < (vs.map (Value.int .i64)).length → (some (⟨g, 0, none⟩ : Addr)) = some ⟨g, 0, none⟩ ∧ ∃ ad, p = some ad ∧ ∀ j u, (vs.map (Value.int .i64))[j]? = some u → w1.cell? (ad.add j) = some u from fun hpos => by
    refine ⟨rfl, ?_⟩
    obtain ⟨b, off, rfl, hcs⟩ := hc (by rintro rfl; simp at hpos)
    refine ⟨_, rfl, fun j u hj => ?_⟩
    obtain ⟨hj1, rfl⟩ := List.getElem?_eq_some_iff.1 hj
    rw [List.length_map] at hj1
    rw [addr_add_off, List.getElem_map]
    exact below_cell (by rw [← hg]; exact hb1) (hcs j hj1))
  have HLN := Lib.hid (show (vs.map (Value.int .i64)).length = Nat.min n n by rw [List.length_map, ← hn0]; exact (Nat.min_self n).symm)
  have HFT := Lib.hid (show 0 + (vs.map (Value.int .i64)).length ≤ (List.replicate n (Value.int .i64 0)).length by rw [List.length_map, List.length_replicate, ← hn0]; omega)
  have HOC := Lib.hid (show ∀ u ∈ vs.map (Value.int .i64), u.oneCell' = true from fun u hu => by obtain ⟨x, _, rfl⟩ := List.mem_map.1 hu; rfl)
  have HG1 := Lib.hid hg1
  have HB1 := Lib.hid hb1
  have HW1 := Lib.hid (And.intro hw1 hg)
  have HN := Lib.hid hn0
  clear hb1 hg1 hw1 hg hc hn0
  go_enter Try.func77, Try.ntmps77
  go_upto_region 2 with fail
  rw [← HW1.out.1, ← HW1.out.2]
  clear hmk
  go_wp2_with (with_reducible refine wpList_copy_splice (o := ⟨some 9, _, _, _, _, _⟩) rfl (.tmp 7) (.tmp 8) 25 25 rfl 3 Try.underlying25 (by kernel_rfl) (some ⟨g, 0, none⟩) p n n n cap rfl rfl g 0 (List.replicate n (Value.int .i64 0)) 3 HG1.out (vs.map (Value.int .i64)) HLN.out HSR.out HFT.out HOC.out g W HB1.out (Nat.le_refl _) ?_; intro w2 HG2 hB2)
  have hsp : splice (List.replicate n (Value.int .i64 0)) 0 (vs.map (Value.int .i64)) = vs.map (Value.int .i64) := by
    unfold splice
    rw [List.take_zero, List.nil_append, List.drop_eq_nil_of_le (by rw [List.length_replicate, List.length_map, ← HN.out]; omega), List.append_nil]
  rw [hsp] at HG2
  have HE := Lib.hid (show IBlock w2 g vs from HG2.out)
  have HB := Lib.hid hB2
  clear HG2 hB2 hsp HG1 HB1
  go_wp2
  go_ret
  exact ⟨⟨by rw [← HW1.out.2]; rfl, by rw [← HW1.out.2]; exact HE.out⟩, by rw [← HW1.out.2]; exact HB.out⟩

end Go.Proofs.Ytfnpokddoffplaa
