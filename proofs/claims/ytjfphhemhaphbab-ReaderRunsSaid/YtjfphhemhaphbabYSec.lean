/-
  Package reader: sections tells the CPUs that are in a section, or seem so, CPU by CPU.
  Conditions: who ranges over them leaves the readers, and their rows, as they are.
-/
import Derived.Test.YtjfphhemhaphbabYBase
namespace Go.Proofs.Ytjfphhemhaphbab
open Go.RowKit Go.Shelf
attribute [local go_sem] Oper.semAt_some

def secs (l : List (Int × Int)) : List (Int × Int) := l.filter fun s => secB s.1 s.2
def Small (k : Nat) (xs : List (Int × Int × Int)) : Prop := ∀ x ∈ xs, 0 ≤ x.1 ∧ x.1 < (k : Int)
theorem secs_len (l : List (Int × Int)) : (secs l).length ≤ l.length := List.length_filter_le _ _
theorem secs_snoc (l : List (Int × Int)) (s : Int × Int) : secs (l ++ [s]) = secs l ++ (if secB s.1 s.2 = true then [s] else []) := by
  unfold secs
  rw [List.filter_append]
  by_cases h : secB s.1 s.2 = true <;> simp [h]
theorem zip_take_succ {ns os : List Int} (hl : os.length = ns.length) {j : Nat} (hj : j < ns.length) : (ns.zip os).take (j + 1) = (ns.zip os).take j ++ [(ns[j], os[j]'(by omega))] := by
  have h : j < (ns.zip os).length := by simp; omega
  rw [List.take_succ_eq_append_getElem h]
  simp

set_option maxRecDepth 100000 in
set_option maxHeartbeats 4000000 in
theorem sections_stops (n : Nat) (hn : 1 ≤ n) (S : Nat → Prop) (lb : Nat) (b : Int) (p q : Option Addr) (c d : Nat) (ns os : List Int) (w : World) (hSl : ¬ S lb) (hlen : os.length = ns.length) (hmax : ns.length ≤ 4611686018427387904)
    (hc : RBox w lb b (.slice p ns.length c) (.slice q ns.length d)) (hl : RowOut S w p ns) (hm : RowOut S w q os) :
    SeqDeep Fence.wide n Try.prog 32 #[.pointer (some ⟨lb, 0, none⟩)] (fun x : Int × Int × Int => #[.int .i64 x.1, .agg #[.int .i64 x.2.1, .int .i64 x.2.2]]) (KeepsCells S)
      (fun xs => xs.map (·.2) = secs (ns.zip os) ∧ Small ns.length xs) (fun xs => (∃ j, xs.map (·.2) = secs ((ns.zip os).take j)) ∧ Small ns.length xs) ns.length w := fun l J Jx W hW hJ hJx hY h0 => by
  refine callsIn_of_wp Try.func32 rfl trivial ?_ rfl
  simp only [Try.ntmps32, List.size_toArray, List.length_cons, List.length_nil, Nat.reduceAdd, Nat.reduceSub, Array.replicate_succ, Array.replicate_zero, List.push_toArray, List.append_toArray, List.nil_append, List.cons_append]
  have hcW1 := (hc.below hW).cells.2.1
  have hcW2 := (hc.below hW).cells.2.2
  have HLW := Lib.hid (And.intro (hl.below hW) (hm.below hW))
  have HSL := Lib.hid hSl
  have HLEN := Lib.hid hlen
  have HJ := Lib.hid (And.intro hJ hJx)
  clear hc hl hm hSl hlen hJ hJx
  gi_wp2
  gi_loopw [9] (fun iv wr => ∃ (j : Nat) (pre : List (Int × Int × Int)), j ≤ ns.length ∧ iv = .int .i64 (j : Int) ∧ (wr.cell? ⟨lb, 1, none⟩ = some (.slice p ns.length c) ∧ wr.cell? ⟨lb, 2, none⟩ = some (.slice q ns.length d) ∧ Hid (RowOut S wr p ns ∧ RowOut S wr q os ∧ W.heap.size ≤ wr.heap.size)) ∧ Hid (J pre wr) ∧ Hid (pre.map (·.2) = secs ((ns.zip os).take j) ∧ Small ns.length pre)) (fun iv _ => ns.length - (intOf iv).toNat)
  case atStart => exact ⟨0, [], Nat.zero_le _, rfl, ⟨hcW1, hcW2, HLW.out.1, HLW.out.2, Nat.le_refl _⟩, h0, by simp [secs], fun x hx => by cases hx⟩
  case round =>
    clear HLW hcW1 hcW2 h0
    obtain ⟨j, pre, hj, rfl, ⟨hc1, hc2, HL⟩, HJp, HE⟩ := hrel
    by_cases hjl : j < ns.length
    · have hne : ns ≠ [] := by intro e; rw [e] at hjl; simp at hjl
      have hne2 : os ≠ [] := by intro e; have := HLEN.out; rw [e] at this; simp at this; omega
      obtain ⟨h1, h2, hsz⟩ := HL.out
      obtain ⟨b1, off1, hp, hSb1, hcs1⟩ := h1 hne
      obtain ⟨b2, off2, hq, hSb2, hcs2⟩ := h2 hne2
      have hx := hcs1 j hjl
      have hy := hcs2 j (by rw [HLEN.out]; exact hjl)
      have hsn := zip_take_succ HLEN.out hjl
      obtain ⟨x, hxe⟩ : ∃ x, x = ns[j] := ⟨_, rfl⟩
      obtain ⟨y, hye⟩ : ∃ y, y = os[j]'(by rw [HLEN.out]; exact hjl) := ⟨_, rfl⟩
      rw [← hxe] at hx hsn
      rw [← hye] at hy hsn
      have HSN := Lib.hid hsn
      have HLN := Lib.hid (fun (wr' : World) (hk : KeepsCells S wr wr') (hz : wr.heap.size ≤ wr'.heap.size) => (show RowOut S wr' p ns ∧ RowOut S wr' q os ∧ W.heap.size ≤ wr'.heap.size from ⟨h1.keeps hk, h2.keeps hk, Nat.le_trans hsz hz⟩))
      clear hcs1 hcs2 hne hne2 hxe hye hsn h1 h2 hsz
      subst hp
      subst hq
      have hj0 : (0 : Int) ≤ (j : Int) := by omega
      have hjl' : (j : Int) < (ns.length : Int) := by omega
      have hb1 := World.block_lt_of_cell? wr _ hx
      have hb2 := World.block_lt_of_cell? wr _ hy
      have hbl := World.block_lt_of_cell? wr _ hc1
      have HN := Lib.hid (fun w => run_neq_sec x y w)
      cases hs : secB x y with
      | false =>
        rw [hs] at HN
        have HE2 := Lib.hid (show pre.map (·.2) = secs ((ns.zip os).take (j + 1)) ∧ Small ns.length pre by
          rw [HSN.out, secs_snoc, if_neg (by rw [hs]; exact Bool.false_ne_true), List.append_nil]; exact HE.out)
        have HJ2 := Lib.hid (HJ.out.1.alloc (.cells #[.int .i64 x, .int .i64 y] 59) HJp.out)
        have hnq := HN.out
        clear HE HJp HSN hs HN hY
        gi_wp2
        refine ⟨fun f h => (by cases h), ?_⟩
        gi_wp2
        go_roundw
        case rel => exact ⟨j + 1, pre, by omega, rfl, ⟨below_cell (below1 wr _) hc1, below_cell (below1 wr _) hc2, HLN.out _ (fun b o v _ h => below_cell (below1 wr _) h) (by simp)⟩, HJ2, HE2⟩
        case measure => first | omega | (simp [intOf]; omega)
      | true =>
        rw [hs] at HN
        have HE2 := Lib.hid (show (pre ++ [((j : Int), x, y)]).map (·.2) = secs ((ns.zip os).take (j + 1)) ∧ Small ns.length (pre ++ [((j : Int), x, y)]) by
          rw [HSN.out, secs_snoc, if_pos hs, List.map_append, HE.out.1]
          exact ⟨rfl, fun z hz => by
            rcases List.mem_append.1 hz with hz | hz
            · exact HE.out.2 z hz
            · rw [List.mem_singleton.1 hz]; exact ⟨hj0, hjl'⟩⟩)
        have hlp : pre.length < ns.length := by
          have h1 := congrArg List.length HE.out.1
          have h2 := secs_len ((ns.zip os).take j)
          have h3 : ((ns.zip os).take j).length ≤ j := List.length_take_le _ _
          simp only [List.length_map] at h1
          omega
        obtain ⟨w1, hw1⟩ : ∃ X : World, X = wr.alloc (.cells #[.int .i64 x, .int .i64 y] 59) := ⟨_, rfl⟩
        have hb1' : Below wr.heap.size wr w1 := by rw [hw1]; exact below1 _ _
        have hJ1 := HJ.out.1.alloc (.cells #[.int .i64 x, .int .i64 y] 59) HJp.out
        rw [← hw1] at hJ1
        have hs0 : w1.cell? ⟨wr.heap.size, 0, none⟩ = some (.int .i64 x) := by rw [hw1]; simp
        have hs1 : w1.cell? ⟨wr.heap.size, 1, none⟩ = some (.int .i64 y) := by rw [hw1]; simp
        have hk1 : KeepsCells S wr w1 := fun b o v _ h => below_cell hb1' h
        have hcc1 := below_cell hb1' hc1
        have hcc2 := below_cell hb1' hc2
        have HZ1 := Lib.hid (show wr.heap.size ≤ w1.heap.size ∧ W.heap.size ≤ wr.heap.size from ⟨hb1'.size, HL.out.2.2⟩)
        have HK1 := Lib.hid hk1
        obtain ⟨fn, tmps, assign, body, hy2, hR⟩ := hY pre ((j : Int), x, y) w1 hJ1 hlp ⟨⟨j + 1, HE2.out.1⟩, HE2.out.2⟩
        dsimp only at hy2
        rw [hw1] at hy2 hR
        have hnq := HN.out
        clear HE HJp HSN hs HN hY hb1' hJ1 hk1
        rw [hw1] at HK1 HZ1 hcc1 hcc2
        clear hw1 hs0 hs1
        gi_wp2
        refine hR.mono ?_
        rintro e W3 (⟨rfl, hJ3, hk3, hf3⟩ | ⟨rfl, hJx3, -⟩)
        · have hc31 := hk3 _ _ _ HSL.out hcc1
          have hc32 := hk3 _ _ _ HSL.out hcc2
          have HL3 := Lib.hid (HLN.out W3 (HK1.out.trans hk3) (Nat.le_trans HZ1.out.1 hf3.size))
          have HJ3 := Lib.hid hJ3
          clear hJ3 hk3 hf3 hR
          gi_wp2
          go_roundw
          case rel => exact ⟨j + 1, _, by omega, rfl, ⟨hc31, hc32, HL3⟩, HJ3, HE2⟩
          case measure => first | omega | (simp [intOf]; omega)
        · have HJX := Lib.hid (show (∃ pre', ((∃ j, List.map (·.2) pre' = secs ((ns.zip os).take j)) ∧ Small ns.length pre') ∧ Jx pre' W3) from ⟨_, ⟨⟨j + 1, HE2.out.1⟩, HE2.out.2⟩, hJx3⟩)
          clear hJx3 hR
          gi_wp2
          refine bodyPost_ret (results_none rfl _ _ _) rfl ?_
          exact ⟨⟨_, rfl⟩, .inr HJX.out⟩
    · obtain rfl : j = ns.length := by omega
      have HF := Lib.hid (show ∃ xs, (List.map (·.2) xs = secs (ns.zip os) ∧ Small ns.length xs) ∧ J xs wr from ⟨pre, ⟨by
        have h := HE.out.1
        rwa [List.take_of_length_le (by simp; omega)] at h, HE.out.2⟩, HJp.out⟩)
      clear HE HJp hjl hj
      gi_wp2
      go_end0
      exact ⟨⟨_, rfl⟩, .inl HF.out⟩

end Go.Proofs.Ytjfphhemhaphbab
