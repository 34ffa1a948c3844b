/-
  Runs, of the reference of layer 3: the runs of picks, as the mathematics has them.
  Conditions: the row of picks reads as a list of at most 2 to the power 32.
-/
import Derived.Test.YtjgdkfgcfningaaDoorGRows
import Derived.Test.YtjgdkfgcfningaaDoorSRunMath
import Derived.Test.YtjgdkfgcfningaaDoorHeld
import Derived.Deep.Cut
namespace Go.Proofs.YtjgdkfgcfningaaDoor
open Go.RowKit Go.Shelf

/-- The cells of runs, the oldest first. -/
def cellsR : List (Int × Nat) → List Value
  | [] => []
  | x :: r => cellsR r ++ [.int .i64 x.1, .int .i64 (x.2 : Int)]
theorem cellsR_length : ∀ rs, (cellsR rs).length = rs.length * 2
  | [] => rfl
  | x :: r => by simp only [cellsR, List.length_append, cellsR_length r, List.length_cons, List.length_nil]; omega
theorem cellsR_last (x : Int × Nat) (r : List (Int × Nat)) : (cellsR (x :: r))[r.length * 2]? = some (.int .i64 x.1) ∧ (cellsR (x :: r))[r.length * 2 + 1]? = some (.int .i64 (x.2 : Int)) := by
  have h := cellsR_length r
  simp only [cellsR]
  constructor
  · rw [List.getElem?_append_right (by omega), h, Nat.sub_self]; rfl
  · rw [List.getElem?_append_right (by omega), h, show r.length * 2 + 1 - r.length * 2 = 1 by omega]; rfl
theorem cellsR_set (x : Int × Nat) (r : List (Int × Nat)) (k : Nat) : (cellsR (x :: r)).set (r.length * 2 + 1) (.int .i64 (k : Int)) = cellsR ((x.1, k) :: r) := by
  have h := cellsR_length r
  simp only [cellsR]
  rw [List.set_append_right _ _ (by omega), h, show r.length * 2 + 1 - r.length * 2 = 1 by omega]; rfl
theorem owns_slice {w : World} {B : Nat} {E : TypeId} {s n : Nat} {v : Value} {xs : List Value} (h : w.ownsRow B E s v n xs) : ∃ p c, v = .slice p n c := by
  rcases h.2 with ⟨rfl, rfl⟩ | ⟨g, cap, cur, rfl, _⟩
  · exact ⟨_, _, rfl⟩
  · exact ⟨_, _, rfl⟩
theorem owns_some {w : World} {B : Nat} {E : TypeId} {s n : Nat} {v : Value} {xs : List Value} (h : w.ownsRow B E s v (n + 1) xs) : ∃ g c, v = .slice (some ⟨g, 0, none⟩) (n + 1) c := by
  rcases h.2 with ⟨_, h0⟩ | ⟨g, cap, cur, rfl, _⟩
  · cases h0
  · exact ⟨_, _, rfl⟩
theorem pairI_info : (Tryd.prog.info? 40).map (fun i => (i.zero, i.size, i.bytes)) = some (some (.agg #[.int .i64 0, .int .i64 0]), 2, 16) := by kernel_rfl

set_option maxRecDepth 100000 in
set_option maxHeartbeats 4000000 in
theorem rruns_c (v : Value) (l : List Int) (W : World) (hv : NumsAt W .i64 v l) (hl : l.length ≤ 4294967296) :
    Calls Tryd.prog 19 #[v] W fun e w' => (∃ v', e = .returned v' ∧ w'.ownsRow W.heap.size 40 2 v' (runsR l).length (cellsR (runsR l))) ∧ Below W.heap.size W w' := by
  obtain ⟨p, cap, rfl, hc⟩ := hv
  obtain ⟨n, hn⟩ : ∃ n, n = l.length := ⟨_, rfl⟩
  rw [← hn] at hl ⊢
  have HN := Lib.hid hn
  clear hn
  obtain ⟨i0, hi0, hz0, hz1, hz2⟩ := info_parts pairI_info
  have HI0 := Lib.hid (And.intro hi0 (And.intro hz0 (And.intro hz1 hz2)))
  clear hi0 hz0 hz1 hz2
  go_enter Tryd.func19, Tryd.ntmps19
  go_wp2
  go_loopw [3, 9] (fun ov iv wr => ∃ (i m : Nat) (q : Option Addr) (d : Nat) (rs : List (Int × Nat)), i ≤ n ∧ iv = .int .i64 i ∧ ov = .slice q m d ∧ m ≤ i ∧ Hid (rs = runsR (l.take i)) ∧ Hid (m = rs.length) ∧ Hid (wr.ownsRow W.heap.size 40 2 (.slice q m d) m (cellsR rs)) ∧ Below W.heap.size W wr) (fun _ iv _ => n - (intOf iv).toNat)
  case atStart => exact ⟨0, 0, none, 0, [], Nat.zero_le _, rfl, rfl, Nat.le_refl _, rfl, rfl, World.ownsRow_nil _ _ _ _, Below.refl _ _⟩
  case round =>
    obtain ⟨i, m, q, d, rs, hi, rfl, rfl, hmi, HR, HM, HO, hB⟩ := hrel
    by_cases hlt : i < n
    · have hil : i < l.length := by have := HN.out; omega
      obtain ⟨b, off, rfl, hcs⟩ := hc (by intro e; rw [e] at hil; cases hil)
      have hx := below_cell hB (hcs i hil)
      have htk := List.take_succ_eq_append_getElem hil
      obtain ⟨x, hxe⟩ : ∃ x, x = l[i] := ⟨_, rfl⟩
      rw [← hxe] at hx htk
      have HT := Lib.hid (show runsR (l.take (i + 1)) = putR rs x by rw [htk, runs_snoc, ← HR.out])
      have hsz := hB.size
      clear hcs hxe htk hc
      cases rs with
      | nil =>
        obtain rfl : m = 0 := HM.out
        have HPUT := Lib.hid (show (x, 1) :: ([] : List (Int × Nat)) = runsR (l.take (i + 1)) by rw [HT.out]; rfl)
        have HLEN := Lib.hid (show 0 + 1 = ((x, 1) :: ([] : List (Int × Nat))).length from rfl)
        go_wp2_with (at_builtin; refine wpList_append_own _ rfl _ _ 39 rfl W.heap.size 40 i0 (.agg #[.int .i64 0, .int .i64 0]) 2 16 Tryd.underlying39 HI0.out.1 HI0.out.2.1 HI0.out.2.2.1 HI0.out.2.2.2 rfl (by decide) (.slice q 0 d) 0 _ rfl (HO.out.alloc _) ⟨wr.heap.size, 0, none⟩ 1 1 [.int .i64 x, .int .i64 1] rfl rfl (World.news_of_block (World.alloc_heap_new _ _)) (by intro u hu; simp at hu; rcases hu with rfl | rfl <;> rfl) (by unfold maxLen; omega) (by omega) (by simp; omega) ?_; intro v' w2 hown' hgrow _; obtain ⟨q6, d6, rfl⟩ := owns_slice hown')
        have hB2 : Below W.heap.size W w2 := (hB.alloc hsz _).grown hgrow (by simp; omega) (fun r hr => (HO.out.lt r hr).1)
        have HO2 := Lib.hid (show w2.ownsRow W.heap.size 40 2 (.slice q6 (0 + 1) d6) (0 + 1) (cellsR ((x, 1) :: [])) from hown')
        clear hown' hgrow HO hB
        go_roundw
        case rel => exact ⟨i + 1, 0 + 1, q6, d6, (x, 1) :: [], by omega, by go_num, rfl, by omega, HPUT, HLEN, HO2, hB2⟩
        case measure => simp [intOf]; omega
      | cons y r =>
        obtain ⟨R, hR⟩ : ∃ R, R = r.length := ⟨_, rfl⟩
        obtain rfl : m = R + 1 := by rw [hR]; exact HM.out
        obtain ⟨a, k⟩ := y
        obtain ⟨g, cp, hv⟩ := owns_some HO.out
        injection hv with hv1 _ hv2
        subst hv1 hv2
        have HOK := (show OkR ((a, k) :: r) by rw [HR.out]; exact runs_ok _).head
        simp only at HOK
        have hc0 := HO.out.cellAt (R * 2) (by omega)
        have hc1 := HO.out.cellAt (R * 2 + 1) (by omega)
        have hf1 := HO.out.frozenAt (R * 2 + 1)
        have hl2 := cellsR_last (a, k) r
        rw [← hR] at hl2
        rw [hl2.1] at hc0
        rw [hl2.2] at hc1
        simp only at hc0 hc1
        clear hl2
        by_cases hax : a = x
        · by_cases hk : k < 256
          · subst hax
            have HPUT := Lib.hid (show (a, k + 1) :: r = runsR (l.take (i + 1)) by rw [HT.out]; exact (if_pos ⟨rfl, hk⟩).symm)
            have HLEN := Lib.hid (show R + 1 = ((a, k + 1) :: r).length by rw [hR]; rfl)
            have HST := HO.out.drew.stored (R * 2 + 1) (.int .i64 ((k + 1 : Nat) : Int))
            rw [hR, cellsR_set, ← hR] at HST
            have HSO := Lib.hid HST.1
            have HSB := Lib.hid (hB.drew.grown HST.2 hsz (fun r hr => by injection hr with hr; subst hr; exact (HO.out.lt _ rfl).1))
            clear HST hR
            have hRR : ¬ ((R : Int) + 1 ≤ (R : Int)) := by omega
            have hwk : IntKind.i64.wrap ((k : Int) + 1) = (k : Int) + 1 := IntWalk.i64_in _ (by omega)
            go_upto_region 7 with (fail)
            refine wpTwo_begin (T := fun _ => True) (S := fun w' => w'.cell? ⟨g, R * 2 + 1, none⟩ = some (.int .i64 (k : Int))) (late := fun j => [10].contains j) (by kernel_rfl) ?_
            have hs1 : wr.drew.cell? ⟨g, R * 2 + 1, none⟩ = some (.int .i64 (k : Int)) := hc1
            refine wpTwo_takeT (i := 0) (v := .slice (some ⟨g, 0, none⟩) (R + 1) d) rfl (by kernel_rfl) (by kernel_rfl) (by kernel_rfl) (fun _ _ _ h => h) ⟨by rfl, ?_⟩ trivial ?_
            · intro w _
              go_simp
            (try simp only [Act.put, List.getElem_toArray, List.getElem_cons_zero, List.setIfInBounds_toArray, List.set_cons_succ, List.set_cons_zero])
            refine wpTwo_takeT (i := 1) (v := .int .i64 (R : Int)) rfl (by kernel_rfl) (by kernel_rfl) (by kernel_rfl) (fun _ _ _ h => h) ⟨by rfl, ?_⟩ trivial ?_
            · intro w _
              go_simp
            (try simp only [Act.put, List.getElem_toArray, List.getElem_cons_succ, List.getElem_cons_zero, List.setIfInBounds_toArray, List.set_cons_succ, List.set_cons_zero])
            refine wpTwo_takeT (i := 2) (v := .slice (some ⟨g, 0, none⟩) (R + 1) d) rfl (by kernel_rfl) (by kernel_rfl) (by kernel_rfl) (fun _ _ _ h => h) ⟨by rfl, ?_⟩ trivial ?_
            · intro w _
              go_simp
            (try simp only [Act.put, List.getElem_toArray, List.getElem_cons_succ, List.getElem_cons_zero, List.setIfInBounds_toArray, List.set_cons_succ, List.set_cons_zero])
            refine wpTwo_takeT (i := 3) (v := .int .i64 (R : Int)) rfl (by kernel_rfl) (by kernel_rfl) (by kernel_rfl) (fun _ _ _ h => h) ⟨by rfl, ?_⟩ trivial ?_
            · intro w _
              go_simp
            (try simp only [Act.put, List.getElem_toArray, List.getElem_cons_succ, List.getElem_cons_zero, List.setIfInBounds_toArray, List.set_cons_succ, List.set_cons_zero])
            refine wpTwo_takeT (i := 4) (v := .pointer (some ⟨g, R * 2, none⟩)) rfl (by kernel_rfl) (by kernel_rfl) (by kernel_rfl) (fun _ _ _ h => h) ⟨by rfl, ?_⟩ trivial ?_
            · intro w _
              go_simp
            (try simp only [Act.put, List.getElem_toArray, List.getElem_cons_succ, List.getElem_cons_zero, List.setIfInBounds_toArray, List.set_cons_succ, List.set_cons_zero])
            refine wpTwo_takeT (i := 5) (v := .pointer (some ⟨g, R * 2 + 1, none⟩)) rfl (by kernel_rfl) (by kernel_rfl) (by kernel_rfl) (fun _ _ _ h => h) ⟨by rfl, ?_⟩ trivial ?_
            · intro w _
              go_simp
            (try simp only [Act.put, List.getElem_toArray, List.getElem_cons_succ, List.getElem_cons_zero, List.setIfInBounds_toArray, List.set_cons_succ, List.set_cons_zero])
            refine wpTwo_takeS (i := 6) (v := .int .i64 (k : Int)) (waits_all (by kernel_rfl)) rfl (by kernel_rfl) (by kernel_rfl) (by kernel_rfl) (fun _ _ _ h => h) ⟨by rfl, ?_⟩ ⟨trivial, hs1⟩ ?_
            · rintro w ⟨-, hS0⟩
              go_simp
            (try simp only [Act.put, List.getElem_toArray, List.getElem_cons_succ, List.getElem_cons_zero, List.setIfInBounds_toArray, List.set_cons_succ, List.set_cons_zero])
            refine wpTwo_takeT (i := 7) (v := .int .i64 ((k + 1 : Nat) : Int)) rfl (by kernel_rfl) (by kernel_rfl) (by kernel_rfl) (fun _ _ _ h => h) ⟨by rfl, ?_⟩ trivial ?_
            · intro w _
              go_simp
            (try simp only [Act.put, List.getElem_toArray, List.getElem_cons_succ, List.getElem_cons_zero, List.setIfInBounds_toArray, List.set_cons_succ, List.set_cons_zero])
            refine wpTwo_takeT (i := 8) (v := .pointer (some ⟨g, R * 2, none⟩)) rfl (by kernel_rfl) (by kernel_rfl) (by kernel_rfl) (fun _ _ _ h => h) ⟨by rfl, ?_⟩ trivial ?_
            · intro w _
              go_simp
            (try simp only [Act.put, List.getElem_toArray, List.getElem_cons_succ, List.getElem_cons_zero, List.setIfInBounds_toArray, List.set_cons_succ, List.set_cons_zero])
            refine wpTwo_takeT (i := 9) (v := .pointer (some ⟨g, R * 2 + 1, none⟩)) rfl (by kernel_rfl) (by kernel_rfl) (by kernel_rfl) (fun _ _ _ h => h) ⟨by rfl, ?_⟩ trivial ?_
            · intro w _
              go_simp
            (try simp only [Act.put, List.getElem_toArray, List.getElem_cons_succ, List.getElem_cons_zero, List.setIfInBounds_toArray, List.set_cons_succ, List.set_cons_zero])
            refine wpTwo_ready (rs := [10]) (by kernel_rfl) (by simp) ?_
            refine (AllTwo.cons rfl (fun K hK => ?_) AllTwo.nil)
            have hfd : wr.drew.frozen? ⟨g, R * 2 + 1, none⟩ = false := hf1
            go_simp
            refine hK.out _ _ ⟨trivial, fun h _ => absurd h (by decide)⟩ ?_
            clear hK K
            refine wpTwo_end (by kernel_rfl) ?_ _
            obtain ⟨wF, hwF⟩ : ∃ w : World, w = wr.drew.setCell ⟨g, R * 2 + 1, none⟩ (.int .i64 ((k + 1 : Nat) : Int)) := ⟨_, rfl⟩
            have HE1 := Lib.hid (show wF.ownsRow W.heap.size 40 2 (.slice (some ⟨g, 0, none⟩) (R + 1) d) (R + 1) (cellsR ((a, k + 1) :: r)) by rw [hwF]; exact HSO.out)
            have hE2 : Below W.heap.size W wF := by rw [hwF]; exact HSB.out
            have hwF2 : wF = wr.drew.setCell ⟨g, R * 2 + 1, none⟩ (.int .i64 ((k : Int) + 1)) := hwF
            clear HSO HSB HO hB hs1 hfd
            have hwF3 : wF = (wr.setCell ⟨g, R * 2 + 1, none⟩ (.int .i64 ((k : Int) + 1))).drew := by rw [hwF2]; first | rfl | simp
            rw [← hwF3]
            clear hwF hwF2 hwF3
            go_wp2
            go_roundw
            case rel => exact ⟨i + 1, R + 1, _, d, (a, k + 1) :: r, by omega, by go_num, rfl, by omega, HPUT, HLEN, HE1, hE2⟩
            case measure => simp [intOf]; omega
          · have HPUT := Lib.hid (show (x, 1) :: (a, k) :: r = runsR (l.take (i + 1)) by rw [HT.out]; exact (if_neg (fun h => hk h.2)).symm)
            have HLEN := Lib.hid (show R + 1 + 1 = ((x, 1) :: (a, k) :: r).length by rw [hR]; rfl)
            subst hax
            have hk' : ¬ ((k : Int) < 256) := by omega
            clear hR
            go_wp2_with (at_builtin; refine wpList_append_own _ rfl _ _ 39 rfl W.heap.size 40 i0 (.agg #[.int .i64 0, .int .i64 0]) 2 16 Tryd.underlying39 HI0.out.1 HI0.out.2.1 HI0.out.2.2.1 HI0.out.2.2.2 rfl (by decide) (.slice (some ⟨g, 0, none⟩) (R + 1) d) (R + 1) _ rfl (HO.out.alloc _) ⟨wr.heap.size, 0, none⟩ 1 1 [.int .i64 a, .int .i64 1] rfl rfl (World.news_of_block (World.alloc_heap_new _ _)) (by intro u hu; simp at hu; rcases hu with rfl | rfl <;> rfl) (by unfold maxLen; omega) (by omega) (by simp; omega) ?_; intro v' w2 hown' hgrow _; obtain ⟨q6, d6, rfl⟩ := owns_slice hown')
            have hB2 : Below W.heap.size W w2 := (hB.alloc hsz _).grown hgrow (by simp; omega) (fun r hr => (HO.out.lt r hr).1)
            have HO2 := Lib.hid (show w2.ownsRow W.heap.size 40 2 (.slice q6 ((R + 1) + 1) d6) ((R + 1) + 1) (cellsR ((a, 1) :: ((a, k) :: r))) from hown')
            clear hown' hgrow HO hB
            go_roundw
            case rel => exact ⟨i + 1, (R + 1) + 1, q6, d6, (a, 1) :: ((a, k) :: r), by omega, by go_num, rfl, by omega, HPUT, HLEN, HO2, hB2⟩
            case measure => simp [intOf]; omega
        · have HPUT := Lib.hid (show (x, 1) :: (a, k) :: r = runsR (l.take (i + 1)) by rw [HT.out]; exact (if_neg (fun h => hax h.1)).symm)
          have HLEN := Lib.hid (show R + 1 + 1 = ((x, 1) :: (a, k) :: r).length by rw [hR]; rfl)
          have hne : ((a : Int) == x) = false := by rw [beq_eq_false_iff_ne]; exact hax
          clear hR hax
          go_wp2_with (at_builtin; refine wpList_append_own _ rfl _ _ 39 rfl W.heap.size 40 i0 (.agg #[.int .i64 0, .int .i64 0]) 2 16 Tryd.underlying39 HI0.out.1 HI0.out.2.1 HI0.out.2.2.1 HI0.out.2.2.2 rfl (by decide) (.slice (some ⟨g, 0, none⟩) (R + 1) d) (R + 1) _ rfl (HO.out.alloc _) ⟨wr.heap.size, 0, none⟩ 1 1 [.int .i64 x, .int .i64 1] rfl rfl (World.news_of_block (World.alloc_heap_new _ _)) (by intro u hu; simp at hu; rcases hu with rfl | rfl <;> rfl) (by unfold maxLen; omega) (by omega) (by simp; omega) ?_; intro v' w2 hown' hgrow _; obtain ⟨q6, d6, rfl⟩ := owns_slice hown')
          have hB2 : Below W.heap.size W w2 := (hB.alloc hsz _).grown hgrow (by simp; omega) (fun r hr => (HO.out.lt r hr).1)
          have HO2 := Lib.hid (show w2.ownsRow W.heap.size 40 2 (.slice q6 ((R + 1) + 1) d6) ((R + 1) + 1) (cellsR ((x, 1) :: ((a, k) :: r))) from hown')
          clear hown' hgrow HO hB
          go_roundw
          case rel => exact ⟨i + 1, (R + 1) + 1, q6, d6, (x, 1) :: ((a, k) :: r), by omega, by go_num, rfl, by omega, HPUT, HLEN, HO2, hB2⟩
          case measure => simp [intOf]; omega
    · obtain rfl : n = i := by omega
      have hr := HR.out
      rw [List.take_of_length_le (by have := HN.out; omega)] at hr
      have HG := Lib.hid (show wr.ownsRow W.heap.size 40 2 (.slice q m d) (runsR l).length (cellsR (runsR l)) by
        have := HO.out
        rw [HM.out] at this ⊢
        rw [← hr]; exact this)
      clear hr HR HO HM
      go_wp2
      go_ret
      exact ⟨⟨_, rfl, HG.out⟩, hB⟩

end Go.Proofs.YtjgdkfgcfningaaDoor
