/-
  The iterator over the runs of picks tells the runs in order; Runs of package script.
  Conditions: who ranges over them leaves the picks as they are.
-/
import Derived.Test.YtjgdkfgcfningaaDoorRange
import Derived.Test.YtjgdkfgcfningaaDoorSRunsR
import Derived.Shelf.RegionOpen
import Derived.WalkKit
import Derived.OwnWalkIn
import Derived.TacticsInMore
import Derived.LoopNIn
import Derived.LoopIn
import Derived.Deep.RegionHeld
import Derived.Sort.QuietIn
namespace Go.Proofs.YtjgdkfgcfningaaDoor
open Go.RowKit Go.Shelf Go.BigFrame
attribute [local go_sem] Oper.semAt_some

/-- The cells outside of some blocks stay as they are. -/
def KeepsCells (S : Nat → Prop) (W W' : World) : Prop := ∀ b o v, ¬ S b → W.cell? ⟨b, o, none⟩ = some v → W'.cell? ⟨b, o, none⟩ = some v
theorem KeepsCells.refl (S : Nat → Prop) (W : World) : KeepsCells S W W := fun _ _ _ _ h => h
theorem KeepsCells.trans {S : Nat → Prop} {X Y Z : World} (h : KeepsCells S X Y) (k : KeepsCells S Y Z) : KeepsCells S X Z := fun b o v hb hx => k b o v hb (h b o v hb hx)
theorem KeepsCells.keeps {S : Nat → Prop} {X Y : World} (h : Keeps S X Y) : KeepsCells S X Y := fun b _ _ hb hx => h.cell hx (by simpa using hb)
theorem KeepsCells.turn (S : Nat → Prop) (W : World) (l : Nat) (o o' : Obj) (hl : W.heap[l]? = some o) (ho : o.isCells = false) (_ : o.isWalk = false) : KeepsCells S W (W.putObj l o') := fun b i v _ h => by
  by_cases e : b = l
  · subst e
    simp only [World.cell?, hl] at h
    cases o <;> simp_all [Obj.isCells]
  · have hp : (W.putObj l o').heap[b]? = W.heap[b]? := World.putObj_heap_other e
    simp only [World.cell?] at h ⊢
    rw [hp]
    exact h

/-- A run of these picks. -/
abbrev RunS (l : List Int) := { s : Int × Nat // (1 ≤ s.2 ∧ s.2 ≤ 256) ∧ s.1 ∈ l }
abbrev runV {l : List Int} (s : RunS l) : Value := .agg #[.int .i64 s.1.1, .int .i64 (s.1.2 : Int)]
theorem putR_len (rs : List (Int × Nat)) (n : Int) : rs.length ≤ (putR rs n).length := by
  cases rs with
  | nil => simp
  | cons x r => obtain ⟨m, k⟩ := x; simp only [putR]; split <;> simp
theorem fold_len (ps : List Int) : ∀ rs, rs.length ≤ (ps.foldl putR rs).length := by
  induction ps with
  | nil => intro rs; exact Nat.le_refl _
  | cons p r ih => intro rs; exact Nat.le_trans (putR_len rs p) (ih _)
theorem runs_len_take (l : List Int) (j : Nat) : (runsR (l.take j)).length ≤ (runsR l).length := by
  have h := runs_app (l.take j) (l.drop j)
  rw [List.take_append_drop] at h
  rw [h]; exact fold_len _ _
theorem runs_len (l : List Int) : (runsR l).length ≤ l.length := by
  suffices ∀ (ps : List Int) rs, (ps.foldl putR rs).length ≤ rs.length + ps.length by have := this l []; simpa [runsR] using this
  intro ps
  induction ps with
  | nil => intro rs; simp
  | cons p r ih =>
    intro rs
    have h1 := ih (putR rs p)
    have h2 : (putR rs p).length ≤ rs.length + 1 := by
      cases rs with
      | nil => simp [putR]
      | cons x r => obtain ⟨m, k⟩ := x; simp only [putR]; split <;> simp
    simp only [List.foldl_cons, List.length_cons]; omega

set_option maxRecDepth 100000 in
set_option maxHeartbeats 8000000 in
theorem runs_stops (n : Nat) (hn : 1 ≤ n) (S : Nat → Prop) (lb b off cap : Nat) (p0 : Option Addr) (l : List Int) (w : World) (hSl : ¬ S lb) (hSb : ¬ S b) (hmax : l.length ≤ 1099511627776) (hp0 : 0 < l.length → p0 = some ⟨b, off, none⟩)
    (hc : w.cell? ⟨lb, 0, none⟩ = some (.slice p0 l.length cap)) (hl : ∀ i (h : i < l.length), w.cell? ⟨b, off + i, none⟩ = some (.int .i64 l[i])) :
    SeqBound Fence.wide n Tryd.prog 48 #[] #[.pointer (some ⟨lb, 0, none⟩)] (fun s : RunS l => #[runV s]) (KeepsCells S) (fun xs => (xs.map (·.1)).reverse = runsR l) (fun _ => True) (runsR l).length w := fun lw J Jx W hW hJ hJx hY h0 => by
  refine callsIn_of_wp Tryd.func48 rfl trivial ?_ rfl
  simp only [Tryd.ntmps48, List.size_toArray, List.length_cons, List.length_nil, Nat.reduceAdd, Nat.reduceSub, Array.replicate_succ, Array.replicate_zero, List.push_toArray, List.append_toArray, List.nil_append, List.cons_append]
  have hcW := (hW.cell (World.block_lt_of_cell? w _ hc)).trans hc
  have HLW := Lib.hid (show ∀ i (h : i < l.length), W.cell? ⟨b, off + i, none⟩ = some (.int .i64 l[i]) from fun i h => (hW.cell (World.block_lt_of_cell? w _ (hl i h))).trans (hl i h))
  clear hc hl
  obtain ⟨N, hN⟩ : ∃ N, N = l.length := ⟨_, rfl⟩
  rw [← hN] at hmax hp0 hcW
  have HN := Lib.hid hN
  have HP0 := Lib.hid hp0
  clear hN hp0
  gi_wp2
  gi_loopw [3] (fun iv wr => ∃ (i : Nat) (pre : List (RunS l)), i ≤ N ∧ iv = .int .i64 i ∧ (wr.cell? ⟨lb, 0, none⟩ = some (.slice p0 N cap) ∧ Hid (∀ i (h : i < l.length), wr.cell? ⟨b, off + i, none⟩ = some (.int .i64 l[i]))) ∧ J pre wr ∧ Hid ((pre.map (·.1)).reverse = runsR (l.take i) ∧ ∀ h : i < l.length, Shut (runsR (l.take i)) l[i])) (fun iv _ => N - (intOf iv).toNat)
  case atStart => exact ⟨0, [], Nat.zero_le _, rfl, ⟨hcW, HLW⟩, h0, Lib.hid ⟨rfl, fun _ y r h => by cases h⟩⟩
  case round =>
    obtain ⟨i, pre, hi, rfl, ⟨hc, HL⟩, hJp, HR⟩ := hrel
    by_cases hlt : i < N
    · have hil : i < l.length := by have := HN.out; omega
      have hpe := HP0.out (by omega)
      have hx := HL.out i hil
      obtain ⟨x, hxe⟩ : ∃ x, x = l[i] := ⟨_, rfl⟩
      rw [← hxe] at hx
      have HX := Lib.hid hxe
      have HPE := Lib.hid hpe
      rw [hpe] at hc
      have HJP := Lib.hid hJp
      clear hxe hpe hJp
      gi_wp2
      gi_loopw [4] (fun mv wk => ∃ m q : Nat, 1 ≤ m ∧ m ≤ 256 ∧ i + m ≤ N ∧ mv = .int .i64 m ∧ wk = wr.drewN q ∧ Hid (∀ j, (h : j < l.length) → i ≤ j → j < i + m → l[j] = x)) (fun mv _ => 256 - (intOf mv).toNat)
      case atStart => exact ⟨1, 0, Nat.le_refl _, by omega, by omega, rfl, rfl, Lib.hid (fun j h h1 h2 => by
        have hij : i = j := by omega
        subst hij
        exact HX.out.symm)⟩
      case round =>
        obtain ⟨m, q, hm1, hm2, him, rfl, rfl, HA⟩ := hrel
        by_cases hgo : m < 256 ∧ ∃ h : i + m < l.length, l[i + m] = x
        · obtain ⟨hm, himl, hye⟩ := hgo
          have hin : i + m < N := by have := HN.out; omega
          have hy := HL.out (i + m) himl
          rw [hye] at hy
          have HA2 := Lib.hid (show ∀ j, (h : j < l.length) → i ≤ j → j < i + (m + 1) → l[j] = x from fun j h h1 h2 => by
            by_cases e : i + m = j
            · subst e; exact hye
            · exact HA.out j h h1 (by omega))
          have hd1 : decide ((m : Int) < 256) = true := decide_eq_true (by omega)
          have hd2 : decide ((i : Int) + (m : Int) < (N : Int)) = true := decide_eq_true (by omega)
          have hbe : (x == x) = true := by simp
          clear hye
          refine wpIn_seq (wpIn_seq ?_)
          gi_quiet (fail)
          gi_wp2
          go_roundw
          case rel => exact ⟨m + 1, q + nq, by omega, by omega, by omega, by go_num, rfl, HA2⟩
          case measure => simp [intOf]; omega
        · have hsc := runs_scan l i m x hm1 hm2 (by have := HN.out; omega) HA.out (by rw [HX.out]; exact HR.out.2 hil)
          have HSH := Lib.hid (show ∀ h : i + m < l.length, Shut (runsR (l.take (i + m))) l[i + m] from fun h y r e => by
            rw [hsc] at e
            injection e with e1 e2
            subst e1
            rintro ⟨h1, h2⟩
            exact hgo ⟨h2, h, h1.symm⟩)
          have hlen : pre.length < (runsR l).length := by
            have h1 := runs_len_take l (i + m)
            have h2 := congrArg List.length HR.out.1
            rw [hsc] at h1
            simp only [List.length_reverse, List.length_map, List.length_cons] at h1 h2
            omega
          have hmem : x ∈ l := by rw [HX.out]; exact List.getElem_mem hil
          have HSC := Lib.hid hsc
          have hJd : J pre (wr.drewN q) := hJ pre wr _ none HJP.out ⟨rfl, rfl, rfl, Nat.le_refl _, fun _ _ _ => rfl⟩ (fun _ h => by cases h)
          have HXC := Lib.hid (show ∃ r : RunS l, r.1 = (x, m) from ⟨⟨(x, m), ⟨hm1, hm2⟩, hmem⟩, rfl⟩)
          have HREST : ∀ nq : Nat, ∃ r : RunS l, r.1 = (x, m) ∧ J pre (wr.drewN (q + nq)) := fun nq => by
            obtain ⟨r, hr⟩ := HXC.out
            exact ⟨r, hr, hJ pre _ _ none hJd ⟨rfl, rfl, rfl, Nat.le_refl _, fun _ _ _ => rfl⟩ (fun _ h => by cases h)⟩
          have HRS := Lib.hid HREST
          clear hsc hmem hJd HREST HXC
          by_cases hm : m < 256
          · have hd1 : decide ((m : Int) < 256) = true := decide_eq_true (by omega)
            by_cases hin : i + m < N
            · have himl : i + m < l.length := by have := HN.out; omega
              have hy := HL.out (i + m) himl
              obtain ⟨y, hye⟩ : ∃ y, y = l[i + m] := ⟨_, rfl⟩
              rw [← hye] at hy
              have hbe : (y == x) = false := by rw [beq_eq_false_iff_ne]; intro e; exact hgo ⟨hm, himl, by rw [← hye, e]⟩
              have hd2 : decide ((i : Int) + (m : Int) < (N : Int)) = true := decide_eq_true (by omega)
              clear hye hgo
              refine wpIn_seq (wpIn_seq ?_)
              gi_quiet (fail)
              obtain ⟨r, hr, hJr⟩ := HRS.out nq
              have hrv : runV r = .agg #[.int .i64 x, .int .i64 (m : Int)] := by simp [runV, hr]
              obtain ⟨fn, tmps, assign, body, hy2, hR⟩ := hY pre r _ hJr hlen
              rw [hrv] at hy2
              gi_wp2
              refine hR.mono ?_
              rintro e W3 (⟨rfl, hJ3, hk3⟩ | ⟨rfl, hJx3⟩)
              · have hc3 := hk3 _ _ _ hSl (show (wr.drewN (q + nq)).cell? ⟨lb, 0, none⟩ = _ from hc)
                have HL3 := Lib.hid (show ∀ i (h : i < l.length), W3.cell? ⟨b, off + i, none⟩ = some (.int .i64 l[i]) from fun i h => hk3 _ _ _ hSb (show (wr.drewN (q + nq)).cell? _ = _ from HL.out i h))
                gi_wp2
                go_roundw
                case rel => exact ⟨i + m, pre ++ [r], by omega, by go_num, ⟨by rw [HPE.out]; exact hc3, HL3⟩, hJ3, Lib.hid ⟨by
                  rw [List.map_append, List.reverse_append, HSC.out, HR.out.1]; simp [hr], HSH.out⟩⟩
                case measure => simp [intOf]; omega
              · gi_wp2
                refine bodyPost_ret (results_none rfl _ _ _) rfl ?_
                exact ⟨⟨_, rfl⟩, .inr ⟨_, trivial, hJx3⟩⟩
            · have hd2 : decide ((i : Int) + (m : Int) < (N : Int)) = false := decide_eq_false (by omega)
              clear hgo
              refine wpIn_seq (wpIn_seq ?_)
              gi_quiet (fail)
              obtain ⟨r, hr, hJr⟩ := HRS.out nq
              have hrv : runV r = .agg #[.int .i64 x, .int .i64 (m : Int)] := by simp [runV, hr]
              obtain ⟨fn, tmps, assign, body, hy2, hR⟩ := hY pre r _ hJr hlen
              rw [hrv] at hy2
              gi_wp2
              refine hR.mono ?_
              rintro e W3 (⟨rfl, hJ3, hk3⟩ | ⟨rfl, hJx3⟩)
              · have hc3 := hk3 _ _ _ hSl (show (wr.drewN (q + nq)).cell? ⟨lb, 0, none⟩ = _ from hc)
                have HL3 := Lib.hid (show ∀ i (h : i < l.length), W3.cell? ⟨b, off + i, none⟩ = some (.int .i64 l[i]) from fun i h => hk3 _ _ _ hSb (show (wr.drewN (q + nq)).cell? _ = _ from HL.out i h))
                gi_wp2
                go_roundw
                case rel => exact ⟨i + m, pre ++ [r], by omega, by go_num, ⟨by rw [HPE.out]; exact hc3, HL3⟩, hJ3, Lib.hid ⟨by
                  rw [List.map_append, List.reverse_append, HSC.out, HR.out.1]; simp [hr], HSH.out⟩⟩
                case measure => simp [intOf]; omega
              · gi_wp2
                refine bodyPost_ret (results_none rfl _ _ _) rfl ?_
                exact ⟨⟨_, rfl⟩, .inr ⟨_, trivial, hJx3⟩⟩
          · have hd1 : decide ((m : Int) < 256) = false := decide_eq_false (by omega)
            clear hgo
            refine wpIn_seq (wpIn_seq ?_)
            gi_quiet (fail)
            obtain ⟨r, hr, hJr⟩ := HRS.out nq
            have hrv : runV r = .agg #[.int .i64 x, .int .i64 (m : Int)] := by simp [runV, hr]
            obtain ⟨fn, tmps, assign, body, hy2, hR⟩ := hY pre r _ hJr hlen
            rw [hrv] at hy2
            gi_wp2
            refine hR.mono ?_
            rintro e W3 (⟨rfl, hJ3, hk3⟩ | ⟨rfl, hJx3⟩)
            · have hc3 := hk3 _ _ _ hSl (show (wr.drewN (q + nq)).cell? ⟨lb, 0, none⟩ = _ from hc)
              have HL3 := Lib.hid (show ∀ i (h : i < l.length), W3.cell? ⟨b, off + i, none⟩ = some (.int .i64 l[i]) from fun i h => hk3 _ _ _ hSb (show (wr.drewN (q + nq)).cell? _ = _ from HL.out i h))
              gi_wp2
              go_roundw
              case rel => exact ⟨i + m, pre ++ [r], by omega, by go_num, ⟨by rw [HPE.out]; exact hc3, HL3⟩, hJ3, Lib.hid ⟨by
                rw [List.map_append, List.reverse_append, HSC.out, HR.out.1]; simp [hr], HSH.out⟩⟩
              case measure => simp [intOf]; omega
            · gi_wp2
              refine bodyPost_ret (results_none rfl _ _ _) rfl ?_
              exact ⟨⟨_, rfl⟩, .inr ⟨_, trivial, hJx3⟩⟩
    · gi_wp2
      go_end0
      obtain rfl : i = N := by omega
      have h1 := HR.out.1
      rw [List.take_of_length_le (by have := HN.out; omega)] at h1
      exact ⟨⟨_, rfl⟩, .inl ⟨pre, h1, hJp⟩⟩


set_option maxRecDepth 100000 in
theorem runsIt_c (v : Value) (hv : ∃ p n c, v = .slice p n c) (W : World) : Calls Tryd.prog 32 #[v] W fun e w' => e = .returned (.func (.func 48) #[] #[.pointer (some ⟨W.heap.size, 0, none⟩)]) ∧ w' = W.alloc (.cells #[v] 23) := by
  obtain ⟨p, n, cp, rfl⟩ := hv
  go_enter Tryd.func32, Tryd.ntmps32
  go_wp2
  go_ret
  exact ⟨rfl, rfl⟩

end Go.Proofs.YtjgdkfgcfningaaDoor
