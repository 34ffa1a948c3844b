/-
  The iterator over whole rounds tells as many as there are.
  Conditions: who ranges over them leaves the picks as they are.
-/
import Derived.Test.YtmmeiclclapmfaaRange
import Derived.Test.YtmmeiclclapmfaaDFairC
import Derived.Shelf.RegionOpen
import Derived.WalkKit
import Derived.OwnWalkIn
import Derived.TacticsInMore
import Derived.LoopNIn
import Derived.LoopIn
import Derived.Deep.RegionHeld
namespace Go.Proofs.Ytmmeiclclapmfaa
open Go.RowKit Go.Shelf
attribute [local go_sem] Oper.semAt_some

/-- The cells outside of some blocks stay as they are. -/
def KeepsCells (S : Nat → Prop) (W W' : World) : Prop := ∀ b o v, ¬ S b → W.cell? ⟨b, o, none⟩ = some v → W'.cell? ⟨b, o, none⟩ = some v
theorem KeepsCells.refl (S : Nat → Prop) (W : World) : KeepsCells S W W := fun _ _ _ _ h => h
theorem KeepsCells.trans {S : Nat → Prop} {X Y Z : World} (h : KeepsCells S X Y) (k : KeepsCells S Y Z) : KeepsCells S X Z := fun b o v hb hx => k b o v hb (h b o v hb hx)
theorem KeepsCells.keeps {S : Nat → Prop} {X Y : World} (h : Keeps S X Y) : KeepsCells S X Y := fun b _ _ hb hx => h.cell hx (by simpa using hb)
theorem KeepsCells.turn (S : Nat → Prop) (W : World) (l : Nat) (o o' : Obj) (hl : W.heap[l]? = some o) (ho : o.isCells = false) (_ : o.isWalk = false) : KeepsCells S W (W.putObj l o') := fun b i v _ h => by
  by_cases e : b = l
  · subst e
    simp only [World.cell?, hl] at h
    cases o <;> simp_all [Obj.isCells]
  · have hp : (W.putObj l o').heap[b]? = W.heap[b]? := World.putObj_heap_other e
    simp only [World.cell?] at h ⊢
    rw [hp]
    exact h

/-- The first j CPUs are among the first m of these, and not all of them among less. -/
def FirstM (j m : Nat) (L : List Int) : Prop := m ≤ L.length ∧ (∀ i, i < j → ((i : Nat) : Int) ∈ L.take m) ∧ (0 < m → ∃ i, i < j ∧ ((i : Nat) : Int) ∉ L.take (m - 1)) ∧ (0 < j → 0 < m)
theorem FirstM.zero (L : List Int) : FirstM 0 0 L := ⟨Nat.zero_le _, fun _ h => absurd h (Nat.not_lt_zero _), fun h => absurd h (Nat.lt_irrefl 0), fun h => h⟩
theorem mem_take_mono {L : List Int} {x : Int} {a b : Nat} (hab : a ≤ b) (h : x ∈ L.take a) : x ∈ L.take b := by
  have e : (L.take b).take a = L.take a := by rw [List.take_take, Nat.min_eq_left hab]
  exact List.mem_of_mem_take (i := a) (by rw [e]; exact h)
theorem FirstM.next {j m q : Nat} {L : List Int} (h : FirstM j m L) (hq : q < L.length) (he : L[q] = (j : Int)) (hn : ((j : Nat) : Int) ∉ L.take q) : FirstM (j + 1) (max m (q + 1)) L := by
  obtain ⟨h1, h2, h3, h4⟩ := h
  refine ⟨by omega, fun i hi => ?_, fun _ => ?_, fun _ => by omega⟩
  · by_cases e : i = j
    · subst e
      rw [← he]
      refine mem_take_mono (Nat.le_max_right m (q + 1)) ?_
      rw [List.mem_iff_getElem]
      exact ⟨q, by rw [List.length_take]; omega, by rw [List.getElem_take]⟩
    · exact mem_take_mono (Nat.le_max_left _ _) (h2 i (by omega))
  · by_cases hmq : m ≤ q + 1
    · rw [Nat.max_eq_right hmq]
      exact ⟨j, by omega, hn⟩
    · rw [Nat.max_eq_left (by omega)]
      obtain ⟨i, hi, hh⟩ := h3 (by omega)
      exact ⟨i, by omega, hh⟩
theorem FirstM.round {c m : Nat} {L : List Int} (hc : 0 < c) (h : FirstM c m L) : 0 < m ∧ m ≤ L.length ∧ roundsL c L = roundsL c (L.drop m) + 1 := by
  obtain ⟨h1, h2, h3, h4⟩ := h
  have hm := h4 hc
  refine ⟨hm, h1, rounds_one hm h1 (wholeB_iff.2 h2) ?_⟩
  cases e : wholeB c (L.take (m - 1)) with
  | false => rfl
  | true => obtain ⟨i, hi, hh⟩ := h3 hm; exact absurd (wholeB_iff.1 e i hi) hh
theorem no_round {c j : Nat} {L : List Int} (hj : j < c) (h : ((j : Nat) : Int) ∉ L) : roundsL c L = 0 := rounds_zero (by
  cases e : wholeB c L with
  | false => rfl
  | true => exact absurd (wholeB_iff.1 e j hj) h)
theorem first_at {L : List Int} {x : Int} (h : x ∈ L) : ∃ q, ∃ hq : q < L.length, L[q] = x ∧ x ∉ L.take q := by
  induction L with
  | nil => cases h
  | cons y r ih =>
    by_cases e : y = x
    · exact ⟨0, by simp, by simpa using e, by simp⟩
    · have hr : x ∈ r := by rcases List.mem_cons.1 h with h | h
                            · exact absurd h.symm e
                            · exact h
      obtain ⟨q, hq, h1, h2⟩ := ih hr
      refine ⟨q + 1, by simpa using hq, by simpa using h1, ?_⟩
      rw [List.take_succ_cons, List.mem_cons]
      rintro (h | h)
      · exact e h.symm
      · exact h2 h

theorem seq_size (w : World) : (sizeOf (Try.prog.elem 22)).run Try.prog w = .ok 1 w := by go_simp
theorem seq_slice (q : Option Addr) (n c m : Nat) (hm : m ≤ c) (w : World) : (Instr.slice 22 (.slice q n c) none (some (.int .i64 (m : Int))) (some (.int .i64 (m : Int)))).run Try.prog w = .ok (.slice q m m) w := by
  have := run_slice_hm (P := Try.prog) w 22 q n c Try.underlying22 .i64 .i64 (m : Int) (m : Int) (by omega) (by omega) (by omega)
  rw [this]
  have : Option.map (fun x : Addr => x.add 0) q = q := by cases q <;> simp [Addr.add_zero']
  simp [sliced, Result.andThen, seq_size, this]
theorem seq_rest (q : Option Addr) (n c m : Nat) (hm : m ≤ n) (w : World) : (Instr.slice 22 (.slice q n c) (some (.int .i64 (m : Int))) none none).run Try.prog w = .ok (.slice (if c = m then q else q.map (·.add m)) (n - m) (c - m)) w := by
  have := run_slice_l (P := Try.prog) w 22 q n c Try.underlying22 .i64 (m : Int) (by omega) (by omega)
  rw [this]
  simp [sliced, Result.andThen, seq_size]

set_option maxRecDepth 100000 in
set_option maxHeartbeats 4000000 in
theorem rounds_stops (n : Nat) (hn : 1 ≤ n) (S : Nat → Prop) (lb cb b off cap k : Nat) (hk1 : 1 ≤ k) (hk8 : k ≤ 8) (p0 : Option Addr) (l : List Int) (w : World) (hSc : ¬ S cb) (hSb : ¬ S b) (hmax : l.length ≤ 1099511627776) (hcap : l.length ≤ cap) (hp0 : 0 < l.length → p0 = some ⟨b, off, none⟩)
    (hc : w.cell? ⟨lb, 0, none⟩ = some (.slice p0 l.length cap)) (hcc : w.cell? ⟨cb, 0, none⟩ = some (.int .i64 (k : Int))) (hl : ∀ i (h : i < l.length), w.cell? ⟨b, off + i, none⟩ = some (.int .i64 l[i])) :
    SeqBound Fence.wide n Try.prog 39 #[] #[.pointer (some ⟨lb, 0, none⟩), .pointer (some ⟨cb, 0, none⟩)] (fun s : Value => #[s]) (KeepsCells S) (fun xs => xs.length = roundsL k l) (fun _ => True) (roundsL k l) w := fun lw J Jx W hW hJ hJx hY h0 => by
  refine callsIn_of_wp Try.func39 rfl trivial ?_ rfl
  simp only [Try.ntmps39, List.size_toArray, List.length_cons, List.length_nil, Nat.reduceAdd, Nat.reduceSub, Array.replicate_succ, Array.replicate_zero, List.push_toArray, List.append_toArray, List.nil_append, List.cons_append]
  have hcW := (hW.cell (World.block_lt_of_cell? w _ hc)).trans hc
  have hccW := (hW.cell (World.block_lt_of_cell? w _ hcc)).trans hcc
  have HLW := Lib.hid (show ∀ i (h : i < l.length), W.cell? ⟨b, off + i, none⟩ = some (.int .i64 l[i]) from fun i h => (hW.cell (World.block_lt_of_cell? w _ (hl i h))).trans (hl i h))
  clear hc hcc hl
  refine wpIn_scope ?_
  gi_wp2
  refine wpIn_label ?_
  gi_wp2
  gi_loopw [4] (fun fv wr => ∃ (p c : Nat) (q : Option Addr) (pre : List Value), p ≤ l.length ∧ l.length - p ≤ c ∧ fv = .slice q (l.length - p) c ∧ (p < l.length → q = some ⟨b, off + p, none⟩) ∧ (wr.cell? ⟨cb, 0, none⟩ = some (.int .i64 (k : Int)) ∧ ∀ i (h : i < l.length), wr.cell? ⟨b, off + i, none⟩ = some (.int .i64 l[i])) ∧ J pre wr ∧ pre.length + roundsL k (l.drop p) = roundsL k l) (fun fv _ => match fv with | .slice _ n _ => n | _ => 0)
  case atStart => exact ⟨0, cap, p0, [], Nat.zero_le _, hcap, rfl, hp0, ⟨hccW, HLW.out⟩, h0, by simp⟩
  case round =>
    obtain ⟨p, c, q, pre, hp, hc, rfl, hq, ⟨hcc, hl⟩, hJp, heq⟩ := hrel
    have HLR := Lib.hid hl
    have HEQ := Lib.hid heq
    clear hl heq
    gi_wp2
    obtain ⟨nn, hnn⟩ : ∃ x, x = l.length - p := ⟨_, rfl⟩
    rw [← hnn] at hc ⊢
    have HLL := Lib.hid (show (l.drop p).length = nn by rw [List.length_drop, hnn])
    have hpn : p < l.length ∨ nn = 0 := by omega
    have hnl : nn ≤ 1099511627776 := by omega
    have HNA := Lib.hid (show NumsAt wr .i64 (.slice q nn c) (l.drop p) from ⟨q, c, by rw [HLL.out], fun hne => by
      have hlt : p < l.length := by
        rcases hpn with h | h
        · exact h
        · exact absurd (List.eq_nil_of_length_eq_zero (by rw [HLL.out, h])) hne
      exact ⟨b, off + p, hq hlt, fun i hi => by rw [List.getElem_drop, Nat.add_assoc]; exact HLR.out (p + i) (by rw [HLL.out] at hi; omega)⟩⟩)
    have HNN := Lib.hid hnn
    have HQ := Lib.hid hq
    clear hnn hq
    gi_loop [5, 10] (fun mv jv => ∃ j m : Nat, j ≤ k ∧ m ≤ nn ∧ jv = .int .i64 j ∧ mv = .int .i64 m ∧ FirstM j m (l.drop p)) (fun _ jv => k - (intOf jv).toNat)
    case atStart => exact ⟨0, 0, Nat.zero_le _, Nat.zero_le _, rfl, rfl, FirstM.zero _⟩
    case round =>
      obtain ⟨j, m, hj, hmn, rfl, rfl, hF⟩ := hrel
      by_cases hlt : j < k
      · by_cases hin : ((j : Nat) : Int) ∈ l.drop p
        · obtain ⟨a, ha, hae, han⟩ := first_at hin
          have hidx := index_yes _ (l.drop p) (j : Int) a wr HNA.out (by rw [HLL.out]; omega) ha hae han
          have HFN := Lib.hid (hF.next ha hae han)
          have hann : a < nn := by rw [← HLL.out]; exact ha
          clear hin ha hae han hF
          gi_wp2_with fail
          refine ⟨trivial, (callsIn_wide.2 hidx).mono ?_⟩
          rintro e w' ⟨rfl, rfl⟩
          have HV := Lib.hid (show (if (m : Int) < (a : Int) + 1 then (a : Int) + 1 else (m : Int)) = ((max m (a + 1) : Nat) : Int) by split <;> omega)
          clear hidx
          gi_wp2
          go_round
          case rel => exact ⟨j + 1, max m (a + 1), by omega, by omega, by go_num, by rw [HV.out], HFN.out⟩
          case measure => simp [intOf]; omega
        · have hidx := index_no _ (l.drop p) (j : Int) wr HNA.out (by rw [HLL.out]; omega) hin
          have HZ := Lib.hid (no_round hlt hin)
          gi_wp2_with fail
          refine ⟨trivial, (callsIn_wide.2 hidx).mono ?_⟩
          rintro e w' ⟨rfl, rfl⟩
          clear hidx hin
          gi_wp2
          simp only [Exit.noGoto_normal]
          go_end0
          exact ⟨⟨_, rfl⟩, .inl ⟨pre, by have := HEQ.out; rw [HZ.out] at this; simpa using this, hJp⟩⟩
      · obtain rfl : j = k := by omega
        obtain ⟨hm0, hmL, hrd⟩ := hF.round hk1
        rw [HLL.out] at hmL
        have HRD := Lib.hid hrd
        have hlen : pre.length < roundsL j l := by rw [← HEQ.out, hrd]; omega
        have hpl : p < l.length := by rcases hpn with h | h <;> omega
        have hcut := seq_slice q nn c m (by omega)
        obtain ⟨q2, hq2⟩ : ∃ x, x = if c = m then q else q.map (·.add m) := ⟨_, rfl⟩
        have hrest := seq_rest q nn c m hmL
        rw [← hq2] at hrest
        have HQ2 := Lib.hid hq2
        clear hrd hq2 hF
        obtain ⟨fn, tmps, assign, body, hy, hR⟩ := hY pre (.slice q m m) _ hJp hlen
        gi_wp2
        refine hR.mono ?_
        rintro e W3 (⟨rfl, hJ3, hk3⟩ | ⟨rfl, hJx3⟩)
        · have hc3 := hk3 _ _ _ hSc hcc
          have HL3 := Lib.hid (show ∀ i (h : i < l.length), W3.cell? ⟨b, off + i, none⟩ = some (.int .i64 l[i]) from fun i h => hk3 _ _ _ hSb (HLR.out i h))
          gi_wp2
          go_roundw
          case rel => exact ⟨p + m, c - m, q2, pre ++ [.slice q m m], by have := HNN.out; omega, by have := HNN.out; omega, by have := HNN.out; rw [show l.length - (p + m) = nn - m by omega], fun hlt => by
            have := HNN.out
            rw [HQ2.out, HQ.out hpl, if_neg (by omega)]
            simp [addr_add_off, Nat.add_assoc], ⟨hc3, HL3.out⟩, hJ3, by have := HEQ.out; rw [HRD.out, List.drop_drop] at this; simp; omega⟩
          case measure => have := HNN.out; simp; omega
        · gi_wp2
          simp only [Exit.noGoto_ret]
          refine bodyPost_ret (results_none rfl _ _ _) rfl ?_
          exact ⟨⟨_, rfl⟩, .inr ⟨_, trivial, hJx3⟩⟩

end Go.Proofs.Ytmmeiclclapmfaa
