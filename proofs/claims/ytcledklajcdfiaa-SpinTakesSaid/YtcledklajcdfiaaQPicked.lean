/-
  Which pick comes next, of package spin; and all of a play, in the order of its picks.
  Conditions: the play lies so, and the picks.
-/
import Derived.Test.YtcledklajcdfiaaQTurn
import Derived.Test.YtcledklajcdfiaaRange
namespace Go.Proofs.Ytcledklajcdfiaa
open Go.RowKit Go.Shelf
attribute [local go_sem] Oper.semAt_some

/-- Is somebody there who is picked, and not done? -/
def okPick (n : Nat) (ss : List SpM) (p : Int) : Bool := decide (0 ≤ p) && decide (p < (n : Int)) && !decide ((ss.getD p.toNat dS).p = 5)
/-- The first such pick, from one on. -/
def pickF (n : Nat) (ss : List SpM) : List Int → Nat
  | [] => 0
  | p :: r => if okPick n ss p = true then 0 else pickF n ss r + 1
def pickAt (n : Nat) (ss : List SpM) (ps : List Int) (i : Nat) : Nat := i + pickF n ss (ps.drop i)
theorem pickF_le (n : Nat) (ss : List SpM) : ∀ l : List Int, pickF n ss l ≤ l.length
  | [] => Nat.le_refl _
  | p :: r => by
    have := pickF_le n ss r
    simp only [pickF, List.length_cons]; split <;> omega
theorem pickAt_le (n : Nat) (ss : List SpM) (ps : List Int) (i : Nat) (hi : i ≤ ps.length) : pickAt n ss ps i ≤ ps.length := by
  have := pickF_le n ss (ps.drop i)
  rw [List.length_drop] at this
  unfold pickAt; omega
theorem pickAt_end (n : Nat) (ss : List SpM) (ps : List Int) (i : Nat) (hi : ps.length ≤ i) : pickAt n ss ps i = i := by
  unfold pickAt; rw [List.drop_eq_nil_of_le hi]; rfl
theorem pickAt_yes {n : Nat} {ss : List SpM} {ps : List Int} {i : Nat} (hi : i < ps.length) (h : okPick n ss ps[i] = true) : pickAt n ss ps i = i := by
  unfold pickAt; rw [List.drop_eq_getElem_cons hi, pickF, if_pos h]; rfl
theorem pickAt_no {n : Nat} {ss : List SpM} {ps : List Int} {i : Nat} (hi : i < ps.length) (h : okPick n ss ps[i] = false) : pickAt n ss ps i = pickAt n ss ps (i + 1) := by
  unfold pickAt; rw [List.drop_eq_getElem_cons hi, pickF, if_neg (by rw [h]; decide)]; omega
/-- All of a play, and who comes to hold a lock. -/
def playR (ls : List Bool) (n : Nat) : List Int → PlM → List Int → PlM × List Int
  | [], P, h => (P, h)
  | p :: r, P, h => if okPick n P.ss p = true then playR ls n r (turnP ls P p.toNat) (if ((turnP ls P p.toNat).ss.getD p.toNat dS).p = 3 then h ++ [p] else h) else playR ls n r P h
theorem pickF_ok (n : Nat) (ss : List SpM) : ∀ (l : List Int) (h : pickF n ss l < l.length), okPick n ss l[pickF n ss l] = true
  | [], h => by cases h
  | p :: r, h => by
    by_cases hp : okPick n ss p = true
    · have e : pickF n ss (p :: r) = 0 := by rw [pickF, if_pos hp]
      simp only [e, List.getElem_cons_zero]
      exact hp
    · have e : pickF n ss (p :: r) = pickF n ss r + 1 := by rw [pickF, if_neg hp]
      simp only [e, List.getElem_cons_succ]
      have hl : pickF n ss r < r.length := by rw [e] at h; simpa using h
      exact pickF_ok n ss r hl
theorem pickAt_ok {n : Nat} {ss : List SpM} {ps : List Int} {i : Nat} (h : pickAt n ss ps i < ps.length) : okPick n ss ps[pickAt n ss ps i] = true := by
  have hl : pickF n ss (ps.drop i) < (ps.drop i).length := by
    rw [List.length_drop]; unfold pickAt at h; omega
  have := pickF_ok n ss (ps.drop i) hl
  rw [List.getElem_drop] at this
  exact this
theorem playR_skip (ls : List Bool) (n : Nat) (P : PlM) (h : List Int) : ∀ l : List Int, playR ls n l P h = playR ls n (l.drop (pickF n P.ss l)) P h
  | [] => rfl
  | p :: r => by
    by_cases hp : okPick n P.ss p = true
    · rw [pickF, if_pos hp]; rfl
    · rw [pickF, if_neg hp, List.drop_succ_cons]
      rw [← playR_skip ls n P h r]
      simp only [playR, if_neg hp]
theorem playR_at (ls : List Bool) (n : Nat) (P : PlM) (h : List Int) (ps : List Int) (i : Nat) : playR ls n (ps.drop i) P h = playR ls n (ps.drop (pickAt n P.ss ps i)) P h := by
  rw [playR_skip ls n P h (ps.drop i), List.drop_drop]
  rfl
theorem playR_turn {ls : List Bool} {n : Nat} {P : PlM} {h : List Int} {ps : List Int} {i : Nat} (hi : i < ps.length) (ho : okPick n P.ss ps[i] = true) :
    playR ls n (ps.drop i) P h = playR ls n (ps.drop (i + 1)) (turnP ls P ps[i].toNat) (if ((turnP ls P ps[i].toNat).ss.getD ps[i].toNat dS).p = 3 then h ++ [ps[i]] else h) := by
  rw [List.drop_eq_getElem_cons hi, playR, if_pos ho]
theorem okPick_iff {n : Nat} {ss : List SpM} {p : Int} (h : okPick n ss p = true) : ∃ k : Nat, p = (k : Int) ∧ k < n ∧ (ss.getD k dS).p ≠ 5 := by
  simp only [okPick, Bool.and_eq_true, decide_eq_true_eq, Bool.not_eq_true', decide_eq_false_iff_not] at h
  obtain ⟨⟨h1, h2⟩, h3⟩ := h
  exact ⟨p.toNat, by omega, by omega, h3⟩

set_option maxRecDepth 100000 in
set_option maxHeartbeats 4000000 in
theorem qpicked (B r g n : Nat) (ls : List Bool) (P : PlM) (x y : Value) (W : World) (h : PlayIn W B r g ls P x y n) (hn : n ≤ 1099511627776) (pp : Option Addr) (np dp : Nat) (ps : List Int) (hp : NumsAt W .i64 (.slice pp np dp) ps) (hnp : np ≤ 1099511627776) (i : Nat) (hi : i ≤ np) :
    Calls Try.prog 68 #[.pointer (some ⟨r, 0, none⟩), .slice pp np dp, .int .i64 (i : Int)] W fun e w' => e = .returned (.int .i64 ((pickAt n P.ss ps i : Nat) : Int)) ∧ w' = W := by
  have hl : np = ps.length := by obtain ⟨q, cap, e, _⟩ := hp; injection e
  obtain ⟨q, cap, e, hc⟩ := hp
  injection e with e1 e2 e3
  subst e1
  obtain ⟨k0, k1, k2, k3⟩ := h.box.cells
  have HH := Lib.hid h
  have HC := Lib.hid hc
  have HL := Lib.hid hl
  have HN := Lib.hid hn
  clear h hc e2 e3 hl k0 k1 k2
  go_enter Try.func68, Try.ntmps68
  go_wp2_with fail
  refine (wpIn_wide (n := 9)).1 (wpIn_scope ((wpIn_wide (n := 9)).2 ?_))
  go_wp2_with fail
  refine wp_label ?_
  go_wp2_with fail
  have HA0 := Lib.hid (rfl : pickAt n P.ss ps i = pickAt n P.ss ps i)
  go_loop [2, 7, 16] (fun iv _ _ => ∃ j : Nat, i ≤ j ∧ j ≤ np ∧ iv = .int .i64 j ∧ Hid (pickAt n P.ss ps j = pickAt n P.ss ps i)) (fun iv _ _ => np - (intOf iv).toNat)
  case atStart => exact ⟨i, Nat.le_refl _, hi, rfl, HA0⟩
  case round =>
    obtain ⟨j, hj, hjn, rfl, HA⟩ := hrel
    clear HA0
    by_cases hlt : j < np
    · have hjl : j < ps.length := by have := HL.out; omega
      obtain ⟨b, off, rfl, hcs⟩ := HC.out (by intro e; rw [e] at hjl; cases hjl)
      have hx := hcs j hjl
      obtain ⟨p, hpe⟩ : ∃ p, p = ps[j] := ⟨_, rfl⟩
      rw [← hpe] at hx
      have HP := Lib.hid hpe
      clear hcs hpe
      by_cases hp0 : p < 0
      · have HN2 := Lib.hid (show pickAt n P.ss ps (j + 1) = pickAt n P.ss ps i from by
          rw [← HA.out, pickAt_no hjl (by rw [← HP.out]; simp [okPick]; omega)])
        go_wp2
        go_round
        case rel => exact ⟨j + 1, by omega, by omega, by go_num, HN2⟩
        case measure => simp [intOf]; omega
      · by_cases hpn : p < (n : Int)
        · obtain ⟨k, rfl⟩ := Int.eq_ofNat_of_zero_le (Int.not_lt.1 hp0)
          have hkn : k < n := by omega
          obtain ⟨⟨c0, c1, c2⟩, hfz, hg⟩ := HH.out.cell hkn
          have hq1 : ¬ (n : Int) ≤ (k : Int) := by omega
          by_cases h5 : (P.ss.getD k dS).p = 5
          · rw [h5] at c1
            have HN2 := Lib.hid (show pickAt n P.ss ps (j + 1) = pickAt n P.ss ps i from by
              rw [← HA.out, pickAt_no hjl (by rw [← HP.out]; simp only [okPick, Int.toNat_natCast, h5]; simp)])
            clear h5 hfz hg c0 c2
            go_wp2
            go_round
            case rel => exact ⟨j + 1, by omega, by omega, by go_num, HN2⟩
            case measure => simp [intOf]; omega
          · have HN2 := Lib.hid (show pickAt n P.ss ps i = j from by
              rw [← HA.out, pickAt_yes hjl (by rw [← HP.out]; simp only [okPick, Int.toNat_natCast, h5]; simp; omega)])
            obtain ⟨q, hq⟩ : ∃ q, q = (P.ss.getD k dS).p := ⟨_, rfl⟩
            rw [← hq] at c1 h5
            have hq5 : (q == 5) = false := by rw [beq_eq_false_iff_ne]; exact h5
            clear h5 hq hfz hg c0 c2
            go_wp2
            go_ret
            exact ⟨ret_int (by rw [HN2.out]), rfl⟩
        · have HN2 := Lib.hid (show pickAt n P.ss ps (j + 1) = pickAt n P.ss ps i from by
            rw [← HA.out, pickAt_no hjl (by rw [← HP.out]; simp [okPick, hpn])])
          go_wp2
          go_round
          case rel => exact ⟨j + 1, by omega, by omega, by go_num, HN2⟩
          case measure => simp [intOf]; omega
    · have HN2 := Lib.hid (show pickAt n P.ss ps i = j from by rw [← HA.out, pickAt_end n P.ss ps j (by have := HL.out; omega)])
      go_wp2
      go_ret
      exact ⟨ret_int (by rw [HN2.out]), rfl⟩

end Go.Proofs.Ytcledklajcdfiaa
