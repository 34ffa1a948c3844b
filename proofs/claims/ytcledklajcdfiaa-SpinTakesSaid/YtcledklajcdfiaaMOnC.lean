/-
  What an access comes to, as the document has it: the words behind it, whether there was a fault, and its answer.
  Conditions: the memory lies in a variable, and its rows may be written.
-/
import Derived.Test.YtcledklajcdfiaaMOn3
namespace Go.Proofs.Ytcledklajcdfiaa
open Go.RowKit Go.Shelf

/-- Is the word there, and live? -/
def liveAt (ws : List Int) (ls : List Bool) (a : Int) : Bool := thereB ws.length a 1 && ls.getD a.toNat false
/-- The words behind an access, the fault, and the answer. -/
def accM (ws : List Int) (ls : List Bool) (f : Bool) (k a o n : Int) : List Int × Bool × (Int × Bool) :=
  if liveAt ws ls a = true then
    if k = 1 then (ws, f, (ws.getD a.toNat 0, true))
    else if k = 2 ∨ ws.getD a.toNat 0 = o then (ws.set a.toNat n, f, (ws.getD a.toNat 0, true))
    else (ws, f, (ws.getD a.toNat 0, false))
  else (ws, true, (0, false))
theorem accM_length (ws : List Int) (ls : List Bool) (f : Bool) (k a o n : Int) : (accM ws ls f k a o n).1.length = ws.length := by
  unfold accM
  split
  · split
    · rfl
    · split
      · simp
      · rfl
  · rfl
theorem thereB_iff {n : Nat} {a k : Int} : thereB n a k = true ↔ 1 ≤ k ∧ 0 ≤ a ∧ a ≤ (n : Int) - k := by
  simp [thereB, and_assoc]

/-- What a call leaves that makes an access of the memory that lies in block z. -/
def OnOk (B z gw cw gl cl : Nat) (ls : List Bool) (r : List Int × Bool × (Int × Bool)) (W : World) (e : Ending) (w' : World) : Prop :=
  e = .returned (.agg #[.int .u64 r.2.2.1, .bool r.2.2.2]) ∧ Keeps (fun k => k = z ∨ k = gw) W w' ∧
  (w'.cell? ⟨z, 0, none⟩ = some (.slice (some ⟨gw, 0, none⟩) r.1.length cw) ∧ w'.cell? ⟨z, 1, none⟩ = some (.slice (some ⟨gl, 0, none⟩) ls.length cl) ∧ w'.cell? ⟨z, 2, none⟩ = some (.bool r.2.1)) ∧
  (w'.frozen? ⟨z, 0, none⟩ = W.frozen? ⟨z, 0, none⟩ ∧ w'.frozen? ⟨z, 1, none⟩ = W.frozen? ⟨z, 1, none⟩ ∧ w'.frozen? ⟨z, 2, none⟩ = W.frozen? ⟨z, 2, none⟩) ∧
  w'.ownsRow B 22 1 (.slice (some ⟨gw, 0, none⟩) r.1.length cw) r.1.length (r.1.map (Value.int .u64)) ∧
  w'.ownsRow B 4 1 (.slice (some ⟨gl, 0, none⟩) ls.length cl) ls.length (ls.map Value.bool)

theorem own_cap {X : World} {B : Nat} {E : TypeId} {size : Nat} {p : Option Addr} {n cap : Nat} {xs : List Value} (h : X.ownsRow B E size (.slice p n cap) n xs) : n ≤ cap ∧ cap ≤ 9223372036854775807 := by
  rcases h.2 with ⟨h', h0⟩ | ⟨g, c, cur, h', _, _, h1, h2, _⟩
  · injection h' with _ e1 e2; omega
  · injection h' with _ e1 e2; unfold maxLen at h2; omega

theorem stores_row {p : Addr} {u : Value} {W X : World} (h : Stores p u W X) {B : Nat} {E : TypeId} {size : Nat} {v : Value} {n : Nat} {xs : List Value} (hr : W.ownsRow B E size v n xs) (hne : v.ownBlock ≠ some p.block) : X.ownsRow B E size v n xs :=
  h.keeps.row hr fun g hg e => hne (by rw [hg, e])
theorem stores_in {W X : World} {g a cap n : Nat} {B : Nat} {E : TypeId} {u : Value} {xs : List Value} (h : Stores ⟨g, a, none⟩ u W X) (hr : W.ownsRow B E 1 (.slice (some ⟨g, 0, none⟩) n cap) n xs) : X.ownsRow B E 1 (.slice (some ⟨g, 0, none⟩) n cap) n (xs.set a u) := by
  have h1 := (hr.stored a u).1
  exact owns_below h1 (by unfold Stores at h; simpa [World.setCell] using h)
theorem stores_frozen {p q : Addr} {u : Value} {W X : World} (h : Stores p u W X) (hq : q.block < W.heap.size) : X.frozen? q = W.frozen? q := by
  have h1 := Below.frozen h hq
  rw [h1]
  simp
theorem stores_here {p : Addr} {u v : Value} {W X : World} (h : Stores p u W X) (hc : W.cell? p = some v) : X.cell? p = some u :=
  (Below.cell h (World.block_lt_of_cell? W _ hc)).trans (World.cell?_setCell_same _ _ _ hc)
theorem stores_there {b o o' : Nat} {u v : Value} {W X : World} (h : Stores ⟨b, o, none⟩ u W X) (hne : o' ≠ o) (hc : W.cell? ⟨b, o', none⟩ = some v) : X.cell? ⟨b, o', none⟩ = some v :=
  (Below.cell h (World.block_lt_of_cell? W _ hc)).trans ((World.cell?_setCell_other _ _ _ _ (fun e => hne (congrArg Addr.off e).symm)).trans hc)

set_option maxHeartbeats 2000000 in
theorem on_c (k a o n : Int) (B z gw cw gl cl : Nat) (ws : List Int) (ls : List Bool) (f : Bool) (W : World) (hk1 : 1 ≤ k) (hk3 : k ≤ 3)
    (hz0 : W.cell? ⟨z, 0, none⟩ = some (.slice (some ⟨gw, 0, none⟩) ws.length cw)) (hz1 : W.cell? ⟨z, 1, none⟩ = some (.slice (some ⟨gl, 0, none⟩) ls.length cl)) (hz2 : W.cell? ⟨z, 2, none⟩ = some (.bool f)) (hfz : W.frozen? ⟨z, 2, none⟩ = false)
    (hrw : W.ownsRow B 22 1 (.slice (some ⟨gw, 0, none⟩) ws.length cw) ws.length (ws.map (Value.int .u64))) (hrl : W.ownsRow B 4 1 (.slice (some ⟨gl, 0, none⟩) ls.length cl) ls.length (ls.map Value.bool))
    (hlen : ls.length = ws.length) (hmax : ws.length ≤ 4096) (hzw : z ≠ gw) (hzl : z ≠ gl) (hwl : gw ≠ gl) :
    Calls Try.prog 64 #[.agg #[.int .i64 k, .int .i64 a, .int .u64 o, .int .u64 n], .pointer (some ⟨z, 0, none⟩)] W fun e w' => OnOk B z gw cw gl cl ls (accM ws ls f k a o n) W e w' := by
  have hcap := own_cap hrw
  -- a fault
  have fault : ∀ e w', liveAt ws ls a = false → e = .returned (.agg #[.int .u64 0, .bool false]) ∧ Stores ⟨z, 2, none⟩ (.bool true) W w' → OnOk B z gw cw gl cl ls (accM ws ls f k a o n) W e w' := by
    rintro e w' hl ⟨rfl, hs⟩
    have hz := World.block_lt_of_cell? W _ hz2
    rw [accM, if_neg (by rw [hl]; decide)]
    refine ⟨rfl, hs.keeps.sub fun q _ h => .inl h, ⟨stores_there hs (by omega) hz0, stores_there hs (by omega) hz1, stores_here hs hz2⟩, ⟨stores_frozen hs hz, stores_frozen hs hz, stores_frozen hs hz⟩, stores_row hs hrw ?_, stores_row hs hrl ?_⟩
    · simp [Value.ownBlock]; omega
    · simp [Value.ownBlock]; omega
  by_cases hth : thereB ws.length a 1 = true
  · obtain ⟨_, h0, h1⟩ := thereB_iff.1 hth
    obtain ⟨a, rfl⟩ := Int.eq_ofNat_of_zero_le h0
    have han : a < ws.length := by omega
    have hal : a < ls.length := by omega
    have hw0 : W.cell? ⟨gw, a, none⟩ = some (.int .u64 ws[a]) := by
      rw [hrw.cellAt a (by omega), List.getElem?_eq_getElem (by simpa using han)]; simp
    have hl0 : W.cell? ⟨gl, a, none⟩ = some (.bool ls[a]) := by
      rw [hrl.cellAt a (by omega), List.getElem?_eq_getElem (by simpa using hal)]; simp
    have hfw := hrw.frozenAt a
    have hz := World.block_lt_of_cell? W _ hz2
    have hg : ws.getD a 0 = ws[a] := by simp [List.getD, han]
    cases hb : ls[a] with
    | false =>
      rw [hb] at hl0
      exact (on_free a k o n z gw ws.length cw gl ls.length cl f ws[a] W hz0 hz1 hz2 hfz hw0 hfw han hlen hcap.1 hcap.2 hmax hl0).mono fun e w' h => fault e w' (by simp [liveAt, List.getD, hal, hb]) h
    | true =>
      rw [hb] at hl0
      have hlive : liveAt ws ls a = true := by simp [liveAt, List.getD, hal, hb, hth]
      -- nothing is written
      have still : ∀ (d : Bool) e w', accM ws ls f k a o n = (ws, f, (ws[a], d)) → e = .returned (.agg #[.int .u64 ws[a], .bool d]) ∧ Below W.heap.size W w' → OnOk B z gw cw gl cl ls (accM ws ls f k a o n) W e w' := by
        rintro d e w' he ⟨rfl, hs⟩
        rw [he]
        exact ⟨rfl, Keeps.of_below hs, ⟨below_cell hs hz0, below_cell hs hz1, below_cell hs hz2⟩, ⟨hs.frozen hz, hs.frozen hz, hs.frozen hz⟩, owns_below hrw hs, owns_below hrl hs⟩
      -- the word is written
      have done : ∀ e w', accM ws ls f k a o n = (ws.set a n, f, (ws[a], true)) → e = .returned (.agg #[.int .u64 ws[a], .bool true]) ∧ Stores ⟨gw, a, none⟩ (.int .u64 n) W w' → OnOk B z gw cw gl cl ls (accM ws ls f k a o n) W e w' := by
        rintro e w' he ⟨rfl, hs⟩
        rw [he]
        have hrow := stores_in hs hrw
        rw [← List.map_set] at hrow
        refine ⟨rfl, hs.keeps.sub fun q _ h => .inr h, ⟨?_, hs.cell hz1 hzw, hs.cell hz2 hzw⟩, ⟨hs.frozen hz hzw, hs.frozen hz hzw, hs.frozen hz hzw⟩, ?_, stores_row hs hrl ?_⟩
        · rw [List.length_set]; exact hs.cell hz0 hzw
        · rw [List.length_set]; exact hrow
        · simp [Value.ownBlock]; omega
      obtain rfl | rfl | rfl : k = 1 ∨ k = 2 ∨ k = 3 := by omega
      · refine (on_load a o n z gw ws.length cw gl ls.length cl f ws[a] W hz0 hz1 hz2 hfz hw0 hfw han hlen hcap.1 hcap.2 hmax hl0).mono fun e w' h => still true e w' ?_ h
        rw [accM, if_pos hlive, if_pos rfl, Int.toNat_natCast, hg]
      · refine (on_store a o n z gw ws.length cw gl ls.length cl f ws[a] W hz0 hz1 hz2 hfz hw0 hfw han hlen hcap.1 hcap.2 hmax hl0).mono fun e w' h => done e w' ?_ h
        rw [accM, if_pos hlive, if_neg (by decide), if_pos (.inl rfl), Int.toNat_natCast, hg]
      · by_cases ho : ws[a] = o
        · rw [ho] at hw0
          refine (on_swap_yes a o n z gw ws.length cw gl ls.length cl f W hz0 hz1 hz2 hfz hw0 hfw han hlen hcap.1 hcap.2 hmax hl0).mono fun e w' h => done e w' ?_ (by rw [ho]; exact h)
          rw [accM, if_pos hlive, if_neg (by decide), if_pos (.inr (by rw [Int.toNat_natCast, hg, ho])), Int.toNat_natCast, hg]
        · refine (on_swap_no a o n z gw ws.length cw gl ls.length cl f ws[a] W hz0 hz1 hz2 hfz hw0 hfw han hlen hcap.1 hcap.2 hmax hl0 ho).mono fun e w' h => still false e w' ?_ h
          rw [accM, if_pos hlive, if_neg (by decide), if_neg (by rw [Int.toNat_natCast, hg]; simp [ho]), Int.toNat_natCast, hg]
  · have hth' : thereB ws.length a 1 = false := by simpa using hth
    exact (on_out k a o n z _ ws.length cw _ ls.length cl f W hz0 hz1 hz2 hfz hmax hth').mono fun e w' h => fault e w' (by simp [liveAt, hth']) h

end Go.Proofs.Ytcledklajcdfiaa
