/-
  What holds at each pick of a play, of package seq, and what a pick does.
  Conditions: all that is there may be.
-/
import Derived.Test.YthkfjgfhaicfkaaSB14
import Derived.BigRegion
import Derived.Test.YthkfjgfhaicfkaaSB6
/-
  turn, of package seq: on to the first write that is neither over nor lost.
  Conditions: the row lies in memory.
-/
namespace Go.Proofs.Ythkfjgfhaicfkaa
open Go.RowKit Go.Shelf
attribute [local go_sem] Oper.semAt_some

/-- On to the first write that is neither over nor lost. -/
def turnM : WrX → List WrX → WrX × List WrX
  | x, [] => (x, [])
  | x, y :: t => if x.s.p = 4 ∨ x.s.p = 5 then turnM y t else (x, y :: t)
/-- Block r is a row of writes: the one that goes on, and those behind it. -/
structure RowAt (S : Nat → Prop) (W : World) (r q : Nat) (p : Option Addr) (cap : Nat) (x : WrX) (l : List WrX) : Prop where
  box : WBox W r 109 [.slice p l.length cap] x.s x.v q
  val : VV S W x.v x.vs
  left : WrsAt S W p l
  cap : l.length ≤ cap ∧ cap ≤ 9223372036854775807
def leftLen (r : Nat) (w : World) : Nat := match w.cell? ⟨r, 7, none⟩ with | some (.slice _ n _) => n | _ => 0
theorem WBox.ex {w : World} {z : Nat} {T : TypeId} {e : Value} {s : WrM} {v : Value} {q : Nat} (h : WBox w z T [e] s v q) : w.cell? ⟨z, 7, none⟩ = some e := by
  have h' : w.heap[z]? = _ := h
  simp [World.cell?, h']

theorem WBox.put {w : World} {r q : Nat} {s0 : WrM} {v0 e0 : Value} (h : WBox w r 109 [e0] s0 v0 q) (s : WrM) (v e : Value) :
    WBox (((((((w.setCell ⟨r, 0, none⟩ (.int .i64 s.a)).setCell ⟨r, 1, none⟩ (.int .i64 s.f)).setCell ⟨r, 2, none⟩ v).setCell ⟨r, 3, none⟩ (.int .i64 s.p)).setCell ⟨r, 4, none⟩ (.int .u64 s.b)).setCell ⟨r, 5, none⟩ (.int .i64 s.w)).setCell ⟨r, 7, none⟩ e) r 109 [e] s v q := by
  have h0 := heap_setCell_same w r 0 _ _ (.int .i64 s.a) h
  have h1 := heap_setCell_same _ r 1 _ _ (.int .i64 s.f) h0
  have h2 := heap_setCell_same _ r 2 _ _ v h1
  have h3 := heap_setCell_same _ r 3 _ _ (.int .i64 s.p) h2
  have h4 := heap_setCell_same _ r 4 _ _ (.int .u64 s.b) h3
  have h5 := heap_setCell_same _ r 5 _ _ (.int .i64 s.w) h4
  have h7 := heap_setCell_same _ r 7 _ _ e h5
  unfold WBox
  rw [h7]
  rfl
theorem WBox.putK (w : World) (r : Nat) (s : WrM) (v e : Value) : Keeps (fun k => k = r) w (((((((w.setCell ⟨r, 0, none⟩ (.int .i64 s.a)).setCell ⟨r, 1, none⟩ (.int .i64 s.f)).setCell ⟨r, 2, none⟩ v).setCell ⟨r, 3, none⟩ (.int .i64 s.p)).setCell ⟨r, 4, none⟩ (.int .u64 s.b)).setCell ⟨r, 5, none⟩ (.int .i64 s.w)).setCell ⟨r, 7, none⟩ e) :=
  ((((((Keeps.setCell w (S := (· = r)) (p := ⟨r, 0, none⟩) rfl _).trans (Keeps.setCell _ (S := (· = r)) (p := ⟨r, 1, none⟩) rfl _)).trans (Keeps.setCell _ (S := (· = r)) (p := ⟨r, 2, none⟩) rfl _)).trans (Keeps.setCell _ (S := (· = r)) (p := ⟨r, 3, none⟩) rfl _)).trans (Keeps.setCell _ (S := (· = r)) (p := ⟨r, 4, none⟩) rfl _)).trans (Keeps.setCell _ (S := (· = r)) (p := ⟨r, 5, none⟩) rfl _)).trans (Keeps.setCell _ (S := (· = r)) (p := ⟨r, 7, none⟩) rfl _)
theorem WrsAt.tail {S : Nat → Prop} {W : World} {b off : Nat} {x : WrX} {l : List WrX} (h : WrsAt S W (some ⟨b, off, none⟩) (x :: l)) : WrsAt S W (some ⟨b, off + 6, none⟩) l := by
  intro hne
  obtain ⟨b', off', e, hS, hcs⟩ := h (by simp)
  cases e
  refine ⟨b, off + 6, rfl, hS, fun i hi => ?_⟩
  obtain ⟨⟨c0, c1, c2, c3, c4, c5⟩, hv⟩ := hcs (i + 1) (by simp; omega)
  simp only [List.getElem_cons_succ] at c0 c1 c2 c3 c4 c5 hv
  rw [show off + (i + 1) * 6 = off + 6 + i * 6 by omega] at c0 c1 c2 c3 c4 c5
  exact ⟨⟨c0, c1, c2, c3, c4, c5⟩, hv⟩

set_option maxRecDepth 100000 in
set_option maxHeartbeats 4000000 in
theorem eturn_c (r q : Nat) (S : Nat → Prop) (p : Option Addr) (cap : Nat) (x : WrX) (l : List WrX) (W : World) (h : RowAt S W r q p cap x l) (hS : S r) :
    Calls Try.prog 57 #[.pointer (some ⟨r, 0, none⟩)] W fun e w' => e = .returned (.tuple #[]) ∧ (∃ p' cap', RowAt S w' r q p' cap' (turnM x l).1 (turnM x l).2) ∧ Keeps (fun k => k = r) W w' := by
  have H := Lib.hid h
  clear h
  go_enter Try.func57, Try.ntmps57
  go_wp2
  go_loopw [] (fun wr => ∃ (p' : Option Addr) (cap' : Nat) (y : WrX) (t : List WrX), RowAt S wr r q p' cap' y t ∧ turnM x l = turnM y t ∧ Keeps (fun k => k = r) W wr) (fun wr => leftLen r wr)
  case atStart => exact ⟨p, cap, x, l, H.out, rfl, Keeps.refl _ _⟩
  case round =>
    clear H
    obtain ⟨p', cap', ⟨⟨a, f, ph, b, w⟩, v, vs⟩, t, hr, hm, hk⟩ := hrel
    cases t with
    | nil =>
      obtain ⟨⟨-, -, -, c3⟩, -⟩ := hr.box.cells
      have c7 := hr.box.ex
      dsimp only [List.length_nil] at c3 c7
      have HR := Lib.hid hr
      have HM := Lib.hid hm
      have HK := Lib.hid hk
      clear hr hm hk
      go_wp2
      refine bodyPost_end (v := .tuple #[]) (by simp [results, Try.results57, go_sem]) rfl ⟨rfl, ?_, HK.out⟩
      rw [HM.out]
      exact ⟨p', cap', HR.out⟩
    | cons z t =>
      by_cases h4 : ph = 4
      · obtain rfl : ph = 4 := h4
        obtain ⟨bb, off, rfl, hSb, hcs⟩ := hr.left (by simp)
        obtain ⟨⟨x0, x1, x2, x3, x4, x5⟩, hzv⟩ := hcs 0 (by simp)
        simp only [List.getElem_cons_zero, Nat.zero_mul, Nat.add_zero] at x0 x1 x2 x3 x4 x5 hzv
        obtain ⟨⟨za, zf, zp, zb, zw⟩, zv, zs⟩ := z
        dsimp only at x0 x1 x2 x3 x4 x5 hzv
        obtain ⟨zq, zc, rfl, -, -⟩ := id hzv
        obtain ⟨N, hN⟩ : ∃ N, N = t.length := ⟨_, rfl⟩
        obtain ⟨zn, hzn⟩ : ∃ zn, zn = zs.length := ⟨_, rfl⟩
        have hlen : (⟨⟨za, zf, zp, zb, zw⟩, .slice zq zs.length zc, zs⟩ :: t : List WrX).length = N + 1 := by rw [hN]; rfl
        have HBX := Lib.hid hr.box
        have hcap := hr.cap
        rw [hlen] at HBX hcap
        rw [← hzn] at x2
        have HLEFT := Lib.hid hr.left.tail
        have HZV := Lib.hid hzv
        have HPUT := Lib.hid (HBX.out.put ⟨za, zf, zp, zb, zw⟩ (.slice zq zn zc) (.slice (if cap' = 1 then some ⟨bb, off, none⟩ else some ⟨bb, off + 6, none⟩) N (cap' - 1)))
        have HPK := Lib.hid (WBox.putK wr r ⟨za, zf, zp, zb, zw⟩ (.slice zq zn zc) (.slice (if cap' = 1 then some ⟨bb, off, none⟩ else some ⟨bb, off + 6, none⟩) N (cap' - 1)))
        obtain ⟨⟨c0, c1, c2, c3⟩, c4, c5, -⟩ := HBX.out.cells
        have c7 := HBX.out.ex
        have m0 := HBX.out.marks 0
        have m1 := HBX.out.marks 1
        have m2 := HBX.out.marks 2
        have m3 := HBX.out.marks 3
        have m4 := HBX.out.marks 4
        have m5 := HBX.out.marks 5
        have m7 := HBX.out.marks 7
        dsimp only at c0 c1 c2 c3 c4 c5 HPUT HPK
        have hbr : bb ≠ r := fun e => hSb (e ▸ hS)
        have HM := Lib.hid hm
        have HK := Lib.hid hk
        have HN := Lib.hid (And.intro hN hzn)
        have hc1 : 1 ≤ cap' := by omega
        have hc2 : cap' ≤ 9223372036854775807 := hcap.2
        have HCAP := Lib.hid hcap
        have HLL := Lib.hid (show leftLen r wr = N + 1 by unfold leftLen; rw [c7])
        skip
        clear hr hm hk hcs hzv hN hzn hlen hSb hcap
        go_upto_region 1 with fail
        go_big_region
        all_goals
          revert HPUT HPK
          generalize World.setCell _ ⟨r, 7, none⟩ _ = w5
          intro HPUT HPK
          clear c0 c1 c2 c3 c4 c5 c7 m0 m1 m2 m3 m4 m5 m7 x0 x1 x2 x3 x4 x5
          have HB5 : WBox w5.drew r 109 [.slice (if cap' = 1 then some ⟨bb, off, none⟩ else some ⟨bb, off + 6, none⟩) t.length (cap' - 1)] ⟨za, zf, zp, zb, zw⟩ (.slice zq zs.length zc) q := by rw [← HN.out.1, ← HN.out.2]; exact HPUT.out
          have HK5 := Lib.hid (HPK.out.drewN 1)
          have HR5 := Lib.hid (show RowAt S w5.drew r q (if cap' = 1 then some ⟨bb, off, none⟩ else some ⟨bb, off + 6, none⟩) (cap' - 1) ⟨⟨za, zf, zp, zb, zw⟩, .slice zq zs.length zc, zs⟩ t from ⟨HB5, HZV.out.keeps HK5.out (fun k e => e ▸ hS), by
            by_cases h1 : cap' = 1
            · intro hne
              exact absurd (List.eq_nil_of_length_eq_zero (by have := HCAP.out; have := HN.out; omega)) hne
            · rw [if_neg h1]
              exact HLEFT.out.keeps HK5.out (fun k e => e ▸ hS), by have := HCAP.out; have := HN.out; omega⟩)
          have HL5 := Lib.hid (show leftLen r w5.drew = N by rw [HN.out.1]; unfold leftLen; rw [HB5.ex])
          clear HB5
          go_wp2
          go_roundw
          case rel => exact ⟨_, _, _, t, HR5.out, by rw [HM.out]; show turnM _ (_ :: t) = _; rw [turnM, if_pos (Or.inl rfl)], HK.out.trans HK5.out⟩
          case measure => rw [HL5.out, HLL.out]; omega
      · by_cases h5 : ph = 5
        · obtain rfl : ph = 5 := h5
          obtain ⟨bb, off, rfl, hSb, hcs⟩ := hr.left (by simp)
          obtain ⟨⟨x0, x1, x2, x3, x4, x5⟩, hzv⟩ := hcs 0 (by simp)
          simp only [List.getElem_cons_zero, Nat.zero_mul, Nat.add_zero] at x0 x1 x2 x3 x4 x5 hzv
          obtain ⟨⟨za, zf, zp, zb, zw⟩, zv, zs⟩ := z
          dsimp only at x0 x1 x2 x3 x4 x5 hzv
          obtain ⟨zq, zc, rfl, -, -⟩ := id hzv
          obtain ⟨N, hN⟩ : ∃ N, N = t.length := ⟨_, rfl⟩
          obtain ⟨zn, hzn⟩ : ∃ zn, zn = zs.length := ⟨_, rfl⟩
          have hlen : (⟨⟨za, zf, zp, zb, zw⟩, .slice zq zs.length zc, zs⟩ :: t : List WrX).length = N + 1 := by rw [hN]; rfl
          have HBX := Lib.hid hr.box
          have hcap := hr.cap
          rw [hlen] at HBX hcap
          rw [← hzn] at x2
          have HLEFT := Lib.hid hr.left.tail
          have HZV := Lib.hid hzv
          have HPUT := Lib.hid (HBX.out.put ⟨za, zf, zp, zb, zw⟩ (.slice zq zn zc) (.slice (if cap' = 1 then some ⟨bb, off, none⟩ else some ⟨bb, off + 6, none⟩) N (cap' - 1)))
          have HPK := Lib.hid (WBox.putK wr r ⟨za, zf, zp, zb, zw⟩ (.slice zq zn zc) (.slice (if cap' = 1 then some ⟨bb, off, none⟩ else some ⟨bb, off + 6, none⟩) N (cap' - 1)))
          obtain ⟨⟨c0, c1, c2, c3⟩, c4, c5, -⟩ := HBX.out.cells
          have c7 := HBX.out.ex
          have m0 := HBX.out.marks 0
          have m1 := HBX.out.marks 1
          have m2 := HBX.out.marks 2
          have m3 := HBX.out.marks 3
          have m4 := HBX.out.marks 4
          have m5 := HBX.out.marks 5
          have m7 := HBX.out.marks 7
          dsimp only at c0 c1 c2 c3 c4 c5 HPUT HPK
          have hbr : bb ≠ r := fun e => hSb (e ▸ hS)
          have HM := Lib.hid hm
          have HK := Lib.hid hk
          have HN := Lib.hid (And.intro hN hzn)
          have hc1 : 1 ≤ cap' := by omega
          have hc2 : cap' ≤ 9223372036854775807 := hcap.2
          have HCAP := Lib.hid hcap
          have HLL := Lib.hid (show leftLen r wr = N + 1 by unfold leftLen; rw [c7])
          skip
          clear hr hm hk hcs hzv hN hzn hlen hSb hcap
          go_upto_region 1 with fail
          go_big_region
          all_goals
            revert HPUT HPK
            generalize World.setCell _ ⟨r, 7, none⟩ _ = w5
            intro HPUT HPK
            clear c0 c1 c2 c3 c4 c5 c7 m0 m1 m2 m3 m4 m5 m7 x0 x1 x2 x3 x4 x5
            have HB5 : WBox w5.drew r 109 [.slice (if cap' = 1 then some ⟨bb, off, none⟩ else some ⟨bb, off + 6, none⟩) t.length (cap' - 1)] ⟨za, zf, zp, zb, zw⟩ (.slice zq zs.length zc) q := by rw [← HN.out.1, ← HN.out.2]; exact HPUT.out
            have HK5 := Lib.hid (HPK.out.drewN 1)
            have HR5 := Lib.hid (show RowAt S w5.drew r q (if cap' = 1 then some ⟨bb, off, none⟩ else some ⟨bb, off + 6, none⟩) (cap' - 1) ⟨⟨za, zf, zp, zb, zw⟩, .slice zq zs.length zc, zs⟩ t from ⟨HB5, HZV.out.keeps HK5.out (fun k e => e ▸ hS), by
              by_cases h1 : cap' = 1
              · intro hne
                exact absurd (List.eq_nil_of_length_eq_zero (by have := HCAP.out; have := HN.out; omega)) hne
              · rw [if_neg h1]
                exact HLEFT.out.keeps HK5.out (fun k e => e ▸ hS), by have := HCAP.out; have := HN.out; omega⟩)
            have HL5 := Lib.hid (show leftLen r w5.drew = N by rw [HN.out.1]; unfold leftLen; rw [HB5.ex])
            clear HB5
            go_wp2
            go_roundw
            case rel => exact ⟨_, _, _, t, HR5.out, by rw [HM.out]; show turnM _ (_ :: t) = _; rw [turnM, if_pos (Or.inr rfl)], HK.out.trans HK5.out⟩
            case measure => rw [HL5.out, HLL.out]; omega
        · have h4' : (ph == 4) = false := by simpa using h4
          have h5' : (ph == 5) = false := by simpa using h5
          obtain ⟨⟨-, -, -, c3⟩, -⟩ := hr.box.cells
          have c7 := hr.box.ex
          dsimp only [List.length_cons] at c3 c7
          have HR := Lib.hid hr
          have HM := Lib.hid hm
          have HK := Lib.hid hk
          have HE := Lib.hid (show turnM ⟨⟨a, f, ph, b, w⟩, v, vs⟩ (z :: t) = (⟨⟨a, f, ph, b, w⟩, v, vs⟩, z :: t) by unfold turnM; rw [if_neg (by rintro (e | e); exact h4 e; exact h5 e)])
          clear hr hm hk
          go_wp2
          refine bodyPost_end (v := .tuple #[]) (by simp [results, Try.results57, go_sem]) rfl ⟨rfl, ?_, HK.out⟩
          rw [HM.out, HE.out]
          exact ⟨p', cap', HR.out⟩

end Go.Proofs.Ythkfjgfhaicfkaa
namespace Go.Proofs.Ythkfjgfhaicfkaa
open Go.RowKit Go.Shelf

theorem eacc_right {ws : List Int} {ls : List Bool} (h : rightB ws ls = true) (f : Bool) (k a o n : Int) : rightB (accM ws ls f k a o n).1 ls = true := by
  unfold accM
  split
  · rename_i hl
    split
    · exact h
    · split
      · exact rightB_set h hl n
      · exact h
  · exact h
theorem eset_range {us : List Int} (h : WRange us) (i : Nat) {n : Int} (hn : 0 ≤ n ∧ n ≤ 18446744073709551615) : WRange (us.set i n) := by
  intro x hx
  rcases List.mem_or_eq_of_mem_set hx with e | e
  · exact h x e
  · rw [e]; exact hn
theorem eacc_wrange {ws : List Int} {ls : List Bool} (h : WRange ws) (f : Bool) (k a o : Int) {n : Int} (hn : 0 ≤ n ∧ n ≤ 18446744073709551615) : WRange (accM ws ls f k a o n).1 := by
  unfold accM
  split
  · split
    · exact h
    · split
      · exact eset_range h _ hn
      · exact h
  · exact h
theorem u64wrap_range (n : Int) : 0 ≤ IntKind.u64.wrap n ∧ IntKind.u64.wrap n ≤ 18446744073709551615 := by
  have : IntKind.u64.wrap n = n % 18446744073709551616 := by simp [IntKind.wrap, IntKind.bits, IntKind.signed]
  omega
theorem stepW_mem {ms : List Bool} {us : List Int} {f : Bool} {s : WrM} {vs : List Int} (hr : rightB us ms = true) (hw : WRange us) (hv : WRange vs) : rightB (stepW ms us f s vs).1.1 ms = true ∧ WRange (stepW ms us f s vs).1.1 := by
  unfold stepW
  split
  · exact ⟨hr, hw⟩
  · dsimp only
    split
    · exact ⟨eacc_right hr _ _ _ _ _, eacc_wrange hw _ _ _ _ (by omega)⟩
    · refine ⟨eacc_right hr _ _ _ _ _, eacc_wrange hw _ _ _ _ ?_⟩
      split
      · exact u64wrap_range _
      · split
        · rw [List.getD_eq_getElem?_getD]
          cases e : vs[s.w.toNat]? with
          | none => simp
          | some x => exact hv x (List.mem_of_getElem? e)
        · exact u64wrap_range _

/-- A write that is over, lost, or may be; its Values are words. -/
def okX (x : WrX) : Prop := (x.s.p = 4 ∨ x.s.p = 5 ∨ rightWB x.s x.vs.length = true) ∧ WRange x.vs
def okL (l : List WrX) : Prop := ∀ x ∈ l, okX x
theorem turnM_ok : ∀ (x : WrX) (l : List WrX), okX x → okL l → okX (turnM x l).1 ∧ okL (turnM x l).2
  | x, [], hx, hl => ⟨hx, hl⟩
  | x, y :: t, hx, hl => by
    unfold turnM
    split
    · exact turnM_ok y t (hl y (by simp)) (fun z hz => hl z (by simp [hz]))
    · exact ⟨hx, hl⟩
theorem stepW_ok {ms : List Bool} {us : List Int} {f : Bool} {x : WrX} (h : okX x) : okX { x with s := (stepW ms us f x.s x.vs).2 } := by
  refine ⟨?_, h.2⟩
  rcases h.1 with e | e | e
  · left
    show (stepW ms us f x.s x.vs).2.p = 4
    unfold stepW; rw [if_pos (by omega)]; exact e
  · right; left
    show (stepW ms us f x.s x.vs).2.p = 5
    unfold stepW; rw [if_pos (by omega)]; exact e
  · exact .inr (.inr (stepW_right ms us f x.s x.vs e))

/-- Where a play is. -/
structure PlS where
  us : List Int
  u : Bool
  s : RdM
  vs : List Int
  x : WrX
  l : List WrX
/-- What a pick does. -/
def pickM (ms : List Bool) (st : PlS) (b : Bool) : PlS :=
  if b = true then let r := stepR ms st.us st.u st.s st.vs; { st with us := r.1.1, u := r.1.2, s := r.2.1, vs := r.2.2 }
  else let y := turnM st.x st.l; let r := stepW ms st.us st.u y.1.s y.1.vs; { st with us := r.1.1, u := r.1.2, x := { y.1 with s := r.2 }, l := y.2 }
def playM (ms : List Bool) (st : PlS) (bs : List Bool) : PlS := bs.foldl (pickM ms) st
/-- All may be. -/
structure PlOk (ms : List Bool) (st : PlS) : Prop where
  mem : rightB st.us ms = true
  rng : WRange st.us
  read : rightRB st.s st.vs.length = true
  x : okX st.x
  l : okL st.l
theorem pickM_ok {ms : List Bool} {st : PlS} (h : PlOk ms st) (b : Bool) : PlOk ms (pickM ms st b) := by
  unfold pickM
  split
  · exact ⟨by show rightB (stepR ms st.us st.u st.s st.vs).1.1 ms = true; rw [stepR_same]; exact h.mem, by show WRange (stepR ms st.us st.u st.s st.vs).1.1; rw [stepR_same]; exact h.rng, stepR_right ms st.us st.u st.s st.vs h.read, h.x, h.l⟩
  · have ht := turnM_ok st.x st.l h.x h.l
    have hm := stepW_mem (f := st.u) (s := (turnM st.x st.l).1.s) h.mem h.rng ht.1.2
    exact ⟨hm.1, hm.2, h.read, stepW_ok ht.1, ht.2⟩
theorem pickM_words (ms : List Bool) (st : PlS) (b : Bool) : (pickM ms st b).us.length = st.us.length := by
  unfold pickM
  split
  · exact stepR_words _ _ _ _ _
  · exact stepW_words _ _ _ _ _

/-- The blocks of a play that change. -/
def PlC (z gw r t : Nat) (k : Nat) : Prop := k = z ∨ k = gw ∨ k = r ∨ k = t
/-- How a play lies in memory. -/
structure PlAt (B q z gw gl cw cl r t mb mc : Nat) (ms : List Bool) (st : PlS) (W : World) : Prop where
  acc : AccF B q z gw gl cw cl st.us ms st.u W
  rd : ∃ v, RBox W r st.s v q ∧ VV (PlC z gw r t) W v st.vs
  row : ∃ p cap, RowAt (PlC z gw r t) W t q p cap st.x st.l
  m1 : W.heap[mb]? = some (rmap r)
  m2 : W.heap[mc]? = some (wmap t)
theorem PlAt.ne {B q z gw gl cw cl r t mb mc : Nat} {ms : List Bool} {st : PlS} {W : World} (h : PlAt B q z gw gl cw cl r t mb mc ms st W) : (r ≠ q ∧ r ≠ z ∧ r ≠ gw ∧ r ≠ gl) ∧ (t ≠ q ∧ t ≠ z ∧ t ≠ gw ∧ t ≠ gl) ∧ t ≠ r ∧ (mb ≠ z ∧ mb ≠ gw ∧ mb ≠ r ∧ mb ≠ t) ∧ (mc ≠ z ∧ mc ≠ gw ∧ mc ≠ r ∧ mc ≠ t) := by
  obtain ⟨v, hR, -⟩ := h.rd
  obtain ⟨p, cap, hW⟩ := h.row
  have hz : W.heap[z]? = _ := h.acc.box
  obtain ⟨c1, f1, h1⟩ := Lib.ownsRow_kind h.acc.words gw rfl
  have hr : W.heap[r]? = _ := hR
  have ht : W.heap[t]? = _ := hW.box
  have h3 := h.m1
  have h4 := h.m2
  refine ⟨h.acc.apart hR, h.acc.apartW hW.box (.inr rfl), ?_, ⟨?_, ?_, ?_, ?_⟩, ⟨?_, ?_, ?_, ?_⟩⟩ <;> rintro rfl <;> simp_all [rmap, wmap, map3, map4]
theorem PlAt.lt {B q z gw gl cw cl r t mb mc : Nat} {ms : List Bool} {st : PlS} {W : World} (h : PlAt B q z gw gl cw cl r t mb mc ms st W) : ∀ k, PlC z gw r t k → k < W.heap.size := by
  obtain ⟨v, hR, -⟩ := h.rd
  obtain ⟨p, cap, hW⟩ := h.row
  rintro k (rfl | rfl | rfl | rfl)
  · exact h.acc.box.lt
  · exact (row_lt h.acc.words).1
  · exact hR.lt
  · exact hW.box.lt
theorem RowAt.keeps {S T : Nat → Prop} {W W' : World} {r q : Nat} {p : Option Addr} {cap : Nat} {x : WrX} {l : List WrX} (h : RowAt S W r q p cap x l) (hk : Keeps T W W') (hT : ∀ k, T k → S k) (hr : ¬ T r) : RowAt S W' r q p cap x l :=
  ⟨h.box.keeps hk hr, h.val.keeps hk hT, h.left.keeps hk hT, h.cap⟩
theorem PlAt.below {B q z gw gl cw cl r t mb mc : Nat} {ms : List Bool} {st : PlS} {W W' : World} (h : PlAt B q z gw gl cw cl r t mb mc ms st W) (hb : Below W.heap.size W W') : PlAt B q z gw gl cw cl r t mb mc ms st W' := by
  obtain ⟨v, hR, hV⟩ := h.rd
  obtain ⟨p, cap, hW⟩ := h.row
  have hk : Keeps (fun _ => False) W W' := Keeps.of_below hb
  exact ⟨h.acc.below hb, ⟨v, hR.below hb, hV.keeps hk (fun _ e => e.elim)⟩, ⟨p, cap, hW.keeps hk (fun _ e => e.elim) (fun e => e)⟩, (hb.block mb (Array.getElem?_eq_some_iff.1 h.m1).1).trans h.m1, (hb.block mc (Array.getElem?_eq_some_iff.1 h.m2).1).trans h.m2⟩

/-- A pick of the read. -/
theorem pick_read (B q z gw gl cw cl r t mb mc : Nat) (ms : List Bool) (st : PlS) (W : World) (h : PlAt B q z gw gl cw cl r t mb mc ms st W) (ho : PlOk ms st) :
    Calls Try.prog 47 #[.pointer (some ⟨r, 3, none⟩), .map (some mb)] W fun e w' => e = .returned (.tuple #[]) ∧ PlAt B q z gw gl cw cl r t mb mc ms (pickM ms st true) w' ∧ Keeps (PlC z gw r t) W w' := by
  obtain ⟨⟨-, -, -, -⟩, ⟨tq, tz, tg, tl⟩, tr, ⟨b1, b2, b3, b4⟩, c1, c2, c3, c4⟩ := h.ne
  obtain ⟨v, hR, hV⟩ := h.rd
  obtain ⟨p, cap, hW⟩ := h.row
  have hT : ∀ k, (k = z ∨ k = gw ∨ k = r) → PlC z gw r t k := fun k e => by rcases e with e | e | e; exact .inl e; exact .inr (.inl e); exact .inr (.inr (.inl e))
  refine (rstep_c B q z gw gl cw cl r mb (PlC z gw r t) st.us ms st.u st.s st.vs W ⟨h.acc, v, hR, hV⟩ h.m1 ho.mem ho.rng ho.read hT h.lt).mono fun e w' h' => ?_
  obtain ⟨rfl, ⟨hA, hX⟩, hk⟩ := h'
  refine ⟨rfl, ⟨hA, hX, ⟨p, cap, hW.keeps hk hT (by rintro (e | e | e); exact tz e; exact tg e; exact tr e)⟩, ?_, ?_⟩, hk.sub fun k _ e => hT k e⟩
  · exact (hk.block mb (Array.getElem?_eq_some_iff.1 h.m1).1 (by rintro (e | e | e); exact b1 e; exact b2 e; exact b3 e)).trans h.m1
  · exact (hk.block mc (Array.getElem?_eq_some_iff.1 h.m2).1 (by rintro (e | e | e); exact c1 e; exact c2 e; exact c3 e)).trans h.m2
/-- On to the write that goes on. -/
theorem pick_turn (B q z gw gl cw cl r t mb mc : Nat) (ms : List Bool) (st : PlS) (W : World) (h : PlAt B q z gw gl cw cl r t mb mc ms st W) :
    Calls Try.prog 57 #[.pointer (some ⟨t, 0, none⟩)] W fun e w' => e = .returned (.tuple #[]) ∧ PlAt B q z gw gl cw cl r t mb mc ms { st with x := (turnM st.x st.l).1, l := (turnM st.x st.l).2 } w' ∧ Keeps (PlC z gw r t) W w' := by
  obtain ⟨⟨-, -, -, -⟩, ⟨tq, tz, tg, tl⟩, tr, ⟨b1, b2, b3, b4⟩, c1, c2, c3, c4⟩ := h.ne
  obtain ⟨v, hR, hV⟩ := h.rd
  obtain ⟨p, cap, hW⟩ := h.row
  have hT : ∀ k, k = t → PlC z gw r t k := fun k e => .inr (.inr (.inr e))
  refine (eturn_c t q (PlC z gw r t) p cap st.x st.l W hW (hT t rfl)).mono fun e w' h' => ?_
  obtain ⟨rfl, hX, hk⟩ := h'
  refine ⟨rfl, ⟨h.acc.keeps hk (fun e => tq e.symm) (fun e => tz e.symm) (fun e => tg e.symm) (fun e => tl e.symm), ⟨v, hR.keeps hk (fun e => tr e.symm), hV.keeps hk hT⟩, hX, ?_, ?_⟩, hk.sub fun k _ e => hT k e⟩
  · exact (hk.block mb (Array.getElem?_eq_some_iff.1 h.m1).1 b4).trans h.m1
  · exact (hk.block mc (Array.getElem?_eq_some_iff.1 h.m2).1 c4).trans h.m2
/-- A step of the write that goes on. -/
theorem pick_write (B q z gw gl cw cl r t mb mc : Nat) (ms : List Bool) (st : PlS) (W : World) (h : PlAt B q z gw gl cw cl r t mb mc ms st W) (hm : rightB st.us ms = true) (hw : WRange st.us) (hx : okX st.x) :
    Calls Try.prog 47 #[.pointer (some ⟨t, 3, none⟩), .map (some mc)] W fun e w' => e = .returned (.tuple #[]) ∧ PlAt B q z gw gl cw cl r t mb mc ms { st with us := (stepW ms st.us st.u st.x.s st.x.vs).1.1, u := (stepW ms st.us st.u st.x.s st.x.vs).1.2, x := { st.x with s := (stepW ms st.us st.u st.x.s st.x.vs).2 } } w' ∧ Keeps (PlC z gw r t) W w' := by
  obtain ⟨⟨rq, rz, rg, rl⟩, ⟨tq, tz, tg, tl⟩, tr, ⟨b1, b2, b3, b4⟩, c1, c2, c3, c4⟩ := h.ne
  obtain ⟨v, hR, hV⟩ := h.rd
  obtain ⟨p, cap, hW⟩ := h.row
  have hT : ∀ k, (k = z ∨ k = gw ∨ k = t) → PlC z gw r t k := fun k e => by rcases e with e | e | e; exact .inl e; exact .inr (.inl e); exact .inr (.inr (.inr e))
  have hc : Calls Try.prog 47 #[.pointer (some ⟨t, 3, none⟩), .map (some mc)] W fun e w' => e = .returned (.tuple #[]) ∧ WS B q z gw gl cw cl t 109 [.slice p st.l.length cap] (PlC z gw r t) ms st.x.v st.x.vs (stepW ms st.us st.u st.x.s st.x.vs) w' ∧ Keeps (fun k => k = z ∨ k = gw ∨ k = t) W w' := by
    have h0 : WS B q z gw gl cw cl t 109 [.slice p st.l.length cap] (PlC z gw r t) ms st.x.v st.x.vs ((st.us, st.u), st.x.s) W := ⟨h.acc, hW.box, hW.val⟩
    have hsame : (st.x.s.p = 4 ∨ st.x.s.p = 5) → stepW ms st.us st.u st.x.s st.x.vs = ((st.us, st.u), st.x.s) := fun e => by unfold stepW; rw [if_pos (by omega)]
    rcases hx.1 with e | e | e
    · rw [hsame (.inl e)]
      exact ws_nochange B q z gw gl cw cl t mc _ _ _ ms _ _ _ W h0 h.m2 (.inl e)
    · rw [hsame (.inr e)]
      exact ws_nochange B q z gw gl cw cl t mc _ _ _ ms _ _ _ W h0 h.m2 (.inr e)
    · exact wstep_c B q z gw gl cw cl t mc _ _ _ st.us ms st.u st.x.s st.x.v st.x.vs W h0 h.m2 (.inr rfl) hm hw e hT
  refine hc.mono fun e w' h' => ?_
  obtain ⟨rfl, ⟨hA, hB, hVV⟩, hk⟩ := h'
  refine ⟨rfl, ⟨hA, ⟨v, hR.keeps hk (by rintro (e | e | e); exact rz e; exact rg e; exact tr e.symm), hV.keeps hk hT⟩, ⟨p, cap, hB, hVV, hW.left.keeps hk hT, hW.cap⟩, ?_, ?_⟩, hk.sub fun k _ e => hT k e⟩
  · exact (hk.block mb (Array.getElem?_eq_some_iff.1 h.m1).1 (by rintro (e | e | e); exact b1 e; exact b2 e; exact b4 e)).trans h.m1
  · exact (hk.block mc (Array.getElem?_eq_some_iff.1 h.m2).1 (by rintro (e | e | e); exact c1 e; exact c2 e; exact c4 e)).trans h.m2

end Go.Proofs.Ythkfjgfhaicfkaa
