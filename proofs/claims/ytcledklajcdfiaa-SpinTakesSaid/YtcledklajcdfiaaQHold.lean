/-
  holders, of a play of package spin: who comes to hold a lock, pick by pick.
  Conditions: the play and the picks lie so; all may be; who ranges over it leaves the play, and the picks, as they are.
-/
import Derived.Test.YtcledklajcdfiaaQPicked
import Derived.Test.YtcledklajcdfiaaQRange
import Derived.Shelf.RegionOpen
import Derived.WalkKit
import Derived.OwnWalkIn
import Derived.TacticsInMore
import Derived.LoopNIn
import Derived.LoopIn
import Derived.Deep.RegionHeld
import Derived.Sort.QuietIn
namespace Go.Proofs.Ytcledklajcdfiaa
open Go.RowKit Go.Shelf Go.BigFrame
attribute [local go_sem] Oper.semAt_some

/-- What rounds keep: all blocks of cells of other kinds than their own; and of the elder ones all but one. -/
def KpP (hb z : Nat) (W W' : World) : Prop := W.heap.size ≤ W'.heap.size ∧ (∀ (b : Nat) (c : Array Value) (T : TypeId) (f : Nat × Nat), T ≠ 3 → T ≠ 58 → W.heap[b]? = some (.cells c T f) → W'.heap[b]? = some (.cells c T f)) ∧
  (∀ (b : Nat) (c : Array Value) (T : TypeId) (f : Nat × Nat), b < z → b ≠ hb → W.heap[b]? = some (.cells c T f) → W'.heap[b]? = some (.cells c T f))
theorem KpP.trans {hb z : Nat} {A B C : World} (h : KpP hb z A B) (k : KpP hb z B C) : KpP hb z A C :=
  ⟨Nat.le_trans h.1 k.1, fun b c T f h1 h2 hc => k.2.1 b c T f h1 h2 (h.2.1 b c T f h1 h2 hc), fun b c T f h1 h2 hc => k.2.2 b c T f h1 h2 (h.2.2 b c T f h1 h2 hc)⟩
theorem KpP.turn (hb z : Nat) (W : World) (l : Nat) (o o' : Obj) (hl : W.heap[l]? = some o) (ho : o.isCells = false) : KpP hb z W (W.putObj l o') := by
  have hne : ∀ (b : Nat) (c : Array Value) (T : TypeId) (f : Nat × Nat), W.heap[b]? = some (.cells c T f) → (W.putObj l o').heap[b]? = some (.cells c T f) := fun b c T f hc => by
    have e : b ≠ l := by
      rintro rfl
      rw [hl] at hc
      injection hc with hc
      subst hc
      cases ho
    exact (World.putObj_heap_other e).trans hc
  exact ⟨by simp [World.putObj], fun b c T f _ _ hc => hne b c T f hc, fun b c T f _ _ hc => hne b c T f hc⟩
theorem KpP.row {hb z : Nat} {A B : World} (h : KpP hb z A B) {n s m : Nat} {E : TypeId} {v : Value} {xs : List Value} (hr : A.ownsRow n E s v m xs) (h1 : E ≠ 3) (h2 : E ≠ 58) : B.ownsRow n E s v m xs := by
  refine ⟨hr.1, ?_⟩
  rcases hr.2 with h' | ⟨g, cap, cur, rfl, h3, h4, h5⟩
  · exact .inl h'
  · exact .inr ⟨g, cap, cur, rfl, h3, h.2.1 g _ _ _ h1 h2 h4, h5⟩
theorem KpP.play {hb z : Nat} {W W' : World} (h : KpP hb z W W') {B r g : Nat} {ls : List Bool} {P : PlM} {x y : Value} {n : Nat} (hp : PlayIn W B r g ls P x y n) : PlayIn W' B r g ls P x y n :=
  ⟨h.2.1 r _ _ _ (by decide) (by decide) hp.box, h.row hp.words (by decide) (by decide), h.row hp.lives (by decide) (by decide), h.row hp.places (by decide) (by decide), hp.len, hp.lo⟩
theorem KpP.cell {hb z : Nat} {W W' : World} (h : KpP hb z W W') {b o : Nat} {v : Value} (hz : b < z) (hne : b ≠ hb) (hc : W.cell? ⟨b, o, none⟩ = some v) : W'.cell? ⟨b, o, none⟩ = some v := by
  simp only [World.cell?] at hc ⊢
  cases hh : W.heap[b]? with
  | none => rw [hh] at hc; simp at hc
  | some ob =>
    rw [hh] at hc
    cases ob with
    | cells c T f => rw [h.2.2 b c T f hz hne hh]; exact hc
    | _ => simp at hc
/-- What the iterator does between the rounds: it writes blocks of a play, and makes memory. -/
def OwP (B : Nat) (W W' : World) : Prop := Keeps (fun q => B ≤ q ∧ ∃ (c : Array Value) (T : TypeId) (f : Nat × Nat), W.heap[q]? = some (.cells c T f) ∧ T ≠ 3 ∧ T ≠ 58) W W'
theorem OwP.of {B r g n : Nat} {ls : List Bool} {P : PlM} {W W' : World} (h : PlayAt W B r g ls P n) (hk : Keeps (fun q => q = r ∨ q = g) W W') : OwP B W W' := by
  obtain ⟨x, y, h⟩ := h
  refine hk.sub fun q _ hq => ?_
  rcases hq with rfl | rfl
  · exact ⟨h.lo, _, _, _, h.box, by decide, by decide⟩
  · obtain ⟨c, f, h1⟩ := Lib.ownsRow_kind h.places _ rfl
    exact ⟨(h.places.lt _ rfl).1, _, _, _, h1, by decide, by decide⟩
theorem OwP.row {B0 n s m : Nat} {A B : World} (h : OwP B0 A B) {E : TypeId} {v : Value} {xs : List Value} (hr : A.ownsRow n E s v m xs) (h1 : E = 3 ∨ E = 58) : B.ownsRow n E s v m xs :=
  Keeps.row h hr fun q hq hs => by
    obtain ⟨_, c, T, f, h2, h3, h4⟩ := hs
    obtain ⟨c', f', h5⟩ := Lib.ownsRow_kind hr q hq
    rw [h2] at h5
    injection h5 with h5
    injection h5 with _ h6
    rcases h1 with rfl | rfl
    · exact h3 h6
    · exact h4 h6
/-- The picks, and the boxes that hold them, the play, and its turn. -/
structure CapAt (w : World) (B r bp bk bt z hb : Nat) (pp : Option Addr) (np dp : Nat) (ps : List Int) : Prop where
  play : w.heap[bp]? = some (.cells #[.pointer (some ⟨r, 0, none⟩)] 85 (0, 0))
  picks : w.heap[bk]? = some (.cells #[.slice pp np dp] 58 (0, 0))
  turn : w.heap[bt]? = some (.cells #[.func (.func 44) #[.pointer (some ⟨r, 0, none⟩)] #[]] 88 (0, 0))
  nums : NumsAt w .i64 (.slice pp np dp) ps
  lt : (bp < z ∧ bp ≠ hb) ∧ (bk < z ∧ bk ≠ hb) ∧ (bt < z ∧ bt ≠ hb)
  old : ∀ b off, pp = some ⟨b, off, none⟩ → ps ≠ [] → b < z ∧ b ≠ hb ∧ b < B
theorem CapAt.cells {w : World} {B r bp bk bt z hb : Nat} {pp : Option Addr} {np dp : Nat} {ps : List Int} (h : CapAt w B r bp bk bt z hb pp np dp ps) : w.cell? ⟨bp, 0, none⟩ = some (.pointer (some ⟨r, 0, none⟩)) ∧ w.cell? ⟨bk, 0, none⟩ = some (.slice pp np dp) ∧ w.cell? ⟨bt, 0, none⟩ = some (.func (.func 44) #[.pointer (some ⟨r, 0, none⟩)] #[]) := by
  simp [World.cell?, h.play, h.picks, h.turn]
theorem CapAt.kp {w w' : World} {B r bp bk bt z hb : Nat} {pp : Option Addr} {np dp : Nat} {ps : List Int} (h : CapAt w B r bp bk bt z hb pp np dp ps) (hk : KpP hb z w w') : CapAt w' B r bp bk bt z hb pp np dp ps := by
  refine ⟨hk.2.2 _ _ _ _ h.lt.1.1 h.lt.1.2 h.play, hk.2.2 _ _ _ _ h.lt.2.1.1 h.lt.2.1.2 h.picks, hk.2.2 _ _ _ _ h.lt.2.2.1 h.lt.2.2.2 h.turn, ?_, h.lt, h.old⟩
  obtain ⟨q, cap, e, hc⟩ := h.nums
  refine ⟨q, cap, e, fun hne => ?_⟩
  obtain ⟨b, off, rfl, hcs⟩ := hc hne
  injection e with e1 _ _
  have := h.old b off e1 hne
  exact ⟨b, off, rfl, fun i hi => hk.cell this.1 this.2.1 (hcs i hi)⟩
theorem CapAt.keeps {S : Nat → Prop} {w w' : World} {B r bp bk bt z hb : Nat} {pp : Option Addr} {np dp : Nat} {ps : List Int} (h : CapAt w B r bp bk bt z hb pp np dp ps) (hk : Keeps S w w') (h1 : ¬ S bp) (h2 : ¬ S bk) (h3 : ¬ S bt) (h4 : ∀ b, b < B → ¬ S b) : CapAt w' B r bp bk bt z hb pp np dp ps := by
  refine ⟨(hk.block bp (Array.getElem?_eq_some_iff.1 h.play).1 h1).trans h.play, (hk.block bk (Array.getElem?_eq_some_iff.1 h.picks).1 h2).trans h.picks, (hk.block bt (Array.getElem?_eq_some_iff.1 h.turn).1 h3).trans h.turn, ?_, h.lt, h.old⟩
  obtain ⟨q, cap, e, hc⟩ := h.nums
  refine ⟨q, cap, e, fun hne => ?_⟩
  obtain ⟨b, off, rfl, hcs⟩ := hc hne
  injection e with e1 _ _
  have := h.old b off e1 hne
  exact ⟨b, off, rfl, fun i hi => hk.cell (hcs i hi) (h4 b this.2.2)⟩
/-- .. stays, behind a turn. -/
theorem CapAt.turned {w w' : World} {B r g bp bk bt z hb n : Nat} {ls : List Bool} {P : PlM} {pp : Option Addr} {np dp : Nat} {ps : List Int} (h : CapAt w B r bp bk bt z hb pp np dp ps) (hp : PlayAt w B r g ls P n) (hk : Keeps (fun q => q = r ∨ q = g) w w') : CapAt w' B r bp bk bt z hb pp np dp ps := by
  obtain ⟨x, y, hp⟩ := hp
  obtain ⟨c, f, hg⟩ := Lib.ownsRow_kind hp.places _ rfl
  have hno : ∀ (b : Nat) (cc : Array Value) (T : TypeId) (ff : Nat × Nat), w.heap[b]? = some (.cells cc T ff) → T ≠ 90 → T ≠ 24 → ¬ (b = r ∨ b = g) := fun b cc T ff hb h1 h2 hq => by
    rcases hq with rfl | rfl
    · rw [show w.heap[b]? = _ from hp.box] at hb
      injection hb with hb
      injection hb with _ h3
      exact h1 h3.symm
    · rw [hg] at hb
      injection hb with hb
      injection hb with _ h3
      exact h2 h3.symm
  refine h.keeps hk (hno _ _ _ _ h.play (by decide) (by decide)) (hno _ _ _ _ h.picks (by decide) (by decide)) (hno _ _ _ _ h.turn (by decide) (by decide)) (fun b hlt hq => ?_)
  have hq' : b = r ∨ b = g := hq
  rcases hq' with e | e
  · have := hp.lo; omega
  · have := (hp.places.lt g rfl).1; omega

theorem playR_one {ls : List Bool} {n : Nat} {P : PlM} {ps h : List Int} {j k : Nat} (hj : j < ps.length) (he : ps[j] = (k : Int)) (hok : okPick n P.ss ps[j] = true) : playR ls n (ps.drop j) P h = playR ls n (ps.drop (pickAt n (turnP ls P k).ss ps (j + 1))) (turnP ls P k) (if ((turnP ls P k).ss.getD k dS).p = 3 then h ++ [(k : Int)] else h) := by
  rw [List.drop_eq_getElem_cons hj, playR, if_pos hok, he, playR_skip]
  simp only [Int.toNat_natCast, List.drop_drop, pickAt]
theorem pickAt_ge (n : Nat) (ss : List SpM) (ps : List Int) (i : Nat) : i ≤ pickAt n ss ps i := by unfold pickAt; omega
theorem playR_skip0 (ls : List Bool) (n : Nat) (P : PlM) (ps : List Int) : playR ls n ps P [] = playR ls n (ps.drop (pickAt n P.ss ps 0)) P ([].map (fun k : Nat => (k : Int))) := by
  rw [playR_skip]; simp [pickAt]
set_option maxRecDepth 100000 in
set_option maxHeartbeats 16000000 in
theorem qholds (nf : Nat) (hnf : 1 ≤ nf) (B r g n bp bk bt z hb : Nat) (ls : List Bool) (P0 : PlM) (pp : Option Addr) (np dp : Nat) (ps : List Int) (w : World) (hP : PlayAt w B r g ls P0 n) (hok : PlOk ls P0) (hn : n ≤ 1099511627776) (hC : CapAt w B r bp bk bt z hb pp np dp ps) (hnp : np ≤ 1099511627776) (hB : B ≤ w.heap.size) :
    SeqOwn Fence.wide nf Try.prog 67 #[] #[.pointer (some ⟨bp, 0, none⟩), .pointer (some ⟨bk, 0, none⟩), .pointer (some ⟨bt, 0, none⟩)] (fun k : Nat => #[.int .i64 (k : Int)]) (KpP hb z) (OwP B)
      (fun xs W => PlayAt W B r g ls (playR ls n ps P0 []).1 n ∧ xs.map (fun k : Nat => (k : Int)) = (playR ls n ps P0 []).2) (fun _ => True) np w := fun lw J Jx W hW hJ hJx hJo hY h0 => by
  refine callsIn_of_wp Try.func67 rfl trivial ?_ rfl
  simp only [Try.ntmps67, List.size_toArray, List.length_cons, List.length_nil, Nat.reduceAdd, Nat.reduceSub, Array.replicate_succ, Array.replicate_zero, List.push_toArray, List.append_toArray, List.nil_append, List.cons_append]
  have hl : np = ps.length := by
    obtain ⟨_, _, e, _⟩ := hC.nums
    injection e
  have HPW := Lib.hid (hP.below hW)
  have HCW := Lib.hid (hC.keeps (S := fun _ => False) (Keeps.of_below hW) (fun h => h) (fun h => h) (fun h => h) (fun _ _ h => h))
  have HBW := Lib.hid (Nat.le_trans hB hW.size)
  have HL := Lib.hid hl
  have HOK := Lib.hid hok
  have HJ := Lib.hid (And.intro hJ (And.intro hJx hJo))
  have HY := Lib.hid hY
  have HJ0 := Lib.hid h0
  clear hP hC hB hW hl hok hJ hJx hJo hY h0
  obtain ⟨c0, c1, c2⟩ := HCW.out.cells
  have hp0 : pickAt n P0.ss ps 0 ≤ np := by
    have := pickAt_le n P0.ss ps 0 (Nat.zero_le _)
    have := HL.out
    omega
  have HPK := Lib.hid (show Calls Try.prog 68 #[.pointer (some ⟨r, 0, none⟩), .slice pp np dp, .int .i64 0] W fun e w' => e = .returned (.int .i64 ((pickAt n P0.ss ps 0 : Nat) : Int)) ∧ w' = W from by
    obtain ⟨x, y, h⟩ := HPW.out
    exact qpicked B r g n ls P0 x y W h hn pp np dp ps HCW.out.nums hnp 0 (Nat.zero_le _))
  gi_wp2_with (refine ⟨trivial, ?_⟩; gi_at_call 68; refine (callsIn_wide.2 HPK.out).mono ?_; rintro _ _ ⟨rfl, rfl⟩)
  gi_loopw [5] (fun iv wr => ∃ (j : Nat) (P : PlM) (pre : List Nat), j ≤ np ∧ iv = .int .i64 j ∧ Hid (playR ls n (ps.drop j) P (pre.map (fun k : Nat => (k : Int))) = playR ls n ps P0 [] ∧ PlOk ls P ∧ pre.length ≤ j ∧ ∀ h : j < ps.length, okPick n P.ss ps[j] = true) ∧ Hid (PlayAt wr B r g ls P n ∧ CapAt wr B r bp bk bt z hb pp np dp ps ∧ B ≤ wr.heap.size) ∧ Hid (J pre wr)) (fun iv _ => np - (intOf iv).toNat)
  case atStart => exact ⟨pickAt n P0.ss ps 0, P0, [], hp0, rfl, Lib.hid ⟨(playR_skip0 ls n P0 ps).symm, HOK.out, Nat.zero_le _, fun h => pickAt_ok h⟩, Lib.hid ⟨HPW.out, HCW.out, HBW.out⟩, HJ0⟩
  case round =>
    obtain ⟨j, P, pre, hj, rfl, HR, HP, HJP⟩ := hrel
    clear c0 c1 c2 hp0 HPK
    by_cases hlt : j < np
    · have hjl : j < ps.length := by have := HL.out; omega
      obtain ⟨hE, hOK, hlen, hpick⟩ := HR.out
      obtain ⟨k, hk, hkn, _⟩ := okPick_iff (hpick hjl)
      obtain ⟨hpl, hcap, hBB⟩ := HP.out
      have hil : k < P.ss.length := by
        obtain ⟨x, y, h⟩ := hpl
        rw [h.len]; exact hkn
      have HE := Lib.hid (hE.symm.trans (playR_one hjl hk (hpick hjl)))
      have HOK2 := Lib.hid (hOK.turn hil)
      have HTN := Lib.hid (qturn B r g n k ls P wr hpl hkn hn hOK hBB)
      obtain ⟨d0, d1, d2⟩ := hcap.cells
      obtain ⟨b, off, hpe, hx⟩ : ∃ b off, pp = some ⟨b, off, none⟩ ∧ wr.cell? ⟨b, off + j, none⟩ = some (.int .i64 (k : Int)) := by
        obtain ⟨q, cap, e, hc⟩ := hcap.nums
        injection e with e1 _ _
        obtain ⟨b, off, rfl, hcs⟩ := hc (by intro e; rw [e] at hjl; cases hjl)
        exact ⟨b, off, e1, by rw [← hk]; exact hcs j hjl⟩
      rw [hpe] at d1
      have HPE := Lib.hid hpe
      have HLEN := Lib.hid hlen
      have hpa1 := pickAt_ge n (turnP ls P k).ss ps (j + 1)
      have hpa2 : pickAt n (turnP ls P k).ss ps (j + 1) ≤ np := by
        have h1 := pickAt_le n (turnP ls P k).ss ps (j + 1) hjl
        have := HL.out
        omega
      have HPO := Lib.hid (fun h : pickAt n (turnP ls P k).ss ps (j + 1) < ps.length => pickAt_ok h)
      obtain ⟨m, hm⟩ : ∃ m, m = pickAt n (turnP ls P k).ss ps (j + 1) := ⟨_, rfl⟩
      rw [← hm] at hpa1 hpa2
      have HM := Lib.hid hm
      clear hE hOK hlen hpick hpl hcap hBB hil hpe hm
      by_cases h3 : ((turnP ls P k).ss.getD k dS).p = 3
      · have HX : ∀ W2 : World, PlayAt W2 B r g ls (turnP ls P k) n → Keeps (fun q => q = r ∨ q = g) wr W2 → W2.cell? ⟨bp, 0, none⟩ = some (.pointer (some ⟨r, 0, none⟩)) ∧ W2.cell? ⟨r, 3, none⟩ = some (.slice (some ⟨g, 0, none⟩) n n) ∧ W2.cell? ⟨g, k * 3 + 1, none⟩ = some (.int .i64 3) := fun W2 hP2 hk2 => by
          obtain ⟨x2, y2, h2⟩ := hP2
          obtain ⟨⟨_, c1, _⟩, _⟩ := h2.cell hkn
          rw [h3] at c1
          exact ⟨(HP.out.2.1.turned HP.out.1 hk2).cells.1, h2.box.cells.2.2.2, c1⟩
        have HX := Lib.hid HX
        have HYY := Lib.hid (fun W2 (hk2 : Keeps (fun q => q = r ∨ q = g) wr W2) => HY.out pre k W2 (HJ.out.2.2 _ _ _ HJP.out (OwP.of HP.out.1 hk2)) (by have := HLEN.out; omega))
        gi_wp2_with (refine ⟨trivial, ?_⟩; gi_at_call 44; refine (callsIn_wide.2 HTN.out).mono ?_; rintro _ W2 ⟨rfl, hP2, hk2⟩; obtain ⟨e0, e1, e2⟩ := HX.out W2 hP2 hk2; obtain ⟨fn, tmps, assign, body, hy2, hR⟩ := HYY.out W2 hk2; have HP2 := Lib.hid hP2; have HK2 := Lib.hid hk2; clear hP2 hk2)
        gi_wp2
        refine hR.mono ?_
        rintro e W3 (⟨rfl, hJ3, hk3⟩ | ⟨rfl, hJx3⟩)
        · have hC3 := (HP.out.2.1.turned HP.out.1 HK2.out).kp hk3
          obtain ⟨x2, y2, h2⟩ := HP2.out
          have h3' := hk3.play h2
          obtain ⟨f0, f1, f2⟩ := hC3.cells
          rw [HPE.out] at f1
          have HJ3 := Lib.hid hJ3
          have HC3 := Lib.hid hC3
          have HB3 := Lib.hid (Nat.le_trans HP.out.2.2 (Nat.le_trans HK2.out.size hk3.1))
          have HPK := Lib.hid (show Calls Try.prog 68 #[.pointer (some ⟨r, 0, none⟩), .slice (some ⟨b, off, none⟩) np dp, .int .i64 ((j : Int) + 1)] W3 fun e w' => e = .returned (.int .i64 ((m : Nat) : Int)) ∧ w' = W3 from by
            rw [HM.out, ← HPE.out, show (j : Int) + 1 = ((j + 1 : Nat) : Int) from rfl]
            exact qpicked B r g n ls _ _ _ W3 h3' hn pp np dp ps hC3.nums hnp (j + 1) hlt)
          have HP3 := Lib.hid (show PlayAt W3 B r g ls (turnP ls P k) n from ⟨_, _, h3'⟩)
          clear h2 h3' hk3 hC3 hJ3
          gi_wp2_with (refine ⟨trivial, ?_⟩; gi_at_call 68; refine (callsIn_wide.2 HPK.out).mono ?_; rintro _ _ ⟨rfl, rfl⟩)
          go_roundw
          case rel => exact ⟨m, turnP ls P k, pre ++ [k], by omega, by go_num, Lib.hid ⟨by rw [HE.out, if_pos h3, HM.out]; simp, HOK2.out, by simp; have := HLEN.out; omega, by rw [HM.out]; exact HPO.out⟩, Lib.hid ⟨HP3.out, HC3.out, HB3.out⟩, HJ3⟩
          case measure => simp [intOf]; omega
        · gi_wp2
          refine bodyPost_ret (results_none rfl _ _ _) rfl ?_
          exact ⟨⟨_, rfl⟩, .inr ⟨_, trivial, hJx3⟩⟩
      · obtain ⟨q, hq⟩ : ∃ q, q = ((turnP ls P k).ss.getD k dS).p := ⟨_, rfl⟩
        have hq3 : (q == 3) = false := by rw [beq_eq_false_iff_ne, hq]; exact h3
        have HX := Lib.hid (fun (W2 : World) (hP2 : PlayAt W2 B r g ls (turnP ls P k) n) (hk2 : Keeps (fun q => q = r ∨ q = g) wr W2) => show W2.cell? ⟨bp, 0, none⟩ = some (.pointer (some ⟨r, 0, none⟩)) ∧ W2.cell? ⟨bk, 0, none⟩ = some (.slice (some ⟨b, off, none⟩) np dp) ∧ W2.cell? ⟨r, 3, none⟩ = some (.slice (some ⟨g, 0, none⟩) n n) ∧ W2.cell? ⟨g, k * 3 + 1, none⟩ = some (.int .i64 q) ∧ Hid (Calls Try.prog 68 #[.pointer (some ⟨r, 0, none⟩), .slice (some ⟨b, off, none⟩) np dp, .int .i64 ((j : Int) + 1)] W2 fun e w' => e = .returned (.int .i64 ((m : Nat) : Int)) ∧ w' = W2) ∧ Hid (J pre W2 ∧ CapAt W2 B r bp bk bt z hb pp np dp ps ∧ B ≤ W2.heap.size) from by
          have hJ2 := HJ.out.2.2 _ _ _ HJP.out (OwP.of HP.out.1 hk2)
          have hC2 := HP.out.2.1.turned HP.out.1 hk2
          obtain ⟨x2, y2, h2⟩ := hP2
          obtain ⟨⟨_, c1, _⟩, _⟩ := h2.cell hkn
          refine ⟨hC2.cells.1, by rw [← HPE.out]; exact hC2.cells.2.1, h2.box.cells.2.2.2, by rw [hq]; exact c1, Lib.hid ?_, Lib.hid ⟨hJ2, hC2, Nat.le_trans HP.out.2.2 hk2.size⟩⟩
          rw [HM.out, ← HPE.out, show (j : Int) + 1 = ((j + 1 : Nat) : Int) from rfl]
          exact qpicked B r g n ls _ _ _ W2 h2 hn pp np dp ps hC2.nums hnp (j + 1) hlt)
        have H3 := Lib.hid h3
        clear hq h3
        gi_wp2_with (refine ⟨trivial, ?_⟩; gi_at_call 44; refine (callsIn_wide.2 HTN.out).mono ?_; rintro _ W2 ⟨rfl, hP2, hk2⟩; obtain ⟨e0, e1, e2, e3, HPK, HJ2⟩ := HX.out W2 hP2 hk2; have HP2 := Lib.hid hP2; clear hP2 hk2)
        refine ⟨fun f h => (by cases h), ?_⟩
        gi_wp2_with (refine ⟨trivial, ?_⟩; gi_at_call 68; refine (callsIn_wide.2 HPK.out).mono ?_; rintro _ _ ⟨rfl, rfl⟩)
        go_roundw
        case rel => exact ⟨m, turnP ls P k, pre, by omega, by go_num, Lib.hid ⟨by rw [HE.out, if_neg H3.out, HM.out], HOK2.out, by have := HLEN.out; omega, by rw [HM.out]; exact HPO.out⟩, Lib.hid ⟨HP2.out, HJ2.out.2.1, HJ2.out.2.2⟩, Lib.hid HJ2.out.1⟩
        case measure => simp [intOf]; omega
    · obtain ⟨d0, d1, d2⟩ := HP.out.2.1.cells
      gi_wp2
      go_end0
      obtain rfl : j = np := by omega
      obtain ⟨hE, _, _, _⟩ := HR.out
      rw [List.drop_eq_nil_of_le (by have := HL.out; omega)] at hE
      exact ⟨⟨_, rfl⟩, .inl ⟨pre, ⟨by rw [← hE]; exact HP.out.1, by rw [← hE]; rfl⟩, HJP.out⟩⟩

end Go.Proofs.Ytcledklajcdfiaa
