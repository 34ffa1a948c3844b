/-
  Lay, of package spin: a lock is laid.
  Conditions: none but the ranges of Go's types.
-/
import Derived.Test.YtcnpmkigiklnnaaKS11
import Derived.RangeFuncBox
import Derived.Test.YtcnpmkigiklnnaaKS10
/-
  Play, of package spin: all picks, one behind the other.
  Conditions: the memory may be, and all; the picks are few.
-/
namespace Go.Proofs.Ytcnpmkigiklnnaa
open Go.RowKit Go.Shelf
attribute [local go_sem] Oper.semAt_some

theorem PlayIn.putObj {w : World} {B r g : Nat} {ls : List Bool} {P : PlM} {x y : Value} {n : Nat} (h : PlayIn w B r g ls P x y n) (l : Nat) (o o' : Obj) (hl : w.heap[l]? = some o) (ho : o.isCells = false) : PlayIn (w.putObj l o') B r g ls P x y n := by
  have hk : Keeps (· = l) w (w.putObj l o') := ⟨rfl, rfl, rfl, by simp [World.putObj], fun q _ hq => World.putObj_heap_other hq⟩
  have hno : ∀ (q : Nat) (c : Array Value) (T : TypeId) (ff : Nat × Nat), w.heap[q]? = some (.cells c T ff) → ¬ q = l := fun q c T ff hq e => by
    subst e
    rw [hl] at hq
    injection hq with hq
    subst hq
    cases ho
  have hrow : ∀ {E : TypeId} {s m : Nat} {v : Value} {xs : List Value}, w.ownsRow B E s v m xs → (w.putObj l o').ownsRow B E s v m xs := fun hr => hk.row hr fun q hq => by
    obtain ⟨c, f, h1⟩ := Lib.ownsRow_kind hr q hq
    exact hno _ _ _ _ h1
  exact ⟨(hk.block r h.box.lt (hno _ _ _ _ h.box)).trans h.box, hrow h.words, hrow h.lives, hrow h.places, h.len, h.lo⟩
theorem OwP.obj {B : Nat} {A C : World} (h : OwP B A C) (l : Nat) (o : Obj) (hl : A.heap[l]? = some o) (ho : o.isCells = false) : C.heap[l]? = some o :=
  (h.block l (Array.getElem?_eq_some_iff.1 hl).1 (by
    rintro ⟨_, c, T, f, h1, _⟩
    rw [hl] at h1
    injection h1 with h1
    subst h1
    cases ho)).trans hl
theorem OwP.boxed {B : Nat} {A C : World} (h : OwP B A C) {b : Nat} {v : Value} (hb : Boxed A b 58 v) : Boxed C b 58 v :=
  (h.block b hb.lt (by
    rintro ⟨_, c, T, f, h1, _, h2⟩
    rw [show A.heap[b]? = _ from hb] at h1
    injection h1 with h1
    injection h1 with _ h1
    exact h2 h1.symm)).trans hb

theorem mbox_own {β : Type} (B z : Nat) (a b : Value) (f : Bool) : OwnFrom B (fun (_ : β) W => MBox W z a b f) := fun _ X Y row hs hg hr =>
  (hg.block z hs.lt (fun e => by
    obtain ⟨_, o, ho, hc⟩ := hr z e.symm
    rw [show X.heap[z]? = _ from hs] at ho
    cases ho
    cases hc)).trans hs
theorem KpP.refl (hb z : Nat) (W : World) : KpP hb z W W := ⟨Nat.le_refl _, fun _ _ _ _ _ _ h => h, fun _ _ _ _ _ _ h => h⟩
theorem KpP.alloc (hb z : Nat) (W : World) (o : Obj) : KpP hb z W (W.alloc o) :=
  have h : ∀ (b : Nat) (c : Array Value) (T : TypeId) (f : Nat × Nat), W.heap[b]? = some (.cells c T f) → (W.alloc o).heap[b]? = some (.cells c T f) := fun b _ _ _ hc => (Below.heap_alloc W o b (Array.getElem?_eq_some_iff.1 hc).1).trans hc
  ⟨by simp, fun b c T f _ _ hc => h b c T f hc, fun b c T f _ _ hc => h b c T f hc⟩
theorem KpP.grown {hb z : Nat} {W W' : World} {row : Option Nat} (hg : W.grownBy W' row) (hrow : ∀ q, row = some q → z ≤ q ∧ ∃ c f, W.heap[q]? = some (.cells c 3 f)) : KpP hb z W W' := by
  refine ⟨hg.size, fun b c T f h1 _ hc => (hg.block b (Array.getElem?_eq_some_iff.1 hc).1 fun e => ?_).trans hc, fun b c T f h1 _ hc => (hg.block b (Array.getElem?_eq_some_iff.1 hc).1 fun e => ?_).trans hc⟩
  · obtain ⟨_, c', f', h2⟩ := hrow b e.symm
    rw [hc] at h2
    injection h2 with h2
    injection h2 with _ h2
    exact h1 h2
  · have := (hrow b e.symm).1
    omega
theorem KpP.setCell {hb z : Nat} {W : World} {u : Value} (h : Boxed W hb 58 u) (v : Value) : KpP hb z W (W.setCell ⟨hb, 0, none⟩ v) := by
  have hk := Keeps.setCell W (S := (· = hb)) (p := ⟨hb, 0, none⟩) rfl v
  refine ⟨hk.size, fun b c T f _ h1 hc => (hk.block b (Array.getElem?_eq_some_iff.1 hc).1 fun e => ?_).trans hc, fun b c T f _ h1 hc => (hk.block b (Array.getElem?_eq_some_iff.1 hc).1 h1).trans hc⟩
  have e' : b = hb := e
  subst e'
  rw [show W.heap[b]? = _ from h] at hc
  injection hc with hc
  injection hc with _ hc
  exact h1 hc.symm

theorem owns_some {w : World} {B : Nat} {E : TypeId} {s n : Nat} {v : Value} {xs : List Value} (h : w.ownsRow B E s v (n + 1) xs) : ∃ g c, v = .slice (some ⟨g, 0, none⟩) (n + 1) c := by
  rcases h.2 with ⟨_, h0⟩ | ⟨g, cap, cur, rfl, _⟩
  · cases h0
  · exact ⟨_, _, rfl⟩
theorem wp_then_of {P : Program} {c : Code} {K : Act → World → Prop} {Q' : Exit → Act → World → Prop} {a : Act} {w : World} (h : Code.wp P c (Exit.then K (fun _ _ _ => False)) a w) : Code.wp P c (Exit.then K Q') a w :=
  Code.wp_mono (fun e a w h => by cases e <;> first | exact h | exact False.elim h) h
theorem own_any {w : World} {B : Nat} {E : TypeId} {s n : Nat} {v : Value} {xs : List Value} (h : w.ownsRow B E s v n xs) : ∃ p n c, v = .slice p n c := by
  rcases h.2 with ⟨rfl, rfl⟩ | ⟨g, cap, cur, rfl, _⟩
  · exact ⟨_, _, _, rfl⟩
  · exact ⟨_, _, _, rfl⟩
theorem three_boxes (A : World) (v1 v2 v3 : Value) (T1 T2 T3 : TypeId) : (((A.alloc (.cells #[v1] T1)).alloc (.cells #[v2] T2)).alloc (.cells #[v3] T3)).heap[A.heap.size]? = some (.cells #[v1] T1 (0, 0)) ∧
    (((A.alloc (.cells #[v1] T1)).alloc (.cells #[v2] T2)).alloc (.cells #[v3] T3)).heap[A.heap.size + 1]? = some (.cells #[v2] T2 (0, 0)) ∧ (((A.alloc (.cells #[v1] T1)).alloc (.cells #[v2] T2)).alloc (.cells #[v3] T3)).heap[A.heap.size + 2]? = some (.cells #[v3] T3 (0, 0)) := by
  have h1 : Boxed _ _ T1 v1 := ((Boxed.new A T1 v1).alloc (.cells #[v2] T2)).alloc (.cells #[v3] T3)
  have h2 : Boxed _ _ T2 v2 := (Boxed.new (A.alloc (.cells #[v1] T1)) T2 v2).alloc (.cells #[v3] T3)
  have h3 : Boxed _ _ T3 v3 := Boxed.new ((A.alloc (.cells #[v1] T1)).alloc (.cells #[v2] T2)) T3 v3
  rw [World.size_alloc] at h2
  rw [World.size_alloc, World.size_alloc] at h3
  exact ⟨h1, h2, h3⟩

/-- What Play hands over. -/
def PlayRes (B n : Nat) (ls : List Bool) (P : PlM) (hs : List Int) (e : Ending) (w' : World) : Prop :=
  ∃ x y g vh, e = .returned (.tuple #[.agg #[x, y, .bool P.f], .slice (some ⟨g, 0, none⟩) n n, vh, .int .i64 0]) ∧ w'.ownsRow B 22 1 x P.ws.length (P.ws.map (Value.int .u64)) ∧ w'.ownsRow B 4 1 y ls.length (ls.map Value.bool) ∧
    w'.ownsRow B 24 3 (.slice (some ⟨g, 0, none⟩) n n) n (flatS P.ss) ∧ P.ss.length = n ∧ w'.ownsRow B 3 1 vh hs.length (hs.map (Value.int .i64))

theorem num_info : (Try.prog.info? 3).map (fun i => (i.zero, i.size, i.bytes)) = some (some (.int .i64 0), 1, 8) := by kernel_rfl

set_option maxRecDepth 100000 in
set_option maxHeartbeats 16000000 in
theorem qplay (v v1 v2 : Value) (ws : List Int) (ls : List Bool) (f : Bool) (ss : List SpM) (ps : List Int) (W : World) (hv : MemAt W v ws ls f) (hr : rightB ws ls = true) (hW : WRange ws) (hS : SpinsAt W v1 ss) (hmax : ss.length ≤ 1099511627776) (hall : ∀ s ∈ ss, rightS s = true) (hsr : ∀ s ∈ ss, SpR s) (hN : NumsAt W .i64 v2 ps) (hnp : ps.length ≤ 4294967296) :
    Calls Try.prog 26 #[v, v1, v2] W fun e w' => PlayRes W.heap.size ss.length ls (playR ls ss.length ps ⟨ws, f, ss⟩ []).1 (playR ls ss.length ps ⟨ws, f, ss⟩ []).2 e w' ∧ Below W.heap.size W w' := by
  obtain ⟨i0, hi0, hz0, hz1, hz2⟩ := info_parts num_info
  have hm := hv
  have hs := hS
  have hn0 := hN
  obtain ⟨vw, vl, rfl, ⟨pw, cw, rfl, hcw⟩, pl, cl, rfl, hcl⟩ := hv
  obtain ⟨q, cap, rfl, hc⟩ := hS
  obtain ⟨pp, dp, rfl, hcp⟩ := hN
  obtain ⟨n, hn⟩ : ∃ n, n = ss.length := ⟨_, rfl⟩
  obtain ⟨np, hpn⟩ : ∃ np, np = ps.length := ⟨_, rfl⟩
  have HM := Lib.hid hm
  have HS := Lib.hid hs
  have HNU := Lib.hid hn0
  have HBEG := Lib.hid (fun (Z : World) (hb : Below W.heap.size W Z) => (qbegin _ _ ws ls f ss Z (hm.below hb) hr (hs.below hb) hmax).mono fun e w' h => by
    rcases h with ⟨⟨_, h1⟩ | ⟨⟨s, h1, h2⟩, _⟩, h3⟩
    · exact (⟨h1, h3⟩ : (∃ r g, e = .returned (.tuple #[.pointer (some ⟨r, 0, none⟩), .int .i64 0]) ∧ PlayAt w' Z.heap.size r g ls ⟨ws, f, ss⟩ ss.length) ∧ Below Z.heap.size Z w')
    · rw [hall s h1] at h2; cases h2)
  have HOK := Lib.hid (show PlOk ls ⟨ws, f, ss⟩ from ⟨hr, hW, hall, hsr⟩)
  rw [← hn] at hmax HBEG
  rw [← hpn] at hnp HNU
  rw [← hn, ← hpn]
  clear hm hs hn0 hcw hcl hc hcp hr hW hall hsr
  have HN := Lib.hid hn
  have HP := Lib.hid hpn
  clear hn hpn
  refine (callsIn_wide (n := 9)).1 ?_
  refine callsIn_of_wp_marks Try.func26 rfl trivial ?_ rfl
  simp only [Try.ntmps26, List.size_toArray, List.length_cons, List.length_nil, Nat.reduceAdd, Nat.reduceSub, Array.replicate_succ, Array.replicate_zero, List.push_toArray, List.append_toArray, List.nil_append, List.cons_append]
  gi_wp2_with (refine ⟨trivial, ?_⟩; gi_at_call 39; refine (callsIn_wide.2 (HBEG.out _ (below2 _ _ _))).mono ?_; rintro _ w1 ⟨⟨r, g, rfl, hp1⟩, hb1⟩)
  obtain ⟨hb, hhb⟩ : ∃ hb, hb = w1.heap.size := ⟨_, rfl⟩
  rw [← hhb]
  obtain ⟨w3, hw3⟩ : ∃ w3 : World, w3 = (((w1.alloc (.cells #[.slice none 0 0] 58)).alloc (.cells #[.pointer (some ⟨r, 0, none⟩)] 85)).alloc (.cells #[.func (.func 44) #[.pointer (some ⟨r, 0, none⟩)] #[]] 88)).alloc (.cells #[.slice pp np dp] 58) := ⟨_, rfl⟩
  have HW1 := Lib.hid (And.intro hhb hw3)
  have HP1 := Lib.hid hp1
  have HB1 := Lib.hid hb1
  clear hhb hw3 hp1 hb1
  gi_wp2_with (refine ⟨trivial, ?_⟩; gi_at_call 43; refine (callsIn_wide.2 (qholders r _ (.slice pp np dp) ⟨_, _, _, rfl⟩ _)).mono ?_; rintro _ _ ⟨rfl, rfl⟩; rw [World.size_alloc, ← HW1.out.1, ← HW1.out.2])
  obtain ⟨z, hz⟩ : ∃ z, z = w3.heap.size := ⟨_, rfl⟩
  have hzz : z = hb + 4 := by
    have h1 := HW1.out
    rw [hz, h1.2]; simp only [World.size_alloc]; omega
  have hBW : W.heap.size + 2 ≤ hb := by
    have h1 := HB1.out.size
    have h2 := HW1.out.1
    simp only [World.size_alloc] at h1
    omega
  have HB3 := Lib.hid (show Below (W.heap.size + 2) w1 w3 by
    rw [HW1.out.2]
    have h2 := HW1.out.1
    exact ((((Below.refl _ _).alloc (by omega) _).alloc (by simp; omega) _).alloc (by simp; omega) _).alloc (by simp; omega) _)
  have HP3 := Lib.hid (show PlayAt w3 (W.heap.size + 2) r g ls ⟨ws, f, ss⟩ n by
    have h1 := HP1.out
    simp only [World.size_alloc] at h1
    exact h1.below (by rw [HW1.out.2]; exact below4 _ _ _ _ _))
  have HBX := Lib.hid (show MBox w3 (W.heap.size + 1) (.slice none 0 0) (.slice none 0 0) false by
    have h0 := MBox.new (W.alloc (.cells #[.slice pw ws.length cw, .slice pl ls.length cl, .bool f] 46)) (.slice none 0 0) (.slice none 0 0) false
    have h1 := (h0.below HB1.out).below (show Below w1.heap.size w1 w3 by rw [HW1.out.2]; exact below4 _ _ _ _ _)
    rwa [World.size_alloc] at h1)
  have HHB := Lib.hid (show Boxed w3 hb 58 (.slice none 0 0) by
    rw [HW1.out.2, HW1.out.1]
    exact ((((Boxed.new w1 _ _).alloc _).alloc _).alloc _))
  have HBW3 := Lib.hid (show Below W.heap.size W w3 from below_then (below_then (below2 W _ _) (below2 W _ _).size HB1.out) (Nat.le_trans (below2 W _ _).size HB1.out.size) (by rw [HW1.out.2]; exact below4 _ _ _ _ _))
  have HC3 := Lib.hid (show CapAt w3 (W.heap.size + 2) r (hb + 1) (hb + 1 + 2) (hb + 1 + 1) z hb pp np dp ps by
    obtain ⟨e1, e2⟩ := HW1.out
    have h3 := three_boxes (w1.alloc (.cells #[.slice none 0 0] 58)) (.pointer (some ⟨r, 0, none⟩)) (.func (.func 44) #[.pointer (some ⟨r, 0, none⟩)] #[]) (.slice pp np dp) 85 88 58
    rw [World.size_alloc, ← e1, ← e2] at h3
    refine ⟨h3.1, h3.2.2, h3.2.1, nums_below HNU.out HBW3.out, ⟨by omega, by omega, by omega⟩, ?_⟩
    intro b off e hne
    obtain ⟨q', c', e', hc⟩ := HNU.out
    injection e' with e1' _ _
    obtain ⟨b2, off2, e3, hcs⟩ := hc hne
    have h4 := World.block_lt_of_cell? W _ (hcs 0 (List.length_pos_iff.2 hne))
    rw [e, e3] at e1'
    injection e1' with e1'
    injection e1' with e1'
    simp only at h4
    omega)
  have HQ := Lib.hid (qholds 8 (by omega) (W.heap.size + 2) r g n (hb + 1) (hb + 1 + 2) (hb + 1 + 1) z hb ls ⟨ws, f, ss⟩ pp np dp ps w3 HP3.out HOK.out hmax HC3.out (by omega) (by omega))
  have HOKK := HOK
  clear HW1 HP1 HB1 HBEG HM HS HC3
  refine wpIn_rangeOwn rfl (by omega) (gf := 67) (bd := #[]) (lb := #[.pointer (some ⟨hb + 1, 0, none⟩), .pointer (some ⟨hb + 1 + 2, 0, none⟩), .pointer (some ⟨hb + 1 + 1, 0, none⟩)]) rfl trivial (enters_of Try.func67 (by kernel_rfl) rfl)
    HQ.out (fun A B l o h h1 h2 => h.obj l o h1 h2) ?hSt (fun h k => h.trans k) (fun W l o o' _ h1 h2 _ => KpP.turn hb z W l o o' h1 h2) (Below.refl _ _) (fun _ => rfl)
    (fun pre X => (∃ v, Boxed X hb 58 v ∧ X.ownsRow z 3 1 v pre.length (pre.map (fun k : Nat => Value.int .i64 (k : Int))) ∧ True) ∧ MBox X (W.heap.size + 1) (.slice none 0 0) (.slice none 0 0) false ∧ Below W.heap.size W X)
    (fun _ _ _ => False)
    ?hI ?hIx ?hIo ?h0
    (fun k a' _ => a' = { tmps := #[Value.agg #[Value.slice pw ws.length cw, Value.slice pl ls.length cl, Value.bool f], .slice q n cap, .slice pp np dp, .pointer (some ⟨W.heap.size, 0, none⟩), undef, undef, .pointer (some ⟨W.heap.size + 1, 0, none⟩), .slice none 0 0, .slice none 0 0, .int .i64 0, .pointer (some ⟨r, 0, none⟩), .int .i64 0, .pointer (some ⟨hb, 0, none⟩), .int .i64 (k : Int), .tuple #[.pointer (some ⟨r, 0, none⟩), .int .i64 0], Value.agg #[Value.slice pw ws.length cw, Value.slice pl ls.length cl, Value.bool f], .slice q n cap, .tuple #[.pointer (some ⟨r, 0, none⟩), .int .i64 0], .pointer (some ⟨r, 0, none⟩), .int .i64 0, .int .i64 0, .bool false, undef, undef, .pointer (some ⟨r, 0, none⟩), .pointer (some ⟨r, 0, none⟩), .func (.func 44) #[.pointer (some ⟨r, 0, none⟩)] #[], .slice pp np dp, .func (.func 67) #[] #[.pointer (some ⟨hb + 1, 0, none⟩), .pointer (some ⟨hb + 1 + 2, 0, none⟩), .pointer (some ⟨hb + 1 + 1, 0, none⟩)], .int .i64 (k : Int), undef, undef, undef, undef, undef, undef, undef, undef, undef, undef, undef, undef, undef], defers := [] })
    ?hAx ?assign ?body ?done ?stop
  case hI => exact OwnFrom.and (Own.from (holdsRow_own z hb 58 3 1 (fun pre : List Nat => pre.length) (fun pre : List Nat => pre.map (fun k : Nat => Value.int .i64 (k : Int))) (fun _ _ => True)) _) (OwnFrom.and (mbox_own _ _ _ _ _) (ownFrom_below (Nat.le_refl _) (by omega)))
  case hIx => exact fun _ _ _ _ _ hs _ _ => hs
  case hAx => exact fun _ _ _ _ _ _ hs _ _ => hs
  case h0 => exact ⟨⟨_, HHB.out, World.ownsRow_nil _ _ _ _, trivial⟩, HBX.out, HBW3.out⟩
  case hSt =>
    rintro xs A l o o' _ ⟨⟨x, y, h1⟩, h2⟩ hl ho
    exact ⟨⟨x, y, h1.putObj l o o' hl ho⟩, h2⟩
  case hIo =>
    rintro pre A C ⟨⟨v, h1, h2, _⟩, h3, h4⟩ hO
    refine ⟨⟨v, hO.boxed h1, hO.row h2 (.inl rfl), trivial⟩, h3.keeps hO (by rintro ⟨h, _⟩; omega), h4.trans (Keeps.below hO h4.size (fun q hq => by have := hq.1; omega))⟩
  case assign =>
    rintro lq pre k X K hI0 hK
    gi_wp2
    exact hK _ _ ((KeepsOthers.refl _).from _) (KpP.refl _ _ _) hI0 rfl
  case body =>
    rintro lq pre k a' X hl ⟨rr, hloop⟩ ⟨⟨v, hbv, hrow, _⟩, hmb, hB⟩ rfl hlen
    have hzX : z ≤ X.heap.size := by have := (Array.getElem?_eq_some_iff.1 hloop).1; omega
    clear hloop
    have hbl1 := hbv.lt
    have hcv := hbv.cell
    have HOWN := Lib.hid (hrow.alloc (.cells #[.int .i64 (k : Int)] 3))
    have HNEW := Lib.hid (show ∀ (j : Nat) (u : Value), [Value.int .i64 (k : Int)][j]? = some u → (X.alloc (.cells #[.int .i64 (k : Int)] 3)).cell? ((⟨X.heap.size, 0, none⟩ : Addr).add j) = some u from by
      intro j u hj
      rw [addr_add_off]
      match j, hj with
      | 0, hj => simp at hj; subst hj; simp
      | j + 1, hj => simp at hj)
    have HBV := Lib.hid hbv
    have HMB := Lib.hid (And.intro hmb hB)
    clear hrow hmb hB
    gi_wp2_with (gi_at_builtin; refine wpListIn_append_own _ rfl _ _ 58 rfl z 3 i0 (.int .i64 0) 1 8 Try.underlying58 hi0 hz0 hz1 hz2 rfl (by decide) _ _ _ rfl HOWN.out ⟨X.heap.size, 0, none⟩ 1 1 [.int .i64 (k : Int)] rfl rfl HNEW.out (by intro u hu; simp at hu; rcases hu with rfl; rfl) (by unfold maxLen; omega) (by omega) (by simp; omega) ?_; intro v' w4 hown' hgrow _; obtain ⟨g', c', rfl⟩ := owns_some hown'; have hb1 : Boxed w4 hb 58 v := (HBV.out.alloc _).kept hgrow (HBV.out.alloc _ |>.not_row (by decide) HOWN.out); have hcb := hb1.cell; have hfb := hb1.frozen)
    have hkind : ∀ (q : Nat) (o : Obj), v.ownBlock = some q → (X.alloc (.cells #[.int .i64 (k : Int)] 3)).heap[q]? = some o → o.isCells = true := by
      intro q o hq ho
      obtain ⟨c, fz, h1⟩ := Lib.ownsRow_kind HOWN.out q hq
      rw [h1] at ho
      cases ho
      rfl
    have hbase : ∀ q, v.ownBlock = some q → z ≤ q := fun q hq => (HOWN.out.lt q hq).1
    have hkg : Keeps (fun q => z ≤ q) (X.alloc (.cells #[.int .i64 (k : Int)] 3)) w4 :=
      ⟨hgrow.os, hgrow.tape, hgrow.output, hgrow.size, fun q hq hn => hgrow.block q hq fun e => hn (hbase q e.symm)⟩
    have hown2 := ownsRow_setCell_below hown' (a := ⟨hb, 0, none⟩) (by simp; omega) (.slice (some ⟨g', 0, none⟩) (pre.length + 1) c')
    have hks := Keeps.setCell w4 (S := (· = hb)) (p := ⟨hb, 0, none⟩) rfl (.slice (some ⟨g', 0, none⟩) (pre.length + 1) c')
    refine ⟨(((KeepsOthers.alloc X _).trans (KeepsOthers.of_grownBy hgrow hkind)).trans (KeepsOthers.setCell _ _ _)).from _, ((KpP.alloc hb z X _).trans (KpP.grown hgrow fun q e => ⟨hbase q e, Lib.ownsRow_kind HOWN.out q e⟩)).trans (KpP.setCell hb1 _), ⟨⟨_, hb1.set _, ?_, trivial⟩, ?_, ?_⟩⟩
    · rw [List.length_append, List.length_singleton, List.map_append, List.map_singleton]
      exact hown2
    · exact (((HMB.out.1.alloc _).keeps hkg (by omega)).keeps hks (by omega))
    · exact (((HMB.out.2.alloc HMB.out.2.size _).grown hgrow (by have := HMB.out.2.size; simp; omega) (fun q e => by have := hbase q e; omega))).setCell (p := ⟨hb, 0, none⟩) (by simp; omega) _
  case done =>
    rintro D xs X hD ⟨⟨x, y, hpl⟩, hxs⟩ ⟨⟨v, hbv, hrow, _⟩, hmb, hB⟩ hK
    have hcv := hbv.cell
    obtain ⟨px, nx, cx, rfl⟩ := own_any hpl.words
    obtain ⟨py, ny, cy, rfl⟩ := own_any hpl.lives
    have HPL := Lib.hid hpl
    have HROW := Lib.hid hrow
    have HMB := Lib.hid (And.intro hmb hB)
    have HXS := Lib.hid hxs
    clear hpl hrow hmb hB hxs HQ HOK HOKK HP3 HBX HHB HBW3 HB3
    gi_wp2_with fail
    have HK := Lib.hid hK
    clear hK
    refine (wpIn_wide (n := 9)).2 (wp_then_of ?_)
    obtain ⟨fo, hfo⟩ : ∃ fo, fo = (playR ls n ps ⟨ws, f, ss⟩ []).1.f := ⟨_, rfl⟩
    have HF := Lib.hid hfo
    refine wpTwo_begin (T := fun w' => YBox w' r (.slice px nx cx) (.slice py ny cy) fo (.slice (some ⟨g, 0, none⟩) n n) ∧ Boxed w' hb 58 v) (S := fun _ => True) (late := fun j => [9].contains j) (by kernel_rfl) ?_
    obtain ⟨X0, hX0⟩ : ∃ Y : World, Y = X.drew := ⟨_, rfl⟩
    rw [← hX0]
    have hbX : Below X.heap.size X X0 := by rw [hX0]; exact (Below.refl _ _).drew
    have hT : YBox X0 r (.slice px nx cx) (.slice py ny cy) fo (.slice (some ⟨g, 0, none⟩) n n) ∧ Boxed X0 hb 58 v := ⟨by rw [hfo]; exact HPL.out.box.below hbX, (hbX.block hb hbv.lt).trans hbv⟩
    have HX := Lib.hid hbX
    clear hbX hX0 hfo hcv hbv
    refine wpTwo_takeT (i := 0) (v := .pointer (some ⟨r, 0, none⟩)) rfl (by kernel_rfl) (by kernel_rfl) (by kernel_rfl) (fun _ _ _ h => h) ⟨by rfl, ?_⟩ hT ?_
    · rintro w hTw
      go_simp
    (try simp only [Act.put, List.getElem_toArray, List.getElem_cons_zero, List.setIfInBounds_toArray, List.set_cons_succ, List.set_cons_zero])
    refine wpTwo_takeT (i := 1) (v := .pointer (some ⟨r, 0, none⟩)) rfl (by kernel_rfl) (by kernel_rfl) (by kernel_rfl) (fun _ _ _ h => h) ⟨by rfl, ?_⟩ hT ?_
    · rintro w hTw
      go_simp
    (try simp only [Act.put, List.getElem_toArray, List.getElem_cons_succ, List.getElem_cons_zero, List.setIfInBounds_toArray, List.set_cons_succ, List.set_cons_zero])
    refine wpTwo_takeT (i := 2) (v := .pointer (some ⟨r, 0, none⟩)) rfl (by kernel_rfl) (by kernel_rfl) (by kernel_rfl) (fun _ _ _ h => h) ⟨by rfl, ?_⟩ hT ?_
    · rintro w hTw
      go_simp
    (try simp only [Act.put, List.getElem_toArray, List.getElem_cons_succ, List.getElem_cons_zero, List.setIfInBounds_toArray, List.set_cons_succ, List.set_cons_zero])
    refine wpTwo_takeT (i := 3) (v := .agg #[.slice px nx cx, .slice py ny cy, .bool fo]) rfl (by kernel_rfl) (by kernel_rfl) (by kernel_rfl) (fun _ _ _ h => h) ⟨by rfl, ?_⟩ hT ?_
    · rintro w hTw
      obtain ⟨t0, t1, t2, t3⟩ := YBox.cells hTw.1
      go_simp
    (try simp only [Act.put, List.getElem_toArray, List.getElem_cons_succ, List.getElem_cons_zero, List.setIfInBounds_toArray, List.set_cons_succ, List.set_cons_zero])
    refine wpTwo_takeT (i := 4) (v := .pointer (some ⟨r, 0, none⟩)) rfl (by kernel_rfl) (by kernel_rfl) (by kernel_rfl) (fun _ _ _ h => h) ⟨by rfl, ?_⟩ hT ?_
    · rintro w hTw
      go_simp
    (try simp only [Act.put, List.getElem_toArray, List.getElem_cons_succ, List.getElem_cons_zero, List.setIfInBounds_toArray, List.set_cons_succ, List.set_cons_zero])
    refine wpTwo_takeT (i := 5) (v := .pointer (some ⟨r, 0, none⟩)) rfl (by kernel_rfl) (by kernel_rfl) (by kernel_rfl) (fun _ _ _ h => h) ⟨by rfl, ?_⟩ hT ?_
    · rintro w hTw
      go_simp
    (try simp only [Act.put, List.getElem_toArray, List.getElem_cons_succ, List.getElem_cons_zero, List.setIfInBounds_toArray, List.set_cons_succ, List.set_cons_zero])
    refine wpTwo_takeT (i := 6) (v := .pointer (some ⟨r, 3, none⟩)) rfl (by kernel_rfl) (by kernel_rfl) (by kernel_rfl) (fun _ _ _ h => h) ⟨by rfl, ?_⟩ hT ?_
    · rintro w hTw
      go_simp
    (try simp only [Act.put, List.getElem_toArray, List.getElem_cons_succ, List.getElem_cons_zero, List.setIfInBounds_toArray, List.set_cons_succ, List.set_cons_zero])
    refine wpTwo_takeT (i := 7) (v := .slice (some ⟨g, 0, none⟩) n n) rfl (by kernel_rfl) (by kernel_rfl) (by kernel_rfl) (fun _ _ _ h => h) ⟨by rfl, ?_⟩ hT ?_
    · rintro w hTw
      obtain ⟨t0, t1, t2, t3⟩ := YBox.cells hTw.1
      go_simp
    (try simp only [Act.put, List.getElem_toArray, List.getElem_cons_succ, List.getElem_cons_zero, List.setIfInBounds_toArray, List.set_cons_succ, List.set_cons_zero])
    refine wpTwo_takeT (i := 8) (v := v) rfl (by kernel_rfl) (by kernel_rfl) (by kernel_rfl) (fun _ _ _ h => h) ⟨by rfl, ?_⟩ hT ?_
    · rintro w hTw
      have t4 := hTw.2.cell
      go_simp
    (try simp only [Act.put, List.getElem_toArray, List.getElem_cons_succ, List.getElem_cons_zero, List.setIfInBounds_toArray, List.set_cons_succ, List.set_cons_zero])
    refine wpTwo_ready (rs := [9]) (by kernel_rfl) (by simp) ?_
    refine (AllTwo.cons rfl (fun K hK => ?_) AllTwo.nil)
    obtain ⟨⟨c0, c1, c2⟩, hf0, hf1, hf2⟩ := mbox_cells (HMB.out.1.below HX.out)
    obtain ⟨X1, hX1⟩ : ∃ Y : World, Y = ((X0.setCell ⟨W.heap.size + 1, 0, none⟩ (.slice px nx cx)).setCell ⟨W.heap.size + 1, 1, none⟩ (.slice py ny cy)).setCell ⟨W.heap.size + 1, 2, none⟩ (.bool fo) := ⟨_, rfl⟩
    have hk : Keeps (fun q => q = W.heap.size + 1) X0 X1 := by
      rw [hX1]
      exact ((Keeps.setCell X0 (S := fun q => q = W.heap.size + 1) (p := ⟨W.heap.size + 1, 0, none⟩) rfl _).trans (Keeps.setCell _ (S := fun q => q = W.heap.size + 1) (p := ⟨W.heap.size + 1, 1, none⟩) rfl _)).trans (Keeps.setCell _ (S := fun q => q = W.heap.size + 1) (p := ⟨W.heap.size + 1, 2, none⟩) rfl _)
    have hM1 : MBox X1 (W.heap.size + 1) (.slice px nx cx) (.slice py ny cy) fo := by rw [hX1]; exact (HMB.out.1.below HX.out).set _ _ _
    have hlo := HPL.out.lo
    have hT1 : YBox X1 r (.slice px nx cx) (.slice py ny cy) fo (.slice (some ⟨g, 0, none⟩) n n) ∧ Boxed X1 hb 58 v := ⟨hT.1.keeps hk (fun e => by have e : r = W.heap.size + 1 := e; omega), (hk.block hb hT.2.lt (fun e => by have e : hb = W.heap.size + 1 := e; omega)).trans hT.2⟩
    have hkX : Keeps (fun q => q = W.heap.size + 1) X X1 := (Keeps.of_below HX.out).trans hk
    have hDk : X1.heap[D]? = some (.deferred (some [])) := (hkX.block D (Array.getElem?_eq_some_iff.1 HK.out).1 (fun e => by have e : D = W.heap.size + 1 := e; omega)).trans HK.out
    have HFIN := Lib.hid (And.intro hM1 (And.intro hkX hDk))
    go_simp
    rw [← hX1]
    refine hK.out _ _ ⟨hT1, fun _ _ => trivial⟩ ?_
    clear hK K c0 c1 c2 hf0 hf1 hf2 hX1 hk hM1 hT hkX hDk
    (try simp only [Act.put, List.getElem_toArray, List.getElem_cons_succ, List.getElem_cons_zero, List.setIfInBounds_toArray, List.set_cons_succ, List.set_cons_zero])
    refine wpTwo_takeT (i := 10) (v := .slice (some ⟨g, 0, none⟩) n n) rfl (by kernel_rfl) (by kernel_rfl) (by kernel_rfl) (fun _ _ _ h => h) ⟨by rfl, ?_⟩ hT1 ?_
    · rintro w hTw
      go_simp
    (try simp only [Act.put, List.getElem_toArray, List.getElem_cons_succ, List.getElem_cons_zero, List.setIfInBounds_toArray, List.set_cons_succ, List.set_cons_zero])
    refine wpTwo_takeT (i := 11) (v := v) rfl (by kernel_rfl) (by kernel_rfl) (by kernel_rfl) (fun _ _ _ h => h) ⟨by rfl, ?_⟩ hT1 ?_
    · rintro w hTw
      go_simp
    (try simp only [Act.put, List.getElem_toArray, List.getElem_cons_succ, List.getElem_cons_zero, List.setIfInBounds_toArray, List.set_cons_succ, List.set_cons_zero])
    refine wpTwo_takeT (i := 12) (v := .int .i64 0) rfl (by kernel_rfl) (by kernel_rfl) (by kernel_rfl) (fun _ _ _ h => h) ⟨by rfl, ?_⟩ hT1 ?_
    · rintro w hTw
      go_simp
    (try simp only [Act.put, List.getElem_toArray, List.getElem_cons_succ, List.getElem_cons_zero, List.setIfInBounds_toArray, List.set_cons_succ, List.set_cons_zero])
    refine wpTwo_end (by kernel_rfl) ?_ _
    gi_wp2
    refine ⟨by simp, .inl ⟨_, _, rfl, run_takeDeferred HFIN.out.2.2, ?_⟩⟩
    have hDX := HFIN.out.2.2
    have hkX := HFIN.out.2.1
    have hno : ∀ {E : TypeId} {s m B : Nat} {u : Value} {us : List Value}, W.heap.size + 2 ≤ B → X.ownsRow B E s u m us → (X1.putObj D (.deferred none)).ownsRow W.heap.size E s u m us := fun hB2 hr =>
      (ownsRow_putObj (hkX.row hr (fun q hq e => by have e : q = W.heap.size + 1 := e; have := (hr.lt q hq).1; omega)) (.deferred none) hDX rfl).mono (by omega)
    have hM2 : MBox (X1.putObj D (.deferred none)) (W.heap.size + 1) (.slice px nx cx) (.slice py ny cy) fo := (World.putObj_heap_other (by
      intro e
      have h1 : X1.heap[W.heap.size + 1]? = _ := HFIN.out.1
      rw [e, hDX] at h1
      cases h1)).trans HFIN.out.1
    have HPOST := Lib.hid (show PlayRes W.heap.size n ls (playR ls n ps ⟨ws, f, ss⟩ []).1 (playR ls n ps ⟨ws, f, ss⟩ []).2 (.returned (.tuple #[.agg #[.slice px nx cx, .slice py ny cy, .bool fo], .slice (some ⟨g, 0, none⟩) n n, v, .int .i64 0])) (X1.putObj D (.deferred none)) ∧ Below W.heap.size W (X1.putObj D (.deferred none)) from by
      have hrow := hno (by omega) HROW.out
      refine ⟨⟨_, _, g, v, by rw [HF.out], hno (Nat.le_refl _) HPL.out.words, hno (Nat.le_refl _) HPL.out.lives, hno (Nat.le_refl _) HPL.out.places, HPL.out.len, ?_⟩, ?_⟩
      · rw [← HXS.out, List.length_map, List.map_map]
        exact hrow
      · exact (HMB.out.2.trans (Keeps.below hkX HMB.out.2.size (fun q hq => by have e : q = W.heap.size + 1 := hq; omega))).trans (belowK_b (w := W) (Nat.le_refl _) X1 D _ _ (by omega) hDX rfl rfl))
    obtain ⟨⟨c0, c1, c2⟩, hf0, hf1, hf2⟩ := mbox_cells hM2
    obtain ⟨Y, hY⟩ : ∃ Y, Y = X1.putObj D (.deferred none) := ⟨_, rfl⟩
    rw [← hY] at HPOST c0 c1 c2 ⊢
    exact ⟨_, by simp [results, Try.results26, go_sem, c0, c1, c2], HPOST.out⟩
  case stop =>
    rintro D c p X _ _ h _
    exact h.elim

end Go.Proofs.Ytcnpmkigiklnnaa
/-
  Step, of package spin: one step of one who wants a lock.
  Conditions: the ranges of Go's types.
-/
namespace Go.Proofs.Ytcnpmkigiklnnaa
open Go.RowKit Go.Shelf
attribute [local go_sem] Oper.semAt_some

/-- The worlds ahead of begin: what lies in them. -/
theorem step_new (W : World) (x y : Value) (f : Bool) (a p t : Int) : let Z := ((((W.alloc (.cells #[x, y, .bool f] 46)).alloc (.cells #[.int .i64 a, .int .i64 p, .int .u64 t] 24)).alloc (.cells #[.slice none 0 0, .slice none 0 0, .bool false] 46)).alloc (.cells #[.int .i64 0, .int .i64 0, .int .u64 0] 24)).alloc (.cells #[.int .i64 a, .int .i64 p, .int .u64 t] 24)
    Z.heap.size = W.heap.size + 5 ∧ Below W.heap.size W Z ∧ MBox Z (W.heap.size + 2) (.slice none 0 0) (.slice none 0 0) false ∧ SpBox Z (W.heap.size + 3) 0 0 0 ∧ SpinsAt Z (.slice (some ⟨W.heap.size + 4, 0, none⟩) 1 1) [⟨a, p, t⟩] := by
  intro Z
  have h5 : Below W.heap.size W Z := below5 W _ _ _ _ _
  have hz : Z.heap.size = W.heap.size + 5 := by simp only [Z, World.size_alloc]
  have h2 : MBox Z (W.heap.size + 2) (.slice none 0 0) (.slice none 0 0) false := by
    have := ((MBox.new ((W.alloc (.cells #[x, y, .bool f] 46)).alloc (.cells #[.int .i64 a, .int .i64 p, .int .u64 t] 24)) (.slice none 0 0) (.slice none 0 0) false).alloc (.cells #[.int .i64 0, .int .i64 0, .int .u64 0] 24)).alloc (.cells #[.int .i64 a, .int .i64 p, .int .u64 t] 24)
    rw [World.size_alloc, World.size_alloc] at this
    exact this
  have h3 : SpBox Z (W.heap.size + 3) 0 0 0 := by
    have h := World.alloc_heap_new (((W.alloc (.cells #[x, y, .bool f] 46)).alloc (.cells #[.int .i64 a, .int .i64 p, .int .u64 t] 24)).alloc (.cells #[.slice none 0 0, .slice none 0 0, .bool false] 46)) (.cells #[.int .i64 0, .int .i64 0, .int .u64 0] 24)
    have h' := ((below1 ((((W.alloc (.cells #[x, y, .bool f] 46)).alloc (.cells #[.int .i64 a, .int .i64 p, .int .u64 t] 24)).alloc (.cells #[.slice none 0 0, .slice none 0 0, .bool false] 46)).alloc (.cells #[.int .i64 0, .int .i64 0, .int .u64 0] 24)) (.cells #[.int .i64 a, .int .i64 p, .int .u64 t] 24)).block (((W.alloc (.cells #[x, y, .bool f] 46)).alloc (.cells #[.int .i64 a, .int .i64 p, .int .u64 t] 24)).alloc (.cells #[.slice none 0 0, .slice none 0 0, .bool false] 46)).heap.size (by simp)).trans h
    rw [World.size_alloc, World.size_alloc, World.size_alloc] at h'
    exact h'
  have h4 : Z.heap[W.heap.size + 4]? = some (.cells (flatS [⟨a, p, t⟩]).toArray 24 (0, 0)) := by
    have h := World.alloc_heap_new ((((W.alloc (.cells #[x, y, .bool f] 46)).alloc (.cells #[.int .i64 a, .int .i64 p, .int .u64 t] 24)).alloc (.cells #[.slice none 0 0, .slice none 0 0, .bool false] 46)).alloc (.cells #[.int .i64 0, .int .i64 0, .int .u64 0] 24)) (.cells #[.int .i64 a, .int .i64 p, .int .u64 t] 24)
    rw [World.size_alloc, World.size_alloc, World.size_alloc, World.size_alloc] at h
    exact h
  refine ⟨hz, h5, h2, h3, ⟨_, 1, rfl, fun _ => ⟨_, 0, rfl, fun j u hj => ?_⟩⟩⟩
  simp only [World.cell?, h4, Nat.zero_add]
  simpa using hj

set_option maxRecDepth 100000 in
set_option maxHeartbeats 16000000 in
theorem qstep_ok (v : Value) (ws : List Int) (ls : List Bool) (f : Bool) (a p t : Int) (W : World) (hv : MemAt W v ws ls f) (hr : rightB ws ls = true) (hW : WRange ws) (hs : rightS ⟨a, p, t⟩ = true) (hsr : SpR ⟨a, p, t⟩) :
    Calls Try.prog 21 #[v, .agg #[.int .i64 a, .int .i64 p, .int .u64 t]] W fun e w' => (∃ x y, e = .returned (.tuple #[.agg #[x, y, .bool (stepP ls ⟨ws, f, [⟨a, p, t⟩]⟩ 0).f], spV ((stepP ls ⟨ws, f, [⟨a, p, t⟩]⟩ 0).ss.getD 0 dS), .int .i64 0]) ∧
      w'.ownsRow W.heap.size 22 1 x (stepP ls ⟨ws, f, [⟨a, p, t⟩]⟩ 0).ws.length ((stepP ls ⟨ws, f, [⟨a, p, t⟩]⟩ 0).ws.map (Value.int .u64)) ∧ w'.ownsRow W.heap.size 4 1 y ls.length (ls.map Value.bool)) ∧ Below W.heap.size W w' := by
  have hm := hv
  obtain ⟨vw, vl, rfl, ⟨pw, cw, rfl, hcw⟩, pl, cl, rfl, hcl⟩ := hv
  obtain ⟨hzs, hbZ, h2, h3, h4⟩ := step_new W (.slice pw ws.length cw) (.slice pl ls.length cl) f a p t
  have HBEG := Lib.hid ((qbegin _ _ ws ls f [⟨a, p, t⟩] _ (hm.below hbZ) hr h4 (by simp)).mono fun e w' h => by
    rcases h with ⟨⟨_, h1⟩ | ⟨⟨s, h1, h2⟩, _⟩, h3⟩
    · exact And.intro h1 h3
    · rw [List.mem_singleton.1 h1, hs] at h2; cases h2)
  have HOK := Lib.hid (show PlOk ls ⟨ws, f, [⟨a, p, t⟩]⟩ from ⟨hr, hW, fun s h => by rw [List.mem_singleton.1 h]; exact hs, fun s h => by rw [List.mem_singleton.1 h]; exact hsr⟩)
  have HZ := Lib.hid (And.intro hzs (And.intro hbZ (And.intro h2 h3)))
  obtain ⟨nw, hnw⟩ : ∃ nw, nw = ws.length := ⟨_, rfl⟩
  obtain ⟨nl, hnl⟩ : ∃ nl, nl = ls.length := ⟨_, rfl⟩
  rw [← hnw, ← hnl] at HBEG HZ
  rw [← hnw, ← hnl]
  obtain ⟨PP, hPP⟩ : ∃ PP, PP = stepP ls ⟨ws, f, [⟨a, p, t⟩]⟩ 0 := ⟨_, rfl⟩
  have HPP := Lib.hid hPP
  rw [← hPP]
  obtain ⟨⟨a2, p2, t2⟩, hs2⟩ : ∃ s2, s2 = PP.ss.getD 0 dS := ⟨_, rfl⟩
  obtain ⟨fo, hfo⟩ : ∃ fo, fo = PP.f := ⟨_, rfl⟩
  have HSO := Lib.hid hs2
  have HFO := Lib.hid hfo
  rw [← hs2, ← hfo]
  clear hs2 hfo
  have HNL := Lib.hid hnl
  clear hm hcw hcl hr hW hs hsr hzs hbZ h2 h3 h4 hnw hnl hPP
  go_enter Try.func21, Try.ntmps21
  go_wp2_with fail
  refine HBEG.out.mono ?_
  rintro e w1 ⟨⟨r, g, rfl, hp1⟩, hb1⟩
  have HST := Lib.hid (show Calls Try.prog 40 #[.pointer (some ⟨r, 0, none⟩), .int .i64 0] w1 fun e w' => _ from qstep _ r g 1 0 ls _ w1 hp1 (by decide) (by decide) HOK.out hb1.size)
  obtain ⟨z, hz⟩ : ∃ z, z = W.heap.size := ⟨_, rfl⟩
  obtain ⟨Zz, hZz⟩ : ∃ Z : World, Z = ((((W.alloc (.cells #[.slice pw nw cw, .slice pl nl cl, .bool f] 46)).alloc (.cells #[.int .i64 a, .int .i64 p, .int .u64 t] 24)).alloc (.cells #[.slice none 0 0, .slice none 0 0, .bool false] 46)).alloc (.cells #[.int .i64 0, .int .i64 0, .int .u64 0] 24)).alloc (.cells #[.int .i64 a, .int .i64 p, .int .u64 t] 24) := ⟨_, rfl⟩
  rw [← hZz] at hb1 HZ HST hp1
  have HB1 := Lib.hid (below_then HZ.out.2.1 HZ.out.2.1.size hb1)
  have HM1 := Lib.hid (HZ.out.2.2.1.below hb1)
  have HS1 := Lib.hid (HZ.out.2.2.2.below hb1)
  have HZS := Lib.hid HZ.out.1
  have HP1 := Lib.hid hp1
  rw [← hz] at HM1 HS1 HZS ⊢
  have HZW := Lib.hid hz
  clear hb1 hp1 HBEG HZ hZz hz
  go_wp2_with fail
  refine HST.out.mono ?_
  rintro e w2 ⟨rfl, hp2, hk2⟩
  rw [← HPP.out] at hp2
  obtain ⟨x, y, h2⟩ := hp2
  obtain ⟨px, nx, cx, rfl⟩ := own_any h2.words
  obtain ⟨py, ny, cy, rfl⟩ := own_any h2.lives
  obtain ⟨⟨c0, c1, c2⟩, hfz, hg⟩ := h2.cell (i := 0) (by decide)
  rw [← HSO.out] at c0 c1 c2
  have hbx := h2.box
  rw [← HFO.out] at hbx
  have hrB := HP1.out
  have hrz : z + 5 ≤ r := by
    obtain ⟨_, _, h⟩ := HP1.out
    have := h.lo
    rw [HZS.out] at this
    exact this
  have hgz : z + 5 ≤ g := by
    have := (h2.places.lt g rfl).1
    rw [HZS.out] at this
    exact this
  have hno : ∀ q, q < z + 5 → ¬ (q = r ∨ q = g) := fun q hq e => by omega
  have HM2 := Lib.hid (HM1.out.keeps hk2 (hno _ (by omega)))
  have HS2 := Lib.hid (HS1.out.keeps hk2 (hno _ (by omega)))
  have HB2 := Lib.hid (HB1.out.trans (hk2.below HB1.out.size (fun q hq => by have hq' : q = r ∨ q = g := hq; have := HZW.out; omega)))
  have HH2 := Lib.hid h2
  simp only [Nat.zero_mul] at c0 c1 c2
  clear hk2 HST HB1 HM1 HS1 h2 hfz hg hrB hno
  go_upto_region 5 with (fail)
  refine wpTwo_begin (T := fun w' => YBox w' r (.slice px nx cx) (.slice py ny cy) fo (.slice (some ⟨g, 0, none⟩) 1 1) ∧ w'.cell? ⟨g, 0, none⟩ = some (.int .i64 a2) ∧ w'.cell? ⟨g, 0 + 1, none⟩ = some (.int .i64 p2) ∧ w'.cell? ⟨g, 0 + 2, none⟩ = some (.int .u64 t2)) (S := fun _ => True) (late := fun j => [10, 11].contains j) (by kernel_rfl) ?_
  obtain ⟨X0, hX0⟩ : ∃ X : World, X = w2.drew := ⟨_, rfl⟩
  rw [← hX0]
  have hbX : Below w2.heap.size w2 X0 := by rw [hX0]; exact (Below.refl _ _).drew
  have hT := And.intro (hbx.below hbX) (And.intro (below_cell hbX c0) (And.intro (below_cell hbX c1) (below_cell hbX c2)))
  have HX := Lib.hid hbX
  clear hX0 hbX c0 c1 c2 hbx
  refine wpTwo_takeT (i := 0) (v := .pointer (some ⟨r, 0, none⟩)) rfl (by kernel_rfl) (by kernel_rfl) (by kernel_rfl) (fun _ _ _ h => h) ⟨by rfl, ?_⟩ hT ?_
  · rintro w hTw
    go_simp
  (try simp only [Act.put, List.getElem_toArray, List.getElem_cons_zero, List.setIfInBounds_toArray, List.set_cons_succ, List.set_cons_zero])
  refine wpTwo_takeT (i := 1) (v := .pointer (some ⟨r, 0, none⟩)) rfl (by kernel_rfl) (by kernel_rfl) (by kernel_rfl) (fun _ _ _ h => h) ⟨by rfl, ?_⟩ hT ?_
  · rintro w hTw
    go_simp
  (try simp only [Act.put, List.getElem_toArray, List.getElem_cons_succ, List.getElem_cons_zero, List.setIfInBounds_toArray, List.set_cons_succ, List.set_cons_zero])
  refine wpTwo_takeT (i := 2) (v := .pointer (some ⟨r, 0, none⟩)) rfl (by kernel_rfl) (by kernel_rfl) (by kernel_rfl) (fun _ _ _ h => h) ⟨by rfl, ?_⟩ hT ?_
  · rintro w hTw
    go_simp
  (try simp only [Act.put, List.getElem_toArray, List.getElem_cons_succ, List.getElem_cons_zero, List.setIfInBounds_toArray, List.set_cons_succ, List.set_cons_zero])
  refine wpTwo_takeT (i := 3) (v := .agg #[.slice px nx cx, .slice py ny cy, .bool fo]) rfl (by kernel_rfl) (by kernel_rfl) (by kernel_rfl) (fun _ _ _ h => h) ⟨by rfl, ?_⟩ hT ?_
  · rintro w hTw
    obtain ⟨t0, t1, t2, t3⟩ := YBox.cells hTw.1
    go_simp
  (try simp only [Act.put, List.getElem_toArray, List.getElem_cons_succ, List.getElem_cons_zero, List.setIfInBounds_toArray, List.set_cons_succ, List.set_cons_zero])
  refine wpTwo_takeT (i := 4) (v := .pointer (some ⟨r, 0, none⟩)) rfl (by kernel_rfl) (by kernel_rfl) (by kernel_rfl) (fun _ _ _ h => h) ⟨by rfl, ?_⟩ hT ?_
  · rintro w hTw
    go_simp
  (try simp only [Act.put, List.getElem_toArray, List.getElem_cons_succ, List.getElem_cons_zero, List.setIfInBounds_toArray, List.set_cons_succ, List.set_cons_zero])
  refine wpTwo_takeT (i := 5) (v := .pointer (some ⟨r, 0, none⟩)) rfl (by kernel_rfl) (by kernel_rfl) (by kernel_rfl) (fun _ _ _ h => h) ⟨by rfl, ?_⟩ hT ?_
  · rintro w hTw
    go_simp
  (try simp only [Act.put, List.getElem_toArray, List.getElem_cons_succ, List.getElem_cons_zero, List.setIfInBounds_toArray, List.set_cons_succ, List.set_cons_zero])
  refine wpTwo_takeT (i := 6) (v := .pointer (some ⟨r, 3, none⟩)) rfl (by kernel_rfl) (by kernel_rfl) (by kernel_rfl) (fun _ _ _ h => h) ⟨by rfl, ?_⟩ hT ?_
  · rintro w hTw
    go_simp
  (try simp only [Act.put, List.getElem_toArray, List.getElem_cons_succ, List.getElem_cons_zero, List.setIfInBounds_toArray, List.set_cons_succ, List.set_cons_zero])
  refine wpTwo_takeT (i := 7) (v := .slice (some ⟨g, 0, none⟩) 1 1) rfl (by kernel_rfl) (by kernel_rfl) (by kernel_rfl) (fun _ _ _ h => h) ⟨by rfl, ?_⟩ hT ?_
  · rintro w hTw
    obtain ⟨t0, t1, t2, t3⟩ := YBox.cells hTw.1
    go_simp
  (try simp only [Act.put, List.getElem_toArray, List.getElem_cons_succ, List.getElem_cons_zero, List.setIfInBounds_toArray, List.set_cons_succ, List.set_cons_zero])
  refine wpTwo_takeT (i := 8) (v := .pointer (some ⟨g, 0, none⟩)) rfl (by kernel_rfl) (by kernel_rfl) (by kernel_rfl) (fun _ _ _ h => h) ⟨by rfl, ?_⟩ hT ?_
  · rintro w hTw
    go_simp
  (try simp only [Act.put, List.getElem_toArray, List.getElem_cons_succ, List.getElem_cons_zero, List.setIfInBounds_toArray, List.set_cons_succ, List.set_cons_zero])
  refine wpTwo_takeT (i := 9) (v := .agg #[.int .i64 a2, .int .i64 p2, .int .u64 t2]) rfl (by kernel_rfl) (by kernel_rfl) (by kernel_rfl) (fun _ _ _ h => h) ⟨by rfl, ?_⟩ hT ?_
  · rintro w hTw
    obtain ⟨-, t0, t1, t2⟩ := hTw
    go_simp
  (try simp only [Act.put, List.getElem_toArray, List.getElem_cons_succ, List.getElem_cons_zero, List.setIfInBounds_toArray, List.set_cons_succ, List.set_cons_zero])
  refine wpTwo_ready (rs := [10]) (by kernel_rfl) (by simp) ?_
  refine (AllTwo.cons rfl (fun K hK => ?_) AllTwo.nil)
  have hm := HM2.out.below HX.out
  obtain ⟨⟨d0, d1, d2⟩, e0, e1, e2⟩ := mbox_cells hm
  obtain ⟨X1, hX1⟩ : ∃ Y : World, Y = ((X0.setCell ⟨z + 1 + 1, 0, none⟩ (.slice px nx cx)).setCell ⟨z + 1 + 1, 1, none⟩ (.slice py ny cy)).setCell ⟨z + 1 + 1, 2, none⟩ (.bool fo) := ⟨_, rfl⟩
  have hk : Keeps (fun q => q = z + 2) X0 X1 := by
    rw [hX1]
    exact ((Keeps.setCell X0 (S := fun q => q = z + 2) (p := ⟨z + 2, 0, none⟩) rfl _).trans (Keeps.setCell _ (S := fun q => q = z + 2) (p := ⟨z + 2, 1, none⟩) rfl _)).trans (Keeps.setCell _ (S := fun q => q = z + 2) (p := ⟨z + 2, 2, none⟩) rfl _)
  have hM1 : MBox X1 (z + 2) (.slice px nx cx) (.slice py ny cy) fo := by rw [hX1]; exact hm.set _ _ _
  have hgn : ¬ g = z + 2 := by omega
  have hT1 := And.intro (hT.1.keeps hk (fun e => by have e : r = z + 2 := e; omega)) (And.intro (hk.cell hT.2.1 hgn) (And.intro (hk.cell hT.2.2.1 hgn) (hk.cell hT.2.2.2 hgn)))
  have HS3 := Lib.hid ((HS2.out.below HX.out).keeps hk (fun e => by have e : z + 3 = z + 2 := e; omega))
  have HM3 := Lib.hid hM1
  have HK1 := Lib.hid ((Keeps.of_below (S := fun q => q = z + 2) HX.out).trans hk)
  go_simp
  rw [← hX1]
  refine hK.out _ _ ⟨hT1, fun _ _ => trivial⟩ ?_
  clear hK K d0 d1 d2 e0 e1 e2 hX1 hk hM1 hT hm HX hgn
  (try simp only [Act.put, List.getElem_toArray, List.getElem_cons_succ, List.getElem_cons_zero, List.setIfInBounds_toArray, List.set_cons_succ, List.set_cons_zero])
  refine wpTwo_ready (rs := [11]) (by kernel_rfl) (by simp) ?_
  refine (AllTwo.cons rfl (fun K hK => ?_) AllTwo.nil)
  obtain ⟨d0, d1, d2⟩ := HS3.out.cells
  have e0 := HS3.out.free 0
  have e1 := HS3.out.free 1
  have e2 := HS3.out.free 2
  obtain ⟨X2, hX2⟩ : ∃ Y : World, Y = ((X1.setCell ⟨z + 1 + 1 + 1, 0, none⟩ (.int .i64 a2)).setCell ⟨z + 1 + 1 + 1, 1, none⟩ (.int .i64 p2)).setCell ⟨z + 1 + 1 + 1, 2, none⟩ (.int .u64 t2) := ⟨_, rfl⟩
  have hk : Keeps (fun q => q = z + 3) X1 X2 := by
    rw [hX2]
    exact ((Keeps.setCell X1 (S := fun q => q = z + 3) (p := ⟨z + 3, 0, none⟩) rfl _).trans (Keeps.setCell _ (S := fun q => q = z + 3) (p := ⟨z + 3, 1, none⟩) rfl _)).trans (Keeps.setCell _ (S := fun q => q = z + 3) (p := ⟨z + 3, 2, none⟩) rfl _)
  have hM2 : SpBox X2 (z + 3) a2 p2 t2 := by
    unfold SpBox
    rw [hX2, heap_setCell_same _ (z + 3) 2 _ _ _ (heap_setCell_same _ (z + 3) 1 _ _ _ (heap_setCell_same X1 (z + 3) 0 _ _ _ HS3.out))]; rfl
  have hgn : ¬ g = z + 3 := by omega
  have hT2 := And.intro (hT1.1.keeps hk (fun e => by have e : r = z + 3 := e; omega)) (And.intro (hk.cell hT1.2.1 hgn) (And.intro (hk.cell hT1.2.2.1 hgn) (hk.cell hT1.2.2.2 hgn)))
  have HF := Lib.hid (And.intro (HM3.out.keeps hk (fun e => by have e : z + 2 = z + 3 := e; omega)) (And.intro hM2 ((HK1.out.sub (T := fun q => q = z + 2 ∨ q = z + 3) (fun q _ hq => .inl hq)).trans (hk.sub (fun q _ hq => .inr hq)))))
  go_simp
  rw [← hX2]
  refine hK.out _ _ ⟨hT2, fun _ _ => trivial⟩ ?_
  clear hK K d0 d1 d2 e0 e1 e2 hX2 hk hM2 hT1 HS3 HM3 HK1 hgn
  (try simp only [Act.put, List.getElem_toArray, List.getElem_cons_succ, List.getElem_cons_zero, List.setIfInBounds_toArray, List.set_cons_succ, List.set_cons_zero])
  refine wpTwo_takeT (i := 12) (v := .int .i64 0) rfl (by kernel_rfl) (by kernel_rfl) (by kernel_rfl) (fun _ _ _ h => h) ⟨by rfl, ?_⟩ hT2 ?_
  · rintro w hTw
    go_simp
  (try simp only [Act.put, List.getElem_toArray, List.getElem_cons_succ, List.getElem_cons_zero, List.setIfInBounds_toArray, List.set_cons_succ, List.set_cons_zero])
  refine wpTwo_end (by kernel_rfl) ?_ _
  obtain ⟨⟨d0, d1, d2⟩, _⟩ := mbox_cells HF.out.1
  obtain ⟨d3, d4, d5⟩ := HF.out.2.1.cells
  go_wp2
  refine bodyPost_ret (v := .tuple #[.agg #[.slice px nx cx, .slice py ny cy, .bool fo], .agg #[.int .i64 a2, .int .i64 p2, .int .u64 t2], .int .i64 0]) (by simp [results, Try.results21, go_sem, d0, d1, d2, d3, d4, d5]) rfl ?_
  have hrow : ∀ {E : TypeId} {s m : Nat} {u : Value} {us : List Value}, w2.ownsRow Zz.heap.size E s u m us → X2.ownsRow W.heap.size E s u m us := fun hr => (HF.out.2.2.row hr (fun q hq e => by
    have e : q = z + 2 ∨ q = z + 3 := e
    have := (hr.lt q hq).1
    rw [HZS.out] at this
    omega)).mono (by rw [HZS.out, HZW.out]; omega)
  have hz := HZW.out
  exact ⟨⟨_, _, rfl, hrow HH2.out.words, by rw [HNL.out]; exact hrow HH2.out.lives⟩, HB2.out.trans (HF.out.2.2.below HB2.out.size (fun q hq => by have e : q = z + 2 ∨ q = z + 3 := hq; omega))⟩

end Go.Proofs.Ytcnpmkigiklnnaa
namespace Go.Proofs.Ytcnpmkigiklnnaa
open Go.RowKit Go.Shelf
attribute [local go_sem] Oper.semAt_some

def layM (ws : List Int) (ls : List Bool) (f : Bool) (a : Int) : (List Int × Bool) × ((Int × Bool) × (Int × Bool)) :=
  let r0 := accM ws ls f 2 a 0 0
  let r1 := accM r0.1 ls r0.2.1 2 (incI a) 0 0
  ((r1.1, r1.2.1), (r0.2.2, r1.2.2))
theorem layM_run (ws : List Int) (ls : List Bool) (f : Bool) (a : Int) : runS ls ws f [⟨2, a, 0, 0⟩, ⟨2, incI a, 0, 0⟩] = ((layM ws ls f a).1.1, (layM ws ls f a).1.2, [(layM ws ls f a).2.1, (layM ws ls f a).2.2]) := rfl
theorem layM_length (ws : List Int) (ls : List Bool) (f : Bool) (a : Int) : (layM ws ls f a).1.1.length = ws.length := by
  unfold layM
  simp only [accM_length]

set_option maxRecDepth 100000 in
set_option maxHeartbeats 8000000 in
theorem qlay (v : Value) (ws : List Int) (ls : List Bool) (f : Bool) (a : Int) (W : World) (hv : MemAt W v ws ls f) (hr : rightB ws ls = true) (ha : -9223372036854775808 ≤ a ∧ a ≤ 9223372036854775807) :
    Calls Try.prog 20 #[v, .int .i64 a] W fun e w' => (((layM ws ls f a).2.1.2 = true ∧ (layM ws ls f a).2.2.2 = true ∧ ∃ x y, e = .returned (.tuple #[.agg #[x, y, .bool (layM ws ls f a).1.2], .int .i64 0]) ∧
      w'.ownsRow W.heap.size 22 1 x ws.length ((layM ws ls f a).1.1.map (Value.int .u64)) ∧ w'.ownsRow W.heap.size 4 1 y ls.length (ls.map Value.bool)) ∨
      ((layM ws ls f a).2.1.2 && (layM ws ls f a).2.2.2) = false ∧ e = .returned (.tuple #[.agg #[.slice none 0 0, .slice none 0 0, .bool false], .int .i64 2])) ∧ Below W.heap.size W w' := by
  have hll := layM_length ws ls f a
  have hrun := layM_run ws ls f a
  obtain ⟨⟨⟨us, f2⟩, ⟨g0, d0⟩, ⟨g1, d1⟩⟩, hL⟩ : ∃ L, L = layM ws ls f a := ⟨_, rfl⟩
  rw [← hL] at hll hrun
  rw [← hL]
  simp only at hll hrun ⊢
  clear hL
  have hm := hv
  obtain ⟨vw, vl, rfl, ⟨pw, cw, rfl, hcw⟩, pl, cl, rfl, hcl⟩ := hv
  obtain ⟨z, hz⟩ : ∃ z, z = W.heap.size := ⟨_, rfl⟩
  obtain ⟨ai, hai⟩ : ∃ ai, ai = incI a := ⟨_, rfl⟩
  have HRUN := Lib.hid (fun (Z : World) (hb : Below W.heap.size W Z) (u : Value) (hA : AccsAt Z u [⟨2, a, 0, 0⟩, ⟨2, incI a, 0, 0⟩]) => (run_yes _ u ws ls f [⟨2, a, 0, 0⟩, ⟨2, incI a, 0, 0⟩] Z (hm.below hb) hr hA (by simp) rfl).mono fun e w' h => by
    rw [hrun] at h
    obtain ⟨⟨gw, cw, gl, cl, vg, he, h1, h2, h3⟩, h4⟩ := h
    simp only [hll] at he h1
    obtain ⟨gg, cg, rfl, h5, h6⟩ := own_form h3 (by simp)
    exact (⟨gw, cw, gl, cl, gg, cg, he, h1, h2, h3, h4⟩ : ∃ gw cw gl cl gg cg, e = .returned (.tuple #[.agg #[.slice (some ⟨gw, 0, none⟩) ws.length cw, .slice (some ⟨gl, 0, none⟩) ls.length cl, .bool f2], .slice (some ⟨gg, 0, none⟩) 2 cg, .int .i64 0]) ∧
      w'.ownsRow Z.heap.size 22 1 (.slice (some ⟨gw, 0, none⟩) ws.length cw) ws.length (us.map (Value.int .u64)) ∧ w'.ownsRow Z.heap.size 4 1 (.slice (some ⟨gl, 0, none⟩) ls.length cl) ls.length (ls.map Value.bool) ∧ w'.ownsRow Z.heap.size 36 2 (.slice (some ⟨gg, 0, none⟩) 2 cg) 2 (flatG [(g0, d0), (g1, d1)]) ∧ Below Z.heap.size Z w'))
  obtain ⟨nw, hnw⟩ : ∃ nw, nw = ws.length := ⟨_, rfl⟩
  obtain ⟨nl, hnl⟩ : ∃ nl, nl = ls.length := ⟨_, rfl⟩
  rw [← hnw, ← hnl] at HRUN
  rw [← hnw, ← hnl]
  clear hm hcw hcl hr hrun hll hnw hnl
  go_enter Try.func20, Try.ntmps20
  go_wp2_with fail
  obtain ⟨Z, hZ⟩ : ∃ Z : World, Z = ((W.alloc (.cells #[.slice pw nw cw, .slice pl nl cl, .bool f] 46)).alloc (.cells #[.slice none 0 0, .slice none 0 0, .bool false] 46)).alloc (.cells #[.int .i64 2, .int .i64 a, .int .u64 0, .int .u64 0, .int .i64 2, .int .i64 (wrap64 (a + 1)), .int .u64 0, .int .u64 0] 31) := ⟨_, rfl⟩
  have hbZ : Below W.heap.size W Z := by rw [hZ]; exact below3 _ _ _ _
  have hzs : Z.heap.size = W.heap.size + 3 := by rw [hZ]; simp only [World.size_alloc]
  have hacc : AccsAt Z (.slice (some ⟨W.heap.size + 1 + 1, 0, none⟩) 2 2) [⟨2, a, 0, 0⟩, ⟨2, incI a, 0, 0⟩] := by
    have hnew := World.alloc_heap_new ((W.alloc (.cells #[.slice pw nw cw, .slice pl nl cl, .bool f] 46)).alloc (.cells #[.slice none 0 0, .slice none 0 0, .bool false] 46)) (.cells #[.int .i64 2, .int .i64 a, .int .u64 0, .int .u64 0, .int .i64 2, .int .i64 (wrap64 (a + 1)), .int .u64 0, .int .u64 0] 31)
    rw [← hZ, World.size_alloc, World.size_alloc] at hnew
    refine ⟨_, 2, rfl, fun _ => ⟨_, 0, rfl, fun i hi => ?_⟩⟩
    match i, hi with
    | 0, _ => simp [World.cell?, hnew]
    | 1, _ => simp [World.cell?, hnew, incI]
    | i + 2, hi => exact absurd hi (by simp)
  have hm0 : MBox Z W.heap.size (.slice pw nw cw) (.slice pl nl cl) f := by
    rw [hZ]; exact ((MBox.new W _ _ _).alloc _).alloc _
  have hm1 : MBox Z (W.heap.size + 1) (.slice none 0 0) (.slice none 0 0) false := by
    have := (MBox.new (W.alloc (.cells #[.slice pw nw cw, .slice pl nl cl, .bool f] 46)) (.slice none 0 0) (.slice none 0 0) false).alloc (.cells #[.int .i64 2, .int .i64 a, .int .u64 0, .int .u64 0, .int .i64 2, .int .i64 (wrap64 (a + 1)), .int .u64 0, .int .u64 0] 31)
    rw [World.size_alloc, ← hZ] at this
    exact this
  rw [← hZ]
  refine (HRUN.out Z hbZ _ hacc).mono ?_
  rintro e w1 ⟨gw, cw2, gl, cl2, gg, cg, rfl, how, hol, hog, hb1⟩
  rw [← hz] at hm0 hm1 hzs ⊢
  have HZ1 := Lib.hid (And.intro (hm0.below hb1) (hm1.below hb1))
  obtain ⟨⟨hd0, hd1, hd2⟩, he0, he1, he2⟩ := mbox_cells HZ1.out.1
  have HB1 := Lib.hid (below_then hbZ hbZ.size hb1)
  obtain ⟨w2, hw2⟩ : ∃ w2 : World, w2 = ((w1.setCell ⟨z, 0, none⟩ (.slice (some ⟨gw, 0, none⟩) nw cw2)).setCell ⟨z, 1, none⟩ (.slice (some ⟨gl, 0, none⟩) nl cl2)).setCell ⟨z, 2, none⟩ (.bool f2) := ⟨_, rfl⟩
  have hkz : Keeps (· = z) w1 w2 := by
    rw [hw2]
    exact ((Keeps.setCell w1 (S := (· = z)) (p := ⟨z, 0, none⟩) rfl _).trans (Keeps.setCell _ (S := (· = z)) (p := ⟨z, 1, none⟩) rfl _)).trans (Keeps.setCell _ (S := (· = z)) (p := ⟨z, 2, none⟩) rfl _)
  have hno : ∀ {E : TypeId} {s m : Nat} {u : Value} {us : List Value}, w1.ownsRow Z.heap.size E s u m us → w2.ownsRow Z.heap.size E s u m us := fun hr => hkz.row hr (fun q hq e => by have e : q = z := e; have := (hr.lt q hq).1; omega)
  have HZ2 := Lib.hid (show MBox w2 z (.slice (some ⟨gw, 0, none⟩) nw cw2) (.slice (some ⟨gl, 0, none⟩) nl cl2) f2 by rw [hw2]; exact HZ1.out.1.set _ _ _)
  have HR2 := Lib.hid (HZ1.out.2.keeps hkz (fun e => by have e : z + 1 = z := e; omega))
  have HOW := Lib.hid (And.intro (hno how) (And.intro (hno hol) (hno hog)))
  have HB2 := Lib.hid (HB1.out.trans (hkz.below HB1.out.size (fun q hq => by have e : q = z := hq; omega)))
  have HW2 := Lib.hid hw2
  have HZZ := Lib.hid (And.intro hz hzs)
  clear hkz hno hw2 hacc hm0 hm1 hbZ hZ how hol hog hb1 HB1 hz hzs HRUN
  go_upto_region 4 with (fail)
  rw [← HW2.out]
  have q0 : w2.cell? ⟨gg, 0, none⟩ = some (.int .u64 g0) := HOW.out.2.2.cellAt 0 (by decide)
  have q1 : w2.cell? ⟨gg, 1, none⟩ = some (.bool d0) := HOW.out.2.2.cellAt 1 (by decide)
  have q2 : w2.cell? ⟨gg, 2, none⟩ = some (.int .u64 g1) := HOW.out.2.2.cellAt 2 (by decide)
  have q3 : w2.cell? ⟨gg, 3, none⟩ = some (.bool d1) := HOW.out.2.2.cellAt 3 (by decide)
  clear hd0 hd1 hd2 he0 he1 he2 q0 q2
  obtain ⟨⟨hd0, hd1, hd2⟩, he0, he1, he2⟩ := mbox_cells HZ2.out
  obtain ⟨⟨hc0, hc1, hc2⟩, hf0, hf1, hf2⟩ := mbox_cells HR2.out
  cases d0
  · go_wp2
    obtain ⟨w3, hw3⟩ : ∃ w3 : World, w3 = ((w2.setCell ⟨z + 1, 0, none⟩ (.slice none 0 0)).setCell ⟨z + 1, 1, none⟩ (.slice none 0 0)).setCell ⟨z + 1, 2, none⟩ (.bool false) := ⟨_, rfl⟩
    rw [← hw3]
    have hk : Keeps (· = z + 1) w2 w3 := by
      rw [hw3]
      exact ((Keeps.setCell w2 (S := (· = z + 1)) (p := ⟨z + 1, 0, none⟩) rfl _).trans (Keeps.setCell _ (S := (· = z + 1)) (p := ⟨z + 1, 1, none⟩) rfl _)).trans (Keeps.setCell _ (S := (· = z + 1)) (p := ⟨z + 1, 2, none⟩) rfl _)
    have hM : MBox w3 (z + 1) (.slice none 0 0) (.slice none 0 0) false := by rw [hw3]; exact HR2.out.set _ _ _
    have hzz := HZZ.out
    obtain ⟨⟨r0, r1, r2⟩, _⟩ := mbox_cells hM
    refine bodyPost_ret (v := .tuple #[.agg #[.slice none 0 0, .slice none 0 0, .bool false], .int .i64 2]) (by simp [results, Try.results20, go_sem, r0, r1, r2]) rfl ?_
    exact ⟨.inr ⟨rfl, rfl⟩, HB2.out.trans (hk.below HB2.out.size (fun q hq => by have e : q = z + 1 := hq; omega))⟩
  · cases d1
    · go_wp2
      obtain ⟨w3, hw3⟩ : ∃ w3 : World, w3 = ((w2.setCell ⟨z + 1, 0, none⟩ (.slice none 0 0)).setCell ⟨z + 1, 1, none⟩ (.slice none 0 0)).setCell ⟨z + 1, 2, none⟩ (.bool false) := ⟨_, rfl⟩
      rw [← hw3]
      have hk : Keeps (· = z + 1) w2 w3 := by
        rw [hw3]
        exact ((Keeps.setCell w2 (S := (· = z + 1)) (p := ⟨z + 1, 0, none⟩) rfl _).trans (Keeps.setCell _ (S := (· = z + 1)) (p := ⟨z + 1, 1, none⟩) rfl _)).trans (Keeps.setCell _ (S := (· = z + 1)) (p := ⟨z + 1, 2, none⟩) rfl _)
      have hM : MBox w3 (z + 1) (.slice none 0 0) (.slice none 0 0) false := by rw [hw3]; exact HR2.out.set _ _ _
      have hzz := HZZ.out
      obtain ⟨⟨r0, r1, r2⟩, _⟩ := mbox_cells hM
      refine bodyPost_ret (v := .tuple #[.agg #[.slice none 0 0, .slice none 0 0, .bool false], .int .i64 2]) (by simp [results, Try.results20, go_sem, r0, r1, r2]) rfl ?_
      exact ⟨rfl, HB2.out.trans (hk.below HB2.out.size (fun q hq => by have e : q = z + 1 := hq; omega))⟩
    · go_wp2
      obtain ⟨w3, hw3⟩ : ∃ w3 : World, w3 = ((w2.setCell ⟨z + 1, 0, none⟩ (.slice (some ⟨gw, 0, none⟩) nw cw2)).setCell ⟨z + 1, 1, none⟩ (.slice (some ⟨gl, 0, none⟩) nl cl2)).setCell ⟨z + 1, 2, none⟩ (.bool f2) := ⟨_, rfl⟩
      rw [← hw3]
      have hk : Keeps (· = z + 1) w2 w3 := by
        rw [hw3]
        exact ((Keeps.setCell w2 (S := (· = z + 1)) (p := ⟨z + 1, 0, none⟩) rfl _).trans (Keeps.setCell _ (S := (· = z + 1)) (p := ⟨z + 1, 1, none⟩) rfl _)).trans (Keeps.setCell _ (S := (· = z + 1)) (p := ⟨z + 1, 2, none⟩) rfl _)
      have hM : MBox w3 (z + 1) (.slice (some ⟨gw, 0, none⟩) nw cw2) (.slice (some ⟨gl, 0, none⟩) nl cl2) f2 := by rw [hw3]; exact HR2.out.set _ _ _
      have hzz := HZZ.out
      have hrow : ∀ {E : TypeId} {s m : Nat} {u : Value} {us : List Value}, w2.ownsRow Z.heap.size E s u m us → w3.ownsRow W.heap.size E s u m us := fun hr => (hk.row hr (fun q hq e => by have e : q = z + 1 := e; have := (hr.lt q hq).1; omega)).mono (by omega)
      obtain ⟨⟨r0, r1, r2⟩, _⟩ := mbox_cells hM
      refine bodyPost_ret (v := .tuple #[.agg #[.slice (some ⟨gw, 0, none⟩) nw cw2, .slice (some ⟨gl, 0, none⟩) nl cl2, .bool f2], .int .i64 0]) (by simp [results, Try.results20, go_sem, r0, r1, r2]) rfl ?_
      exact ⟨⟨_, _, rfl, hrow HOW.out.1, hrow HOW.out.2.1⟩, HB2.out.trans (hk.below HB2.out.size (fun q hq => by have e : q = z + 1 := hq; omega))⟩

end Go.Proofs.Ytcnpmkigiklnnaa
