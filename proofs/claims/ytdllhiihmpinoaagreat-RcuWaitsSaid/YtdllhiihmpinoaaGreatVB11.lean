/-
  Package rcu: the map of what the kinds do; and its look-ups.
  Conditions: none.
-/
import Derived.Test.YtdllhiihmpinoaaGreatVB10
import Derived.MapKept
/-
  Package rcu: done: the callbacks of a CPU that are done, one by one; each is taken as it is told.
  Conditions: who ranges over them does no more than append to what was run.
-/
namespace Go.Proofs.YtdllhiihmpinoaaGreat
set_option maxRecDepth 100000
open Go.RowKit Go.Shelf
attribute [local go_sem] Oper.semAt_some

theorem VtAt.ne {W : World} {z B : Nat} {r : RcS} {u v nv : Value} {qb qc : Nat} {lv : Value} {ls : List Int} (h : VtAt W z B r u v nv qb qc lv ls) {b : Nat} {cs : Array Value} {T : TypeId} {f : Nat × Nat} (hb : W.heap[b]? = some (.cells cs T f)) (hT : T ≠ 91 ∧ T ≠ 66 ∧ T ≠ 35) : ¬ dS z qb lv b := by
  rintro (e | e | e)
  · have h' : W.heap[z]? = _ := h.box
    rw [e, h'] at hb; injection hb with hb; injection hb with _ hb _; exact hT.1 hb.symm
  · obtain ⟨cur, h', -⟩ := h.row
    rw [e, h'] at hb; injection hb with hb; injection hb with _ hb _; exact hT.2.1 hb.symm
  · obtain ⟨c, f', h'⟩ := Lib.ownsRow_kind h.run b e.symm
    rw [h'] at hb; injection hb with hb; injection hb with _ hb _; exact hT.2.2 hb.symm
/-- Between two callbacks. -/
structure DnW (Wr : World) (z B : Nat) (r : RcS) (i : Nat) (u v nv : Value) (qb qc : Nat) (lv0 : Value) (ls0 : List Int) (k : Nat) (pre : List Int) (lv : Value) (W : World) : Prop where
  at_ : VtAt W z B (dropR r i k) u v nv qb qc lv (ls0 ++ pre)
  kp : Keeps (dS z qb lv0) Wr W
  ow : ∀ g, lv.ownBlock = some g → lv0.ownBlock = some g ∨ Wr.heap.size ≤ g
  kl : k ≤ (told r i).length
theorem DnW.own {Wr : World} {z B : Nat} {r : RcS} {i : Nat} {u v nv : Value} {qb qc : Nat} {lv0 : Value} {ls0 : List Int} {k : Nat} {pre : List Int} {lv : Value} {W Y : World} {row : Option Nat} {zz : Nat} (h : DnW Wr z B r i u v nv qb qc lv0 ls0 k pre lv W) (hzz : Wr.heap.size ≤ zz) (hg : W.grownBy Y row) (hr : ∀ r, row = some r → zz ≤ r ∧ ∃ o : Obj, W.heap[r]? = some o ∧ o.isCells = false) : DnW Wr z B r i u v nv qb qc lv0 ls0 k pre lv Y :=
  ⟨h.at_.own hg (fun r e => (hr r e).2), keeps_own h.kp hg hzz (fun r e => (hr r e).1), h.ow, h.kl⟩
theorem DnW.below {Wr : World} {z B : Nat} {r : RcS} {i : Nat} {u v nv : Value} {qb qc : Nat} {lv0 : Value} {ls0 : List Int} {k : Nat} {pre : List Int} {lv : Value} {W Y : World} (h : DnW Wr z B r i u v nv qb qc lv0 ls0 k pre lv W) (hb : Below W.heap.size W Y) : DnW Wr z B r i u v nv qb qc lv0 ls0 k pre lv Y :=
  ⟨h.at_.below hb, h.kp.trans (Keeps.of_below hb), h.ow, h.kl⟩
def Dn0 (M : List Int → Prop) (Wr : World) (z B : Nat) (r : RcS) (i : Nat) (u v nv : Value) (qb qc : Nat) (lv0 : Value) (ls0 : List Int) (pre : List Int) (W : World) : Prop :=
  (∃ lv, DnW Wr z B r i u v nv qb qc lv0 ls0 pre.length pre lv W) ∧ pre = (told r i).take pre.length ∧ M pre
def DnY (M : List Int → Prop) (Wr : World) (z B : Nat) (r : RcS) (i : Nat) (u v nv : Value) (qb qc : Nat) (lv0 : Value) (ls0 : List Int) (pre : List Int) (x : Int) (W : World) : Prop :=
  (∃ lv, DnW Wr z B r i u v nv qb qc lv0 ls0 (pre.length + 1) pre lv W) ∧ pre ++ [x] = (told r i).take (pre.length + 1) ∧ M pre
theorem dn0_own (M : List Int → Prop) (Wr : World) (z B : Nat) (r : RcS) (i : Nat) (u v nv : Value) (qb qc : Nat) (lv0 : Value) (ls0 : List Int) (zz : Nat) (hz : Wr.heap.size ≤ zz) : OwnFrom zz (Dn0 M Wr z B r i u v nv qb qc lv0 ls0) := by
  rintro pre X Y row ⟨⟨lv, h⟩, hp⟩ hg hr
  exact ⟨⟨lv, h.own hz hg hr⟩, hp⟩
theorem dnY_own (M : List Int → Prop) (Wr : World) (z B : Nat) (r : RcS) (i : Nat) (u v nv : Value) (qb qc : Nat) (lv0 : Value) (ls0 : List Int) (zz : Nat) (hz : Wr.heap.size ≤ zz) (x : Int) : OwnFrom zz (fun pre W => DnY M Wr z B r i u v nv qb qc lv0 ls0 pre x W) := by
  rintro pre X Y row ⟨⟨lv, h⟩, hp⟩ hg hr
  exact ⟨⟨lv, h.own hz hg hr⟩, hp⟩
/-- How many callbacks a CPU's queue has, in memory. -/
def lenAt (W : World) (qb i : Nat) : Nat := match W.cell? ⟨qb, i * 2, none⟩ with | some (.slice _ n _) => n | _ => 0
theorem lenAt_eq {W : World} {qb i : Nat} {p : Option Addr} {n c : Nat} (h : W.cell? ⟨qb, i * 2, none⟩ = some (.slice p n c)) : lenAt W qb i = n := by unfold lenAt; rw [h]

theorem dones_drop (over : Int) : ∀ (l : List (Int × Int)) (k : Nat), k ≤ (U.dones over l).length → U.dones over (l.drop k) = (U.dones over l).drop k
  | l, 0, _ => by simp
  | [], k + 1, h => by simp [U.dones] at h
  | c :: l, k + 1, h => by
    have e : U.dones over (c :: l) = if c.1 ≤ over then c :: U.dones over l else [] := rfl
    rw [e] at h ⊢
    split at h
    · next hc => rw [if_pos hc, List.drop_succ_cons, List.drop_succ_cons]; exact dones_drop over l k (by simpa using h)
    · simp at h
theorem upB_least (over a : Int) : ∀ (l : List (Int × Int)), U.upB over a l = true → (∀ c ∈ l, 0 ≤ c.1) → U.upB over 0 l = true
  | [], _, _ => rfl
  | c :: l, h, h0 => by
    unfold U.upB U.allowsB at h ⊢
    simp only [Bool.and_eq_true, decide_eq_true_eq] at h ⊢
    exact ⟨⟨h0 c (List.mem_cons_self ..), h.1.2⟩, h.2⟩
theorem upB_tail (over a : Int) : ∀ (l : List (Int × Int)) (k : Nat), U.upB over a l = true → ∃ b, U.upB over b (l.drop k) = true
  | l, 0, h => ⟨a, h⟩
  | [], k + 1, _ => ⟨0, rfl⟩
  | c :: l, k + 1, h => by
    unfold U.upB at h
    simp only [Bool.and_eq_true] at h
    exact upB_tail over c.1 l k h.2
theorem upB_drop (over : Int) (l : List (Int × Int)) (k : Nat) (h : U.upB over 0 l = true) (h0 : ∀ c ∈ l, 0 ≤ c.1) : U.upB over 0 (l.drop k) = true := by
  obtain ⟨b, hb⟩ := upB_tail over 0 l k h
  exact upB_least over b _ hb (fun c hc => h0 c (List.mem_of_mem_drop hc))
theorem may_drop {over : Int} {l : List (Int × Int)} (h : U.mayB over l = true) (h0 : ∀ c ∈ l, 0 ≤ c.1) (k : Nat) : U.mayB over (l.drop k) = true := by
  obtain ⟨h1, h2, h3⟩ := U.may_parts h
  unfold U.mayB
  rw [decide_eq_true h1, decide_eq_true (show (l.drop k).length ≤ 16 by rw [List.length_drop]; omega), upB_drop over l k h3 h0]
  rfl
theorem told_next (r : RcS) (i k : Nat) (x : Int) (h : U.whats ((U.dones (qAt r i).1 ((qAt r i).2.drop k)).take 1) = [x]) (hk : k ≤ (told r i).length) : k + 1 ≤ (told r i).length ∧ (told r i).take k ++ [x] = (told r i).take (k + 1) := by
  unfold told at *
  rw [U.whats_len] at hk
  rw [dones_drop _ _ _ hk] at h
  have h1 : k < (U.dones (qAt r i).1 (qAt r i).2).length := by
    rcases Nat.lt_or_ge k (U.dones (qAt r i).1 (qAt r i).2).length with h' | h'
    · exact h'
    · rw [List.drop_eq_nil_of_le h'] at h; simp [U.whats] at h
  have hx : (U.whats (U.dones (qAt r i).1 (qAt r i).2))[k]'(by rw [U.whats_len]; exact h1) = x := by
    rw [List.drop_eq_getElem_cons h1] at h
    simp only [List.take_succ_cons, List.take_zero, U.whats, List.map_cons, List.map_nil] at h
    injection h with h _
    unfold U.whats
    rw [List.getElem_map]
    exact h
  refine ⟨by rw [U.whats_len]; omega, ?_⟩
  rw [List.take_succ_eq_append_getElem (by rw [U.whats_len]; exact h1), hx]
theorem told_end (r : RcS) (i k : Nat) (h : U.dones (qAt r i).1 ((qAt r i).2.drop k) = []) (hk : k ≤ (told r i).length) : (told r i).take k = told r i := by
  unfold told at *
  rw [U.whats_len] at hk
  rw [dones_drop _ _ _ hk] at h
  exact List.take_of_length_le (by rw [U.whats_len]; exact List.drop_eq_nil_iff.1 h)
theorem told_le (r : RcS) (i : Nat) : (told r i).length ≤ (qAt r i).2.length := by unfold told; rw [U.whats_len]; exact U.dones_len _ _

theorem kf_below {zz : Nat} {W Y : World} (h : Below W.heap.size W Y) : KeepsFrom zz W Y := ⟨h.size, fun k _ _ hk _ => (h.block k (Array.getElem?_eq_some_iff.1 hk).1).trans hk⟩
theorem kf_keeps {zz b : Nat} {W Y : World} {cs : Array Value} {T : TypeId} {f : Nat × Nat} (hk : Keeps (fun k => k = b) W Y) (hb : W.heap[b]? = some (.cells cs T f)) : KeepsFrom zz W Y := ⟨hk.size, fun k _ _ ho hc => (hk.block k (Array.getElem?_eq_some_iff.1 ho).1 (fun e => by
  have e' : k = b := e
  rw [e', hb] at ho; cases ho; cases hc)).trans ho⟩
/-- What a callback's taking comes to. -/
def TkQ (r : RcS) (i k : Nat) (S : Nat → Prop) (v' : Value) (o' x' e' : Int) (Y : World) : Prop :=
  (e' = 0 ∧ o' = (qAt r i).1 ∧ U.CbOut S Y v' ((qAt r i).2.drop (k + 1)) ∧ U.whats ((U.dones (qAt r i).1 ((qAt r i).2.drop k)).take 1) = [x']) ∨ (e' = 4 ∧ v' = .slice none 0 0 ∧ U.dones (qAt r i).1 ((qAt r i).2.drop k) = [])
theorem TkQ.below {r : RcS} {i k : Nat} {S : Nat → Prop} {v' : Value} {o' x' e' : Int} {Y Z : World} (h : TkQ r i k S v' o' x' e' Y) (hb : Below Y.heap.size Y Z) : TkQ r i k S v' o' x' e' Z := by
  rcases h with ⟨h1, h2, h3, h4⟩ | h
  · exact .inl ⟨h1, h2, h3.below hb, h4⟩
  · exact .inr h
theorem TkQ.keeps {r : RcS} {i k : Nat} {S : Nat → Prop} {v' : Value} {o' x' e' : Int} {Y Z : World} (h : TkQ r i k S v' o' x' e' Y) (hk : Keeps S Y Z) : TkQ r i k S v' o' x' e' Z := by
  rcases h with ⟨h1, h2, h3, h4⟩ | h
  · exact .inl ⟨h1, h2, h3.keeps hk, h4⟩
  · exact .inr h
theorem TkQ.apart {r : RcS} {i k : Nat} {S T : Nat → Prop} {v' : Value} {o' x' e' : Int} {Y : World} (h : TkQ r i k S v' o' x' e' Y) (hT : ∀ q, T q → S q ∨ Y.heap.size ≤ q) : TkQ r i k T v' o' x' e' Y := by
  rcases h with ⟨h1, h2, h3, h4⟩ | h
  · exact .inl ⟨h1, h2, h3.apart hT, h4⟩
  · exact .inr h
theorem TkQ.sl {r : RcS} {i k : Nat} {S : Nat → Prop} {v' : Value} {o' x' e' : Int} {Y : World} (h : TkQ r i k S v' o' x' e' Y) : ∃ p n c, v' = .slice p n c := by
  rcases h with ⟨-, -, ⟨p, c, e, -⟩, -⟩ | ⟨-, e, -⟩
  · exact ⟨_, _, _, e⟩
  · exact ⟨_, _, _, e⟩

set_option maxHeartbeats 32000000 in
theorem done_seq (M : List Int → Prop) (n : Nat) (hn : 1 ≤ n) (Wr : World) (z B : Nat) (r : RcS) (i : Nat) (u v nv : Value) (qb qc : Nat) (lv0 : Value) (ls0 : List Int) (tb cb : Nat) (hV : VtAt Wr z B r u v nv qb qc lv0 ls0) (hm : rmayB r = true) (h0c : ∀ c ∈ (qAt r i).2, 0 ≤ c.1) (hi : i < r.qs.length)
    (ht : Boxed Wr tb 94 (.pointer (some ⟨z, 0, none⟩))) (hc : Boxed Wr cb 3 (.int .i64 (i : Int))) :
    SeqW Fence.wide n Tryz.prog 126 #[.pointer (some ⟨tb, 0, none⟩), .pointer (some ⟨cb, 0, none⟩)] (fun x : Int => #[.int .u64 x]) (Dn0 M Wr z B r i u v nv qb qc lv0 ls0) (DnY M Wr z B r i u v nv qb qc lv0 ls0) (fun xs => xs = told r i) Wr := fun l zz E Ex W hz1 hz2 hE hY h0 hE0 => by
  obtain ⟨-, -, -, -, hqs⟩ := rmay_facts hm
  obtain ⟨hq1, hq2, -⟩ := hqs _ (List.getElem_mem hi)
  rw [← qAt_lt hi] at hq1 hq2
  have hSt := hV.ne ht (by decide)
  have hSc := hV.ne hc (by decide)
  obtain ⟨N, hN⟩ : ∃ N, N = r.qs.length := ⟨_, rfl⟩
  have HG := Lib.hid (show U.mayB (qAt r i).1 (qAt r i).2 = true ∧ (∀ c ∈ (qAt r i).2, 0 ≤ c.1) ∧ i < r.qs.length ∧ N = r.qs.length ∧ (0 ≤ (qAt r i).1) from ⟨hq1, h0c, hi, hN, by rw [hq2]; exact (mayG_facts (rmay_facts hm).2.1).2.2.1⟩)
  have hin : (i : Int) < (N : Int) := by omega
  have hi0 : (0 : Int) ≤ (i : Int) := by omega
  have HBX := Lib.hid (show ∀ Y, Keeps (dS z qb lv0) Wr Y → Boxed Y tb 94 (.pointer (some ⟨z, 0, none⟩)) ∧ Boxed Y cb 3 (.int .i64 (i : Int)) from fun Y hk => ⟨(hk.block tb ht.lt hSt).trans ht, (hk.block cb hc.lt hSc).trans hc⟩)
  have H0 := Lib.hid (show ∃ lv, DnW Wr z B r i u v nv qb qc lv0 ls0 0 ((told r i).take 0) lv W ∧ E W ∧ M ((told r i).take 0) from by
    obtain ⟨⟨lv, h⟩, -, hM⟩ := h0
    exact ⟨lv, h, hE0, hM⟩)
  have HY := Lib.hid (And.intro hE (And.intro hY (And.intro hz1 hz2)))
  have hsl := hV.sl
  have HSL := Lib.hid hsl
  clear hm h0c hq1 hq2 hqs hSt hSc ht hc h0 hE0 hE hY hz1 hz2 hV hN hsl hi
  refine callsIn_of_wp Tryz.func126 rfl trivial ?_ rfl
  simp only [Tryz.ntmps126, List.size_toArray, List.length_cons, List.length_nil, Nat.reduceAdd, Nat.reduceSub, Array.replicate_succ, Array.replicate_zero, List.push_toArray, List.append_toArray, List.nil_append, List.cons_append]
  gi_wp2
  gi_loopw [7] (fun _ wr => ∃ k : Nat, Hid (∃ lv, DnW Wr z B r i u v nv qb qc lv0 ls0 k ((told r i).take k) lv wr ∧ E wr ∧ M ((told r i).take k))) (fun _ wr => lenAt wr qb i)
  case atStart => exact ⟨0, H0⟩
  case round =>
    clear H0
    obtain ⟨k, HK⟩ := hrel
    obtain ⟨lv, hd, he, hM0⟩ := HK.out
    have HMM := Lib.hid hM0
    clear hM0
    have hmk : U.mayB (qAt r i).1 ((qAt r i).2.drop k) = true := may_drop HG.out.1 HG.out.2.1 k
    obtain ⟨cv, hc0, hc1, hcb⟩ := hd.at_.row.cell i (by rw [(dropR_at r i k).1]; exact HG.out.2.2.1)
    rw [(dropR_at r i k).2 (by rw [(dropR_at r i k).1]; exact HG.out.2.2.1)] at hc1 hcb
    obtain ⟨lp, lc, rfl, -⟩ := id hcb
    obtain ⟨m, hmm⟩ : ∃ m, m = ((qAt r i).2.drop k).length := ⟨_, rfl⟩
    obtain ⟨over, hov⟩ : ∃ o, o = (qAt r i).1 := ⟨_, rfl⟩
    dsimp only at hc0 hc1 hcb
    rw [← hmm] at hc0 hcb
    rw [← hov] at hc1
    have hlen := lenAt_eq hc0
    have HK2 := Lib.hid (show U.mayB (qAt r i).1 ((qAt r i).2.drop k) = true ∧ m = ((qAt r i).2.drop k).length ∧ over = (qAt r i).1 ∧ lenAt wr qb i = m from ⟨hmk, hmm, hov, hlen⟩)
    have HD := Lib.hid (show DnW Wr z B r i u v nv qb qc lv0 ls0 k ((told r i).take k) lv wr ∧ E wr ∧ U.CbOut (vS B qb lv) wr (.slice lp m lc) ((qAt r i).2.drop k) from ⟨hd, he, hcb⟩)
    obtain ⟨ht0, hc0'⟩ := HBX.out wr hd.kp
    have hbx0 := hd.at_.box
    rw [(dropR_at r i k).1, ← HG.out.2.2.2.1] at hbx0
    change VtBox wr z r.s.now u v r.g.done r.g.asked r.g.on nv (.slice (some ⟨qb, 0, none⟩) N qc) lv at hbx0
    have HBN := Lib.hid (show ∀ Y j, VtAt Y z B (dropR r i j) u v nv qb qc lv (ls0 ++ (told r i).take k) → VtBox Y z r.s.now u v r.g.done r.g.asked r.g.on nv (.slice (some ⟨qb, 0, none⟩) N qc) lv from fun Y j h => by
      have h' := h.box
      rw [(dropR_at r i j).1, ← HG.out.2.2.2.1] at h'
      exact h')
    have HSZ := Lib.hid (show B ≤ wr.heap.size ∧ qb < wr.heap.size ∧ (∀ g, lv.ownBlock = some g → g < wr.heap.size) ∧ k ≤ (told r i).length from ⟨hd.at_.BW, hd.at_.row.lt, fun g hg => (hd.at_.lB hg).2, hd.kl⟩)
    clear hmk hcb hmm hov hlen hd he HK
    refine wpIn_block ?_
    refine wpIn_seq_k fun K hK0 => ?_
    have hM : ∀ (z4 : Nat) (p' : Option Addr) (m' c' : Nat) (o' x' e' : Int) (Y : World), DnW Wr z B r i u v nv qb qc lv0 ls0 k ((told r i).take k) lv Y → E Y → U.QBox Y z4 (.slice p' m' c') o' → TkQ r i k (fun q => q < wr.heap.size ∨ q = z4) (.slice p' m' c') o' x' e' Y → wr.heap.size ≤ z4 →
        K { tmps := #[.func (.yield l) #[] #[], .pointer (some ⟨tb, 0, none⟩), .pointer (some ⟨cb, 0, none⟩), undef, .pointer (some ⟨z4, 0, none⟩), .int .u64 x', .int .i64 e', .tuple #[.agg #[.slice p' m' c', .int .u64 o'], .int .u64 x', .int .i64 e'], .pointer (some ⟨z, 0, none⟩), .pointer (some ⟨z, 0, none⟩), .pointer (some ⟨z, 0, none⟩), .pointer (some ⟨z, 7, none⟩), .slice (some ⟨qb, 0, none⟩) N qc, .int .i64 (i : Int), .pointer (some ⟨qb, i * 2, none⟩), .agg #[.slice lp m lc, .int .u64 over], .tuple #[.agg #[.slice p' m' c', .int .u64 o'], .int .u64 x', .int .i64 e'], .agg #[.slice p' m' c', .int .u64 o'], .int .u64 x', .int .i64 e', u20, u21, u22, u23, u24, u25, u26, u27, u28, u29, u30, u31, u32, u33], defers := [] } Y := by
      intro z4 p' m' c' o' x' e' Y hd he hq htk hz4
      refine hK0 _ _ ?_
      have HM := Lib.hid (show DnW Wr z B r i u v nv qb qc lv0 ls0 k ((told r i).take k) lv Y ∧ E Y ∧ U.QBox Y z4 (.slice p' m' c') o' ∧ TkQ r i k (fun q => q < wr.heap.size ∨ q = z4) (.slice p' m' c') o' x' e' Y ∧ wr.heap.size ≤ z4 from ⟨hd, he, hq, htk, hz4⟩)
      clear hd he hq htk hz4 hK0 ht0 hc0' hbx0 hc0 hc1
      by_cases hE0 : e' = 0
      · subst hE0
        obtain ⟨ho', hcb', htk'⟩ : o' = (qAt r i).1 ∧ U.CbOut (fun q => q < wr.heap.size ∨ q = z4) Y (.slice p' m' c') ((qAt r i).2.drop (k + 1)) ∧ U.whats ((U.dones (qAt r i).1 ((qAt r i).2.drop k)).take 1) = [x'] := by
          rcases HM.out.2.2.2.1 with ⟨-, h1, h2, h3⟩ | ⟨h, -⟩
          · exact ⟨h1, h2, h3⟩
          · exact absurd h (by decide)
        subst ho'
        have htn := told_next r i k x' htk' HM.out.1.kl
        have HTN := Lib.hid (And.intro htn hcb')
        have hb0 := HBN.out Y k HM.out.1.at_
        obtain ⟨hb1, hb2⟩ := HBX.out Y HM.out.1.kp
        have hq0 := HM.out.2.2.1
        clear hcb' htk' htn
        gi_wp2_with fail
        refine wpIn_wide.2 ?_
        refine wpTwo_begin (T := fun w' => Boxed w' tb 94 (.pointer (some ⟨z, 0, none⟩)) ∧ Boxed w' cb 3 (.int .i64 (i : Int)) ∧ VtBox w' z r.s.now u v r.g.done r.g.asked r.g.on nv (.slice (some ⟨qb, 0, none⟩) N qc) lv ∧ U.QBox w' z4 (.slice p' m' c') (qAt r i).1) (S := fun _ => True) (late := fun _ => false) (by kernel_rfl) ?_
        obtain ⟨X, hX⟩ : ∃ V : World, V = Y.drew := ⟨_, rfl⟩
        rw [← hX]
        have hbx : Below Y.heap.size Y X := by rw [hX]; exact (Below.refl _ _).drew
        clear hX
        have HX := Lib.hid (show DnW Wr z B r i u v nv qb qc lv0 ls0 k ((told r i).take k) lv X ∧ E X ∧ U.CbOut (fun q => q < wr.heap.size ∨ q = z4) X (.slice p' m' c') ((qAt r i).2.drop (k + 1)) from ⟨HM.out.1.below hbx, HY.out.1 _ _ HM.out.2.1 (kf_below hbx), HTN.out.2.below hbx⟩)
        have hT0 : (fun w' => Boxed w' tb 94 (.pointer (some ⟨z, 0, none⟩)) ∧ Boxed w' cb 3 (.int .i64 (i : Int)) ∧ VtBox w' z r.s.now u v r.g.done r.g.asked r.g.on nv (.slice (some ⟨qb, 0, none⟩) N qc) lv ∧ U.QBox w' z4 (.slice p' m' c') (qAt r i).1) X := ⟨boxed_bw hb1 hbx, boxed_bw hb2 hbx, hb0.below hbx, hq0.below hbx⟩
        have HQL := Lib.hid (show z4 < X.heap.size from hT0.2.2.2.lt)
        clear hbx hb0 hb1 hb2 hq0
        refine wpTwo_takeT (i := 0) (v := .pointer (some ⟨z, 0, none⟩)) rfl (by kernel_rfl) (by kernel_rfl) (by kernel_rfl) (fun _ _ _ h => h) ⟨by rfl, ?_⟩ hT0 ?_
        · rintro w ⟨hT1, hT2, hT3, hT4⟩
          have s0 := hT1.cell
          have s1 := hT2.cell
          obtain ⟨t0, t1, t2, t3, t4, t5, t6, t7, t8⟩ := hT3.cells
          obtain ⟨q0, q1⟩ := hT4.cells
          go_simp
        (try simp only [Act.put, List.getElem_toArray, List.getElem_cons_zero, List.setIfInBounds_toArray, List.set_cons_succ, List.set_cons_zero])
        refine wpTwo_takeT (i := 1) (v := .pointer (some ⟨z, 0, none⟩)) rfl (by kernel_rfl) (by kernel_rfl) (by kernel_rfl) (fun _ _ _ h => h) ⟨by rfl, ?_⟩ hT0 ?_
        · rintro w ⟨hT1, hT2, hT3, hT4⟩
          have s0 := hT1.cell
          have s1 := hT2.cell
          obtain ⟨t0, t1, t2, t3, t4, t5, t6, t7, t8⟩ := hT3.cells
          obtain ⟨q0, q1⟩ := hT4.cells
          go_simp
        (try simp only [Act.put, List.getElem_toArray, List.getElem_cons_succ, List.getElem_cons_zero, List.setIfInBounds_toArray, List.set_cons_succ, List.set_cons_zero])
        refine wpTwo_takeT (i := 2) (v := .pointer (some ⟨z, 0, none⟩)) rfl (by kernel_rfl) (by kernel_rfl) (by kernel_rfl) (fun _ _ _ h => h) ⟨by rfl, ?_⟩ hT0 ?_
        · rintro w ⟨hT1, hT2, hT3, hT4⟩
          have s0 := hT1.cell
          have s1 := hT2.cell
          obtain ⟨t0, t1, t2, t3, t4, t5, t6, t7, t8⟩ := hT3.cells
          obtain ⟨q0, q1⟩ := hT4.cells
          go_simp
        (try simp only [Act.put, List.getElem_toArray, List.getElem_cons_succ, List.getElem_cons_zero, List.setIfInBounds_toArray, List.set_cons_succ, List.set_cons_zero])
        refine wpTwo_takeT (i := 3) (v := .pointer (some ⟨z, 7, none⟩)) rfl (by kernel_rfl) (by kernel_rfl) (by kernel_rfl) (fun _ _ _ h => h) ⟨by rfl, ?_⟩ hT0 ?_
        · rintro w ⟨hT1, hT2, hT3, hT4⟩
          have s0 := hT1.cell
          have s1 := hT2.cell
          obtain ⟨t0, t1, t2, t3, t4, t5, t6, t7, t8⟩ := hT3.cells
          obtain ⟨q0, q1⟩ := hT4.cells
          go_simp
        (try simp only [Act.put, List.getElem_toArray, List.getElem_cons_succ, List.getElem_cons_zero, List.setIfInBounds_toArray, List.set_cons_succ, List.set_cons_zero])
        refine wpTwo_takeT (i := 4) (v := .slice (some ⟨qb, 0, none⟩) N qc) rfl (by kernel_rfl) (by kernel_rfl) (by kernel_rfl) (fun _ _ _ h => h) ⟨by rfl, ?_⟩ hT0 ?_
        · rintro w ⟨hT1, hT2, hT3, hT4⟩
          have s0 := hT1.cell
          have s1 := hT2.cell
          obtain ⟨t0, t1, t2, t3, t4, t5, t6, t7, t8⟩ := hT3.cells
          obtain ⟨q0, q1⟩ := hT4.cells
          go_simp
        (try simp only [Act.put, List.getElem_toArray, List.getElem_cons_succ, List.getElem_cons_zero, List.setIfInBounds_toArray, List.set_cons_succ, List.set_cons_zero])
        refine wpTwo_takeT (i := 5) (v := .int .i64 (i : Int)) rfl (by kernel_rfl) (by kernel_rfl) (by kernel_rfl) (fun _ _ _ h => h) ⟨by rfl, ?_⟩ hT0 ?_
        · rintro w ⟨hT1, hT2, hT3, hT4⟩
          have s0 := hT1.cell
          have s1 := hT2.cell
          obtain ⟨t0, t1, t2, t3, t4, t5, t6, t7, t8⟩ := hT3.cells
          obtain ⟨q0, q1⟩ := hT4.cells
          go_simp
        (try simp only [Act.put, List.getElem_toArray, List.getElem_cons_succ, List.getElem_cons_zero, List.setIfInBounds_toArray, List.set_cons_succ, List.set_cons_zero])
        refine wpTwo_takeT (i := 6) (v := .agg #[.slice p' m' c', .int .u64 (qAt r i).1]) rfl (by kernel_rfl) (by kernel_rfl) (by kernel_rfl) (fun _ _ _ h => h) ⟨by rfl, ?_⟩ hT0 ?_
        · rintro w ⟨hT1, hT2, hT3, hT4⟩
          have s0 := hT1.cell
          have s1 := hT2.cell
          obtain ⟨t0, t1, t2, t3, t4, t5, t6, t7, t8⟩ := hT3.cells
          obtain ⟨q0, q1⟩ := hT4.cells
          go_simp
        (try simp only [Act.put, List.getElem_toArray, List.getElem_cons_succ, List.getElem_cons_zero, List.setIfInBounds_toArray, List.set_cons_succ, List.set_cons_zero])
        refine wpTwo_takeT (i := 7) (v := .pointer (some ⟨qb, i * 2, none⟩)) rfl (by kernel_rfl) (by kernel_rfl) (by kernel_rfl) (fun _ _ _ h => h) ⟨by rfl, ?_⟩ hT0 ?_
        · rintro w ⟨hT1, hT2, hT3, hT4⟩
          have s0 := hT1.cell
          have s1 := hT2.cell
          obtain ⟨t0, t1, t2, t3, t4, t5, t6, t7, t8⟩ := hT3.cells
          obtain ⟨q0, q1⟩ := hT4.cells
          go_simp
        (try simp only [Act.put, List.getElem_toArray, List.getElem_cons_succ, List.getElem_cons_zero, List.setIfInBounds_toArray, List.set_cons_succ, List.set_cons_zero])
        obtain ⟨cv2, cq0, cq1, -⟩ := HX.out.1.at_.row.cell i (by rw [(dropR_at r i k).1]; exact HG.out.2.2.1)
        have mq0 := HX.out.1.at_.row.free (i * 2)
        have mq1 := HX.out.1.at_.row.free (i * 2 + 1)
        refine wpTwo_ready (rs := [8]) (by kernel_rfl) (by simp) ?_
        refine (AllTwo.cons rfl (fun K2 hK => ?_) AllTwo.nil)
        go_simp
        obtain ⟨Y2, hY2⟩ : ∃ V : World, V = ((X.setCell ⟨qb, i * 2, none⟩ (.slice p' m' c')).setCell ⟨qb, i * 2 + 1, none⟩ (.int .u64 (qAt r i).1)) := ⟨_, rfl⟩
        have hkY : Keeps (fun k => k = qb) X Y2 := by rw [hY2]; exact (setK X qb (i * 2) _).trans (setK _ qb (i * 2 + 1) _)
        have hvY := HX.out.1.at_.setQ i (by rw [(dropR_at r i k).1]; exact HG.out.2.2.1) (.slice p' m' c') (qAt r i).1 ((qAt r i).2.drop (k + 1)) (HX.out.2.2.sub (fun q hq => by
          rcases hq with h | h | h
          · exact .inl (Nat.lt_of_lt_of_le h HSZ.out.1)
          · exact .inl (by rw [h]; exact HSZ.out.2.1)
          · exact .inl (HSZ.out.2.2.1 q h.symm)))
        rw [← hY2] at hvY
        have hdr := dropR_next r i k 1
        rw [List.drop_drop] at hdr
        rw [hdr] at hvY
        rw [← hY2]
        have hln : ((told r i).take k).length = k := by rw [List.length_take]; have := HSZ.out.2.2.2; omega
        have HYY := Lib.hid (show DnY M Wr z B r i u v nv qb qc lv0 ls0 ((told r i).take k) x' Y2 ∧ E Y2 from by
          obtain ⟨cur, hrow, -⟩ := HX.out.1.at_.row
          refine ⟨⟨⟨lv, by rw [hln]; exact hvY, HX.out.1.kp.trans (hkY.sub fun k _ e => .inr (.inl e)), HX.out.1.ow, by rw [hln]; exact HTN.out.1.1⟩, by rw [hln]; exact HTN.out.1.2, HMM.out⟩, HY.out.1 _ _ HX.out.2.1 (kf_keeps hkY hrow)⟩)
        have hT5 : (fun w' => Boxed w' tb 94 (.pointer (some ⟨z, 0, none⟩)) ∧ Boxed w' cb 3 (.int .i64 (i : Int)) ∧ VtBox w' z r.s.now u v r.g.done r.g.asked r.g.on nv (.slice (some ⟨qb, 0, none⟩) N qc) lv ∧ U.QBox w' z4 (.slice p' m' c') (qAt r i).1) Y2 := by
          obtain ⟨⟨lvv, hd2⟩, -⟩ := HYY.out.1
          have hbb := HBX.out Y2 (HX.out.1.kp.trans (hkY.sub fun k _ e => .inr (.inl e)))
          refine ⟨hbb.1, hbb.2, HBN.out Y2 (k + 1) hvY, hT0.2.2.2.keeps hkY (fun e => ?_)⟩
          have := HM.out.2.2.2.2
          have := HSZ.out.2.1
          omega
        have HLN := Lib.hid hln
        clear hvY hkY hY2 hdr hln mq0 mq1 cq0 cq1 HX hT0
        refine hK.out _ _ ⟨hT5, fun _ _ => trivial⟩ ?_
        clear hK
        (try simp only [Act.put, List.getElem_toArray, List.getElem_cons_succ, List.getElem_cons_zero, List.setIfInBounds_toArray, List.set_cons_succ, List.set_cons_zero])
        refine wpTwo_end (by kernel_rfl) ?_ _
        obtain ⟨fn, tmps, assign, body, hy2, hR⟩ := HY.out.2.1 ((told r i).take k) x' Y2 HYY.out.1 HYY.out.2
        clear hT5 HM
        gi_wp2_with fail
        refine hR.mono ?_
        rintro e W3 (⟨rfl, hd3, he3⟩ | ⟨rfl, hx3⟩)
        · have HF := Lib.hid (show (∃ lv, DnW Wr z B r i u v nv qb qc lv0 ls0 (k + 1) ((told r i).take (k + 1)) lv W3 ∧ E W3 ∧ M ((told r i).take (k + 1))) ∧ lenAt W3 qb i < lenAt wr qb i from by
            obtain ⟨⟨lv3, hd4⟩, -, hm4⟩ := hd3
            have h6 : ((told r i).take k ++ [x']).length = k + 1 := by rw [List.length_append, HLN.out]; rfl
            rw [HTN.out.1.2] at hd4 h6 hm4
            rw [h6] at hd4
            obtain ⟨cv3, c30, -, c32⟩ := hd4.at_.row.cell i (by rw [(dropR_at r i (k + 1)).1]; exact HG.out.2.2.1)
            rw [(dropR_at r i (k + 1)).2 (by rw [(dropR_at r i (k + 1)).1]; exact HG.out.2.2.1)] at c32
            obtain ⟨p3, c3, rfl, -⟩ := c32
            refine ⟨⟨lv3, hd4, he3, hm4⟩, ?_⟩
            rw [lenAt_eq c30, HK2.out.2.2.2, HK2.out.2.1]
            simp only [List.length_drop]
            have := HTN.out.1.1
            have := told_le r i
            omega)
          clear hd3 he3 hR
          gi_wp2
          go_roundw
          case rel => exact ⟨k + 1, Lib.hid HF.out.1⟩
          case measure => exact HF.out.2
        · have HX := Lib.hid hx3
          clear hx3 hR
          gi_wp2
          refine bodyPost_ret (results_none rfl _ _ _) rfl ?_
          exact ⟨⟨_, rfl⟩, .inr HX.out⟩
      · obtain ⟨rfl, h1, h2⟩ : e' = 4 ∧ Value.slice p' m' c' = .slice none 0 0 ∧ U.dones (qAt r i).1 ((qAt r i).2.drop k) = [] := by
          rcases HM.out.2.2.2.1 with ⟨h, -⟩ | h
          · exact absurd h hE0
          · exact h
        have HF := Lib.hid (show ∃ xs, xs = told r i ∧ Dn0 M Wr z B r i u v nv qb qc lv0 ls0 xs Y ∧ E Y from by
          have hte := told_end r i k h2 HM.out.1.kl
          have hk : k = (told r i).length := by
            have h3 := congrArg List.length hte
            rw [List.length_take] at h3
            have h4 := HM.out.1.kl
            omega
          refine ⟨told r i, rfl, ⟨⟨lv, ?_⟩, (List.take_length).symm, by have h8 := HMM.out; rw [hte] at h8; exact h8⟩, HM.out.2.1⟩
          have h5 := HM.out.1
          rw [hte, hk] at h5
          exact h5)
        clear h1 h2 hE0 HM
        gi_wp2
        refine bodyPost_ret (results_none rfl _ _ _) rfl ?_
        exact ⟨⟨_, rfl⟩, .inl HF.out⟩
    clear hK0
    refine wpIn_wide.2 ?_
    refine wpTwo_begin (T := fun w' => Boxed w' tb 94 (.pointer (some ⟨z, 0, none⟩)) ∧ Boxed w' cb 3 (.int .i64 (i : Int)) ∧ VtBox w' z r.s.now u v r.g.done r.g.asked r.g.on nv (.slice (some ⟨qb, 0, none⟩) N qc) lv ∧ w'.cell? ⟨qb, i * 2, none⟩ = some (.slice lp m lc) ∧ w'.cell? ⟨qb, i * 2 + 1, none⟩ = some (.int .u64 over)) (S := fun _ => True) (late := fun _ => false) (by kernel_rfl) ?_
    have HT := Lib.hid (show ∀ Y, Below wr.heap.size wr Y → ((fun w' => Boxed w' tb 94 (.pointer (some ⟨z, 0, none⟩)) ∧ Boxed w' cb 3 (.int .i64 (i : Int)) ∧ VtBox w' z r.s.now u v r.g.done r.g.asked r.g.on nv (.slice (some ⟨qb, 0, none⟩) N qc) lv ∧ w'.cell? ⟨qb, i * 2, none⟩ = some (.slice lp m lc) ∧ w'.cell? ⟨qb, i * 2 + 1, none⟩ = some (.int .u64 over)) Y ∧ DnW Wr z B r i u v nv qb qc lv0 ls0 k ((told r i).take k) lv Y ∧ U.CbOut U.NoS Y (.slice lp m lc) ((qAt r i).2.drop k)) from fun Y hb => ⟨⟨boxed_bw ht0 hb, boxed_bw hc0' hb, hbx0.below hb, below_cell hb hc0, below_cell hb hc1⟩, HD.out.1.below hb, (HD.out.2.2.below hb).sub (fun _ h => False.elim h)⟩)
    have HE0 := Lib.hid HD.out.2.1
    obtain ⟨X, hX⟩ : ∃ Y : World, Y = wr.drew := ⟨_, rfl⟩
    rw [← hX]
    have hbx : Below wr.heap.size wr X := by rw [hX]; exact (Below.refl _ _).drew
    clear hX
    have HX := Lib.hid (show Below wr.heap.size wr X ∧ E X from ⟨hbx, HY.out.1 _ _ HE0.out (kf_below hbx)⟩)
    have hT0 := (HT.out X hbx).1
    clear hbx HD ht0 hc0' hbx0 hc0 hc1
    refine wpTwo_takeT (i := 0) (v := .pointer (some ⟨z, 0, none⟩)) rfl (by kernel_rfl) (by kernel_rfl) (by kernel_rfl) (fun _ _ _ h => h) ⟨by rfl, ?_⟩ hT0 ?_
    · rintro w ⟨hT1, hT2, hT3, hT4, hT5⟩
      have s0 := hT1.cell
      have s1 := hT2.cell
      obtain ⟨t0, t1, t2, t3, t4, t5, t6, t7, t8⟩ := hT3.cells
      go_simp
    (try simp only [Act.put, List.getElem_toArray, List.getElem_cons_zero, List.setIfInBounds_toArray, List.set_cons_succ, List.set_cons_zero])
    refine wpTwo_takeT (i := 1) (v := .pointer (some ⟨z, 0, none⟩)) rfl (by kernel_rfl) (by kernel_rfl) (by kernel_rfl) (fun _ _ _ h => h) ⟨by rfl, ?_⟩ hT0 ?_
    · rintro w ⟨hT1, hT2, hT3, hT4, hT5⟩
      have s0 := hT1.cell
      have s1 := hT2.cell
      obtain ⟨t0, t1, t2, t3, t4, t5, t6, t7, t8⟩ := hT3.cells
      go_simp
    (try simp only [Act.put, List.getElem_toArray, List.getElem_cons_succ, List.getElem_cons_zero, List.setIfInBounds_toArray, List.set_cons_succ, List.set_cons_zero])
    refine wpTwo_takeT (i := 2) (v := .pointer (some ⟨z, 0, none⟩)) rfl (by kernel_rfl) (by kernel_rfl) (by kernel_rfl) (fun _ _ _ h => h) ⟨by rfl, ?_⟩ hT0 ?_
    · rintro w ⟨hT1, hT2, hT3, hT4, hT5⟩
      have s0 := hT1.cell
      have s1 := hT2.cell
      obtain ⟨t0, t1, t2, t3, t4, t5, t6, t7, t8⟩ := hT3.cells
      go_simp
    (try simp only [Act.put, List.getElem_toArray, List.getElem_cons_succ, List.getElem_cons_zero, List.setIfInBounds_toArray, List.set_cons_succ, List.set_cons_zero])
    refine wpTwo_takeT (i := 3) (v := .pointer (some ⟨z, 7, none⟩)) rfl (by kernel_rfl) (by kernel_rfl) (by kernel_rfl) (fun _ _ _ h => h) ⟨by rfl, ?_⟩ hT0 ?_
    · rintro w ⟨hT1, hT2, hT3, hT4, hT5⟩
      have s0 := hT1.cell
      have s1 := hT2.cell
      obtain ⟨t0, t1, t2, t3, t4, t5, t6, t7, t8⟩ := hT3.cells
      go_simp
    (try simp only [Act.put, List.getElem_toArray, List.getElem_cons_succ, List.getElem_cons_zero, List.setIfInBounds_toArray, List.set_cons_succ, List.set_cons_zero])
    refine wpTwo_takeT (i := 4) (v := .slice (some ⟨qb, 0, none⟩) N qc) rfl (by kernel_rfl) (by kernel_rfl) (by kernel_rfl) (fun _ _ _ h => h) ⟨by rfl, ?_⟩ hT0 ?_
    · rintro w ⟨hT1, hT2, hT3, hT4, hT5⟩
      have s0 := hT1.cell
      have s1 := hT2.cell
      obtain ⟨t0, t1, t2, t3, t4, t5, t6, t7, t8⟩ := hT3.cells
      go_simp
    (try simp only [Act.put, List.getElem_toArray, List.getElem_cons_succ, List.getElem_cons_zero, List.setIfInBounds_toArray, List.set_cons_succ, List.set_cons_zero])
    refine wpTwo_takeT (i := 5) (v := .int .i64 (i : Int)) rfl (by kernel_rfl) (by kernel_rfl) (by kernel_rfl) (fun _ _ _ h => h) ⟨by rfl, ?_⟩ hT0 ?_
    · rintro w ⟨hT1, hT2, hT3, hT4, hT5⟩
      have s0 := hT1.cell
      have s1 := hT2.cell
      obtain ⟨t0, t1, t2, t3, t4, t5, t6, t7, t8⟩ := hT3.cells
      go_simp
    (try simp only [Act.put, List.getElem_toArray, List.getElem_cons_succ, List.getElem_cons_zero, List.setIfInBounds_toArray, List.set_cons_succ, List.set_cons_zero])
    refine wpTwo_takeT (i := 6) (v := .pointer (some ⟨qb, i * 2, none⟩)) rfl (by kernel_rfl) (by kernel_rfl) (by kernel_rfl) (fun _ _ _ h => h) ⟨by rfl, ?_⟩ hT0 ?_
    · rintro w ⟨hT1, hT2, hT3, hT4, hT5⟩
      have s0 := hT1.cell
      have s1 := hT2.cell
      obtain ⟨t0, t1, t2, t3, t4, t5, t6, t7, t8⟩ := hT3.cells
      go_simp
    (try simp only [Act.put, List.getElem_toArray, List.getElem_cons_succ, List.getElem_cons_zero, List.setIfInBounds_toArray, List.set_cons_succ, List.set_cons_zero])
    refine wpTwo_takeT (i := 7) (v := .agg #[.slice lp m lc, .int .u64 over]) rfl (by kernel_rfl) (by kernel_rfl) (by kernel_rfl) (fun _ _ _ h => h) ⟨by rfl, ?_⟩ hT0 ?_
    · rintro w ⟨hT1, hT2, hT3, hT4, hT5⟩
      have s0 := hT1.cell
      have s1 := hT2.cell
      obtain ⟨t0, t1, t2, t3, t4, t5, t6, t7, t8⟩ := hT3.cells
      go_simp
    (try simp only [Act.put, List.getElem_toArray, List.getElem_cons_succ, List.getElem_cons_zero, List.setIfInBounds_toArray, List.set_cons_succ, List.set_cons_zero])
    refine wpTwo_ready (rs := [8, 13]) (by kernel_rfl) (by simp) ?_
    refine (AllTwo.cons rfl (fun K2 hK => ?_) (AllTwo.cons rfl (fun K2 hK => ?_) AllTwo.nil))
    · go_simp
      have HC := Lib.hid (U.take1_c (.slice lp m lc) over ((qAt r i).2.drop k) X (HT.out X HX.out.1).2.2 (by rw [HK2.out.2.2.1]; exact HG.out.2.2.2.2))
      (with_reducible refine HC.out.mono ?_)
      rintro e X1 ⟨hTA, hb1⟩
      obtain ⟨v', o', x', e', rfl, hTQ⟩ : ∃ v' o' x' e', e = .returned (.tuple #[.agg #[v', .int .u64 o'], .int .u64 x', .int .i64 e']) ∧ TkQ r i k (fun q => q < X.heap.size) v' o' x' e' X1 := by
        rcases hTA with ⟨h1, v', x', h2, h3, h4⟩ | ⟨h1, h2⟩
        · refine ⟨v', over, x', 0, h2, .inl ⟨rfl, HK2.out.2.2.1, ?_, by rw [← HK2.out.2.2.1]; exact h4⟩⟩
          have h5 := h3.1
          rw [List.drop_drop] at h5
          exact h5
        · have h6 : U.takeE over ((qAt r i).2.drop k) = if U.dones over ((qAt r i).2.drop k) = [] then 4 else 0 := by unfold U.takeE; rw [HK2.out.2.2.1, if_pos HK2.out.1]
          by_cases h7 : U.dones over ((qAt r i).2.drop k) = []
          · rw [h6, if_pos h7] at h2
            exact ⟨_, _, _, _, h2, .inr ⟨rfl, rfl, by rw [← HK2.out.2.2.1]; exact h7⟩⟩
          · rw [h6, if_neg h7] at h1; exact absurd rfl h1
      obtain ⟨p', m', c', rfl⟩ := hTQ.sl
      have hbb := below_then HX.out.1 HX.out.1.size hb1
      have HX1 := Lib.hid (show Below wr.heap.size wr X1 ∧ E X1 ∧ TkQ r i k (fun q => q < X.heap.size) (.slice p' m' c') o' x' e' X1 from ⟨hbb, HY.out.1 _ _ HX.out.2 (kf_below hb1), hTQ⟩)
      have hT1 := (HT.out X1 hbb).1
      clear hTA hTQ hb1 HC hbb
      go_wp2_with fail
      refine hK.out _ _ ⟨hT1, fun _ _ => trivial⟩ ?_
      clear hK
      (try simp only [Act.put, List.getElem_toArray, List.getElem_cons_succ, List.getElem_cons_zero, List.setIfInBounds_toArray, List.set_cons_succ, List.set_cons_zero])
      refine wpTwo_takeT (i := 9) (v := .tuple #[.agg #[.slice p' m' c', .int .u64 o'], .int .u64 x', .int .i64 e']) rfl (by kernel_rfl) (by kernel_rfl) (by kernel_rfl) (fun _ _ _ h => h) ⟨by rfl, ?_⟩ hT1 ?_
      · intro w _
        go_simp
      (try simp only [Act.put, List.getElem_toArray, List.getElem_cons_succ, List.getElem_cons_zero, List.setIfInBounds_toArray, List.set_cons_succ, List.set_cons_zero])
      refine wpTwo_takeT (i := 10) (v := .agg #[.slice p' m' c', .int .u64 o']) rfl (by kernel_rfl) (by kernel_rfl) (by kernel_rfl) (fun _ _ _ h => h) ⟨by rfl, ?_⟩ hT1 ?_
      · intro w _
        go_simp
      (try simp only [Act.put, List.getElem_toArray, List.getElem_cons_succ, List.getElem_cons_zero, List.setIfInBounds_toArray, List.set_cons_succ, List.set_cons_zero])
      refine wpTwo_takeT (i := 11) (v := .int .u64 x') rfl (by kernel_rfl) (by kernel_rfl) (by kernel_rfl) (fun _ _ _ h => h) ⟨by rfl, ?_⟩ hT1 ?_
      · intro w _
        go_simp
      (try simp only [Act.put, List.getElem_toArray, List.getElem_cons_succ, List.getElem_cons_zero, List.setIfInBounds_toArray, List.set_cons_succ, List.set_cons_zero])
      refine wpTwo_takeT (i := 12) (v := .int .i64 e') rfl (by kernel_rfl) (by kernel_rfl) (by kernel_rfl) (fun _ _ _ h => h) ⟨by rfl, ?_⟩ hT1 ?_
      · intro w _
        go_simp
      (try simp only [Act.put, List.getElem_toArray, List.getElem_cons_succ, List.getElem_cons_zero, List.setIfInBounds_toArray, List.set_cons_succ, List.set_cons_zero])
      refine wpTwo_ready (rs := [13]) (by kernel_rfl) (by simp) ?_
      refine (AllTwo.cons rfl (fun K2 hK => ?_) AllTwo.nil)
      go_simp
      obtain ⟨z4, hz4⟩ : ∃ x, x = X1.heap.size := ⟨_, rfl⟩
      obtain ⟨X2, hX1⟩ : ∃ V : World, V = X1.alloc (.cells #[.slice none 0 0, .int .u64 0] 66) := ⟨_, rfl⟩
      rw [← hX1, ← hz4]
      have hb2 : Below X1.heap.size X1 X2 := by rw [hX1]; exact below1 _ _
      have hqz : U.QBox X2 z4 (.slice none 0 0) 0 := by rw [hX1, hz4]; exact U.QBox.new _ _ _
      have hbb := below_then HX1.out.1 HX1.out.1.size hb2
      have HX2 := Lib.hid (show Below wr.heap.size wr X2 ∧ E X2 ∧ TkQ r i k (fun q => q < wr.heap.size ∨ q = z4) (.slice p' m' c') o' x' e' X2 ∧ U.QBox X2 z4 (.slice none 0 0) 0 ∧ wr.heap.size ≤ z4 from ⟨hbb, HY.out.1 _ _ HX1.out.2.1 (kf_below hb2), (HX1.out.2.2.apart (T := fun q => q < wr.heap.size ∨ q = z4) (fun q h => by rcases h with h | h; exact .inl (by have := HX.out.1.size; omega); exact .inr (by omega))).below hb2, hqz, by rw [hz4]; exact HX1.out.1.size⟩)
      have hT2 := (HT.out X2 hbb).1
      clear hX1 hb2 hqz hbb hz4
      refine hK.out _ _ ⟨hT2, fun _ _ => trivial⟩ ?_
      clear hK
      (try simp only [Act.put, List.getElem_toArray, List.getElem_cons_succ, List.getElem_cons_zero, List.setIfInBounds_toArray, List.set_cons_succ, List.set_cons_zero])
      obtain ⟨q0, q1⟩ := HX2.out.2.2.2.1.cells
      have mq0 := HX2.out.2.2.2.1.marks 0
      have mq1 := HX2.out.2.2.2.1.marks 1
      refine wpTwo_ready (rs := [14]) (by kernel_rfl) (by simp) ?_
      refine (AllTwo.cons rfl (fun K2 hK => ?_) AllTwo.nil)
      go_simp
      obtain ⟨Y, hYw⟩ : ∃ V : World, V = ((X2.setCell ⟨z4, 0, none⟩ (.slice p' m' c')).setCell ⟨z4, 1, none⟩ (.int .u64 o')) := ⟨_, rfl⟩
      have hqY : U.QBox Y z4 (.slice p' m' c') o' := by rw [hYw]; exact HX2.out.2.2.2.1.put _ _
      have hkY : Keeps (fun k => k = z4) X2 Y := by rw [hYw]; exact U.QBox.putK _ _ _ _
      rw [← hYw]
      have hbY : Below wr.heap.size wr Y := HX2.out.1.trans (hkY.below HX2.out.1.size (fun k e => by have := HX2.out.2.2.2.2; omega))
      have hFY : E Y ∧ TkQ r i k (fun q => q < wr.heap.size ∨ q = z4) (.slice p' m' c') o' x' e' Y := ⟨HY.out.1 _ _ HX2.out.2.1 (kf_keeps hkY HX2.out.2.2.2.1), HX2.out.2.2.1.keeps (hkY.sub fun k _ e => .inr e)⟩
      have hT5 := (HT.out Y hbY).1
      clear q0 q1 mq0 mq1 hkY hYw
      refine hK.out _ _ ⟨hT5, fun _ _ => trivial⟩ ?_
      clear hK
      (try simp only [Act.put, List.getElem_toArray, List.getElem_cons_succ, List.getElem_cons_zero, List.setIfInBounds_toArray, List.set_cons_succ, List.set_cons_zero])
      refine wpTwo_takeT (i := 15) (v := .int .u64 x') rfl (by kernel_rfl) (by kernel_rfl) (by kernel_rfl) (fun _ _ _ h => h) ⟨by rfl, ?_⟩ hT5 ?_
      · intro w _
        go_simp
      (try simp only [Act.put, List.getElem_toArray, List.getElem_cons_succ, List.getElem_cons_zero, List.setIfInBounds_toArray, List.set_cons_succ, List.set_cons_zero])
      refine wpTwo_takeT (i := 16) (v := .int .i64 e') rfl (by kernel_rfl) (by kernel_rfl) (by kernel_rfl) (fun _ _ _ h => h) ⟨by rfl, ?_⟩ hT5 ?_
      · intro w _
        go_simp
      (try simp only [Act.put, List.getElem_toArray, List.getElem_cons_succ, List.getElem_cons_zero, List.setIfInBounds_toArray, List.set_cons_succ, List.set_cons_zero])
      refine wpTwo_end (by kernel_rfl) ?_ _
      exact hM z4 p' m' c' o' x' e' Y (HT.out Y hbY).2.1 hFY.1 hqY hFY.2 HX2.out.2.2.2.2
    · go_simp
      obtain ⟨z4, hz4⟩ : ∃ x, x = X.heap.size := ⟨_, rfl⟩
      obtain ⟨X1, hX1⟩ : ∃ V : World, V = X.alloc (.cells #[.slice none 0 0, .int .u64 0] 66) := ⟨_, rfl⟩
      rw [← hX1, ← hz4]
      have hb2 : Below X.heap.size X X1 := by rw [hX1]; exact below1 _ _
      have hqz : U.QBox X1 z4 (.slice none 0 0) 0 := by rw [hX1, hz4]; exact U.QBox.new _ _ _
      have hbb := below_then HX.out.1 HX.out.1.size hb2
      have HX1 := Lib.hid (show Below wr.heap.size wr X1 ∧ E X1 ∧ U.QBox X1 z4 (.slice none 0 0) 0 ∧ wr.heap.size ≤ z4 from ⟨hbb, HY.out.1 _ _ HX.out.2 (kf_below hb2), hqz, by rw [hz4]; exact HX.out.1.size⟩)
      have hT2 := (HT.out X1 hbb).1
      clear hX1 hb2 hqz hbb hz4
      refine hK.out _ _ ⟨hT2, fun _ _ => trivial⟩ ?_
      clear hK
      (try simp only [Act.put, List.getElem_toArray, List.getElem_cons_succ, List.getElem_cons_zero, List.setIfInBounds_toArray, List.set_cons_succ, List.set_cons_zero])
      refine wpTwo_ready (rs := [8]) (by kernel_rfl) (by simp) ?_
      refine (AllTwo.cons rfl (fun K2 hK => ?_) AllTwo.nil)
      go_simp
      have HC := Lib.hid (U.take1_c (.slice lp m lc) over ((qAt r i).2.drop k) X1 (HT.out X1 HX1.out.1).2.2 (by rw [HK2.out.2.2.1]; exact HG.out.2.2.2.2))
      (with_reducible refine HC.out.mono ?_)
      rintro e X2 ⟨hTA, hb1⟩
      obtain ⟨v', o', x', e', rfl, hTQ⟩ : ∃ v' o' x' e', e = .returned (.tuple #[.agg #[v', .int .u64 o'], .int .u64 x', .int .i64 e']) ∧ TkQ r i k (fun q => q < X1.heap.size) v' o' x' e' X2 := by
        rcases hTA with ⟨h1, v', x', h2, h3, h4⟩ | ⟨h1, h2⟩
        · refine ⟨v', over, x', 0, h2, .inl ⟨rfl, HK2.out.2.2.1, ?_, by rw [← HK2.out.2.2.1]; exact h4⟩⟩
          have h5 := h3.1
          rw [List.drop_drop] at h5
          exact h5
        · have h6 : U.takeE over ((qAt r i).2.drop k) = if U.dones over ((qAt r i).2.drop k) = [] then 4 else 0 := by unfold U.takeE; rw [HK2.out.2.2.1, if_pos HK2.out.1]
          by_cases h7 : U.dones over ((qAt r i).2.drop k) = []
          · rw [h6, if_pos h7] at h2
            exact ⟨_, _, _, _, h2, .inr ⟨rfl, rfl, by rw [← HK2.out.2.2.1]; exact h7⟩⟩
          · rw [h6, if_neg h7] at h1; exact absurd rfl h1
      obtain ⟨p', m', c', rfl⟩ := hTQ.sl
      have hbb := below_then HX1.out.1 HX1.out.1.size hb1
      have HX2 := Lib.hid (show Below wr.heap.size wr X2 ∧ E X2 ∧ TkQ r i k (fun q => q < X1.heap.size) (.slice p' m' c') o' x' e' X2 ∧ U.QBox X2 z4 (.slice none 0 0) 0 ∧ wr.heap.size ≤ z4 ∧ z4 < X1.heap.size from ⟨hbb, HY.out.1 _ _ HX1.out.2.1 (kf_below hb1), hTQ, HX1.out.2.2.1.below hb1, HX1.out.2.2.2, HX1.out.2.2.1.lt⟩)
      have hT3 := (HT.out X2 hbb).1
      clear hTA hTQ hb1 HC hbb
      go_wp2_with fail
      refine hK.out _ _ ⟨hT3, fun _ _ => trivial⟩ ?_
      clear hK
      (try simp only [Act.put, List.getElem_toArray, List.getElem_cons_succ, List.getElem_cons_zero, List.setIfInBounds_toArray, List.set_cons_succ, List.set_cons_zero])
      refine wpTwo_takeT (i := 9) (v := .tuple #[.agg #[.slice p' m' c', .int .u64 o'], .int .u64 x', .int .i64 e']) rfl (by kernel_rfl) (by kernel_rfl) (by kernel_rfl) (fun _ _ _ h => h) ⟨by rfl, ?_⟩ hT3 ?_
      · intro w _
        go_simp
      (try simp only [Act.put, List.getElem_toArray, List.getElem_cons_succ, List.getElem_cons_zero, List.setIfInBounds_toArray, List.set_cons_succ, List.set_cons_zero])
      refine wpTwo_takeT (i := 10) (v := .agg #[.slice p' m' c', .int .u64 o']) rfl (by kernel_rfl) (by kernel_rfl) (by kernel_rfl) (fun _ _ _ h => h) ⟨by rfl, ?_⟩ hT3 ?_
      · intro w _
        go_simp
      (try simp only [Act.put, List.getElem_toArray, List.getElem_cons_succ, List.getElem_cons_zero, List.setIfInBounds_toArray, List.set_cons_succ, List.set_cons_zero])
      refine wpTwo_takeT (i := 11) (v := .int .u64 x') rfl (by kernel_rfl) (by kernel_rfl) (by kernel_rfl) (fun _ _ _ h => h) ⟨by rfl, ?_⟩ hT3 ?_
      · intro w _
        go_simp
      (try simp only [Act.put, List.getElem_toArray, List.getElem_cons_succ, List.getElem_cons_zero, List.setIfInBounds_toArray, List.set_cons_succ, List.set_cons_zero])
      refine wpTwo_takeT (i := 12) (v := .int .i64 e') rfl (by kernel_rfl) (by kernel_rfl) (by kernel_rfl) (fun _ _ _ h => h) ⟨by rfl, ?_⟩ hT3 ?_
      · intro w _
        go_simp
      (try simp only [Act.put, List.getElem_toArray, List.getElem_cons_succ, List.getElem_cons_zero, List.setIfInBounds_toArray, List.set_cons_succ, List.set_cons_zero])
      have HX3 := Lib.hid (show Below wr.heap.size wr X2 ∧ E X2 ∧ TkQ r i k (fun q => q < wr.heap.size ∨ q = z4) (.slice p' m' c') o' x' e' X2 ∧ U.QBox X2 z4 (.slice none 0 0) 0 ∧ wr.heap.size ≤ z4 from ⟨HX2.out.1, HX2.out.2.1, HX2.out.2.2.1.apart (fun q h => by rcases h with h | h; exact .inl (by have := HX1.out.1.size; omega); exact .inl (by have := HX2.out.2.2.2.2.2; omega)), HX2.out.2.2.2.1, HX2.out.2.2.2.2.1⟩)
      obtain ⟨q0, q1⟩ := HX3.out.2.2.2.1.cells
      have mq0 := HX3.out.2.2.2.1.marks 0
      have mq1 := HX3.out.2.2.2.1.marks 1
      refine wpTwo_ready (rs := [14]) (by kernel_rfl) (by simp) ?_
      refine (AllTwo.cons rfl (fun K2 hK => ?_) AllTwo.nil)
      go_simp
      obtain ⟨Y, hYw⟩ : ∃ V : World, V = ((X2.setCell ⟨z4, 0, none⟩ (.slice p' m' c')).setCell ⟨z4, 1, none⟩ (.int .u64 o')) := ⟨_, rfl⟩
      have hqY : U.QBox Y z4 (.slice p' m' c') o' := by rw [hYw]; exact HX3.out.2.2.2.1.put _ _
      have hkY : Keeps (fun k => k = z4) X2 Y := by rw [hYw]; exact U.QBox.putK _ _ _ _
      rw [← hYw]
      have hbY : Below wr.heap.size wr Y := HX3.out.1.trans (hkY.below HX3.out.1.size (fun k e => by have := HX3.out.2.2.2.2; omega))
      have hFY : E Y ∧ TkQ r i k (fun q => q < wr.heap.size ∨ q = z4) (.slice p' m' c') o' x' e' Y := ⟨HY.out.1 _ _ HX3.out.2.1 (kf_keeps hkY HX3.out.2.2.2.1), HX3.out.2.2.1.keeps (hkY.sub fun k _ e => .inr e)⟩
      have hT5 := (HT.out Y hbY).1
      clear q0 q1 mq0 mq1 hkY hYw
      refine hK.out _ _ ⟨hT5, fun _ _ => trivial⟩ ?_
      clear hK
      (try simp only [Act.put, List.getElem_toArray, List.getElem_cons_succ, List.getElem_cons_zero, List.setIfInBounds_toArray, List.set_cons_succ, List.set_cons_zero])
      refine wpTwo_takeT (i := 15) (v := .int .u64 x') rfl (by kernel_rfl) (by kernel_rfl) (by kernel_rfl) (fun _ _ _ h => h) ⟨by rfl, ?_⟩ hT5 ?_
      · intro w _
        go_simp
      (try simp only [Act.put, List.getElem_toArray, List.getElem_cons_succ, List.getElem_cons_zero, List.setIfInBounds_toArray, List.set_cons_succ, List.set_cons_zero])
      refine wpTwo_takeT (i := 16) (v := .int .i64 e') rfl (by kernel_rfl) (by kernel_rfl) (by kernel_rfl) (fun _ _ _ h => h) ⟨by rfl, ?_⟩ hT5 ?_
      · intro w _
        go_simp
      (try simp only [Act.put, List.getElem_toArray, List.getElem_cons_succ, List.getElem_cons_zero, List.setIfInBounds_toArray, List.set_cons_succ, List.set_cons_zero])
      refine wpTwo_end (by kernel_rfl) ?_ _
      exact hM z4 p' m' c' o' x' e' Y (HT.out Y hbY).2.1 hFY.1 hqY hFY.2 HX3.out.2.2.2.2

end Go.Proofs.YtdllhiihmpinoaaGreat
/-
  Package rcu: what was run grows by one; a region that draws its order, without calls, within a loop's round.
  Conditions: none.
-/
namespace Go.Proofs.YtdllhiihmpinoaaGreat
set_option maxRecDepth 100000
open Go.RowKit Go.Shelf
attribute [local go_sem] Oper.semAt_some

theorem info_w : (Tryz.prog.info? 35).map (fun i => (i.zero, i.size, i.bytes)) = some (some (.int .u64 0), 1, 8) := by kernel_rfl
/-- append of one word that has just been laid. -/
theorem run_app_w (B : Nat) (v : Value) (xs : List Int) (w : World) (h : w.ownsRow B 35 1 v xs.length (xs.map (Value.int .u64))) (b c : Nat) (x : Int) (h0 : w.cell? ⟨b, 0, none⟩ = some (.int .u64 x)) (hl : xs.length ≤ 1000000) (hB : B ≤ w.heap.size) :
    ∃ q r w', (Builtin.append_ #[40, 40] 40 #[v, .slice (some ⟨b, 0, none⟩) 1 c]).run Tryz.prog w = .ok (.slice q (xs.length + 1) r) w' ∧ w'.ownsRow B 35 1 (.slice q (xs.length + 1) r) (xs.length + 1) ((xs ++ [x]).map (Value.int .u64)) ∧ Keeps (fun k => some k = v.ownBlock) w w' ∧ ((Value.slice q (xs.length + 1) r).ownBlock = v.ownBlock ∨ (Value.slice q (xs.length + 1) r).ownBlock = some w.heap.size) := by
  obtain ⟨i0, hi, hz0, hz1, hz2⟩ := info_parts info_w
  obtain ⟨v', w', hr, h3, h4, _, h5⟩ := run_append_own_at (P := Tryz.prog) w B 40 40 35 i0 (.int .u64 0) 1 8 Tryz.underlying40 hi hz0 hz1 hz2 rfl (by decide) v xs.length _ h ⟨b, 0, none⟩ 1 c [.int .u64 x] rfl
    (fun j u hj => by
      rw [addr_add_off, Nat.zero_add]
      match j, hj with
      | 0, hj => simp only [List.getElem?_cons_zero, Option.some.injEq] at hj; rw [← hj]; exact h0)
    (fun u hu => by simp only [List.mem_cons, List.not_mem_nil, or_false] at hu; rw [hu]; rfl) (by unfold maxLen; omega) (by omega) hB
  rw [show (xs.map (Value.int .u64)) ++ [.int .u64 x] = (xs ++ [x]).map (Value.int .u64) by rw [List.map_append]; rfl] at h3
  obtain ⟨q, r, rfl⟩ := owns_slice h3
  exact ⟨q, r, w', hr, h3, ⟨h4.os, h4.tape, h4.output, h4.size, fun k hk hn => h4.block k hk (fun e => hn e)⟩, h5⟩
theorem VtAt.push {W W' : World} {z B : Nat} {r : RcS} {u v nv : Value} {qb qc : Nat} {lv : Value} {ls : List Int} (h : VtAt W z B r u v nv qb qc lv ls) (hk : Keeps (fun k => some k = lv.ownBlock) W W') (lv' : Value) (x : Int)
    (hown : W'.ownsRow B 35 1 lv' (ls.length + 1) ((ls ++ [x]).map (Value.int .u64))) (hob : lv'.ownBlock = lv.ownBlock ∨ lv'.ownBlock = some W.heap.size) :
    VtAt (W'.setCell ⟨z, 8, none⟩ lv') z B r u v nv qb qc lv' (ls ++ [x]) := by
  have hz : ¬ some z = lv.ownBlock := fun e => by have := (h.lB e.symm).1; have := h.zB; omega
  have hq : ¬ some qb = lv.ownBlock := fun e => h.lq e.symm rfl
  have hkz := setK W' z 8 lv'
  have hsub : ∀ k, vS B qb lv' k → vS B qb lv k ∨ W.heap.size ≤ k := fun k hk => by
    rcases hk with h1 | h1 | h1
    · exact .inl (.inl h1)
    · exact .inl (.inr (.inl h1))
    · rcases hob with e | e
      · exact .inl (.inr (.inr (by rw [← e]; exact h1)))
      · rw [e] at h1; injection h1 with h1; exact .inr (by omega)
  -- all rows lie outside of what may change
  have hT : ∀ k, (vS B qb lv k ∨ W.heap.size ≤ k) → vS B qb lv k ∨ W.heap.size ≤ k := fun _ h => h
  have k1 : Keeps (fun k => vS B qb lv k ∨ W.heap.size ≤ k) W W' := hk.sub fun k _ e => .inl (.inr (.inr e))
  have k2 : Keeps (fun k => vS B qb lv k ∨ W.heap.size ≤ k) W' (W'.setCell ⟨z, 8, none⟩ lv') := hkz.sub fun k _ e => .inl (.inl (by rw [e]; exact h.zB))
  have hb := (h.box.keeps hk hz).putL lv'
  have hls : (ls ++ [x]).length = ls.length + 1 := by simp
  have hsub2 : ∀ k, vS B qb lv' k → (vS B qb lv k ∨ W.heap.size ≤ k) ∨ (W'.setCell ⟨z, 8, none⟩ lv').heap.size ≤ k := fun k hk => .inl (hsub k hk)
  refine ⟨hb, (((h.nest.apart hT).keeps k1).keeps k2).apart hsub2, (((h.opened.apart hT).keeps k1).keeps k2).apart hsub2, (((h.needs.apart hT).keeps k1).keeps k2).apart hsub2, ?_, ?_, h.zB, h.qB⟩
  · exact ((((h.row.apart hT).keeps hk (fun k e => .inl (.inr (.inr e))) hq).keeps hkz (fun k e => .inl (.inl (by rw [e]; exact h.zB))) h.qz).apart hsub2)
  · rw [hls]
    exact hkz.row hown (fun g hg e => by
      have := (hown.lt g hg).1
      have := h.zB
      omega)

/-- An operation that enters nothing. -/
structure Calm (P : Program) (o : Oper) : Prop where
  nd : ∀ c, o.op ≠ .defer c
  val : ∀ (ρ : Operand → Value) (w w' : World) (nx : Next), (execOp ρ o).run P w = .ok nx w' → (∃ v, nx = .value v) ∨ nx = .skip
theorem val_bind {P : Program} {s : Sem Value} {w w' : World} {nx : Next} (h : (do pure (Next.value (← s)) : Sem Next).run P w = .ok nx w') : ∃ v, nx = .value v := by
  simp only [Sem.run_bind] at h
  cases hs : s.run P w with
  | ok v w1 =>
    rw [hs] at h
    simp only [Result.andThen_ok, Sem.run_pure] at h
    injection h with h1 _
    exact ⟨v, h1.symm⟩
  | halt x w1 =>
    rw [hs] at h
    cases h
theorem unit_bind {P : Program} {s : Sem Unit} {w w' : World} {nx : Next} (h : (do s; pure Next.skip : Sem Next).run P w = .ok nx w') : nx = .skip := by
  simp only [Sem.run_bind] at h
  cases hs : s.run P w with
  | ok v w1 =>
    rw [hs] at h
    simp only [Result.andThen_ok, Sem.run_pure] at h
    injection h with h1 _
    exact h1.symm
  | halt x w1 =>
    rw [hs] at h
    cases h
theorem calm_load {P : Program} {o : Oper} {t : TypeId} {x : Operand} (h : o.op = .load t x) : Calm P o := ⟨fun c => by rw [h]; exact nofun, fun ρ w w' nx hr => .inl (by unfold execOp at hr; simp only [h] at hr; exact val_bind hr)⟩
theorem calm_move {P : Program} {o : Oper} {x : Operand} (h : o.op = .move x) : Calm P o := ⟨fun c => by rw [h]; exact nofun, fun ρ w w' nx hr => .inl (by
  unfold execOp at hr; simp only [h, Sem.run_pure] at hr; injection hr with h1 _; exact ⟨_, h1.symm⟩)⟩
theorem calm_field {P : Program} {o : Oper} {s : TypeId} {x : Operand} {f : Nat} (h : o.op = .fieldAddr s x f) : Calm P o := ⟨fun c => by rw [h]; exact nofun, fun ρ w w' nx hr => .inl (by unfold execOp at hr; simp only [h] at hr; exact val_bind hr)⟩
theorem calm_build {P : Program} {o : Oper} {t : TypeId} {k : Nat} {ps : Array (Nat × Operand)} (h : o.op = .buildSlice t k ps) : Calm P o := ⟨fun c => by rw [h]; exact nofun, fun ρ w w' nx hr => .inl (by unfold execOp at hr; simp only [h] at hr; exact val_bind hr)⟩
theorem calm_store {P : Program} {o : Oper} {t : TypeId} {x y : Operand} (h : o.op = .store t x y) : Calm P o := ⟨fun c => by rw [h]; exact nofun, fun ρ w w' nx hr => .inr (by unfold execOp at hr; simp only [h] at hr; exact unit_bind hr)⟩
theorem calm_append {P : Program} {o : Oper} {x y : Operand} {t : TypeId} (h : o.op = .call { callee := .builtin .append, args := #[x, y], argTypes := #[t, t] }) : Calm P o := ⟨fun c => by rw [h]; exact nofun, fun ρ w w' nx hr => .inl (by
  unfold execOp at hr
  simp only [h, resolve, invoke, builtin, Sem.run_bind, Sem.run_pure, Result.andThen_ok] at hr
  exact val_bind (by simp only [Sem.run_bind]; exact hr))⟩
theorem then_ok {α β : Type} {r : Result α} {f : α → World → Result β} {x : β} {w' : World} (h : r.andThen f = .ok x w') : ∃ a w1, r = .ok a w1 ∧ f a w1 = .ok x w' := by
  cases r with
  | ok a w1 => exact ⟨a, w1, rfl, h⟩
  | halt y w1 => cases h
theorem calm_nil {P : Program} {o : Oper} {x : Operand} (h : o.op = .nilCheck x) : Calm P o := ⟨fun c => by rw [h]; exact nofun, fun ρ w w' nx hr => .inl (by
  unfold execOp at hr
  simp only [h] at hr
  split at hr
  all_goals first
    | (simp [runtimePanic, go_sem] at hr; done)
    | (simp only [Sem.run_pure] at hr; injection hr with h1 _; exact ⟨_, h1.symm⟩)
    | (split at hr
       · simp [runtimePanic, go_sem] at hr
       · simp only [Sem.run_bind] at hr
         obtain ⟨_, _, -, hr⟩ := then_ok hr
         obtain ⟨_, _, -, hr⟩ := then_ok hr
         split at hr
         · simp only [Sem.run_bind] at hr
           obtain ⟨_, _, -, hr⟩ := then_ok hr
           simp only [Sem.run_pure] at hr
           injection hr with h1 _
           exact ⟨_, h1.symm⟩
         · simp only [Sem.run_pure] at hr
           injection hr with h1 _
           exact ⟨_, h1.symm⟩
       · simp only [Sem.run_pure] at hr; injection hr with h1 _; exact ⟨_, h1.symm⟩))⟩

theorem op_in {P : Program} {l n : Nat} {o : Oper} (hc : Calm P o) {a : Act} {w : World} {K K' : Act → World → Prop} {Q : Exit → Act → World → Prop} (hK : ∀ a w, K a w → K' a w) (h : o.wp P a w K Q) : o.wpIn (Fence.wide.inRound l) n P a w K' Q := by
  unfold Oper.wpIn
  refine ⟨fun _ _ => trivial, ?_⟩
  rw [Fence.inRound_round, Oper.semAt_some l a.eval o hc.nd]
  unfold Oper.wp at h
  have hv := hc.val a.eval w
  generalize (execOp a.eval o).run P w = r at h hv
  cases r with
  | ok nx w' =>
    rcases hv w' nx rfl with ⟨v, rfl⟩ | rfl
    · exact hK _ _ h
    · exact hK _ _ h
  | halt y w' =>
    cases y <;> first | exact h | exact h.elim
theorem any_in {P : Program} {l n : Nat} {md : Region.Mode} {ops : Array Oper} {Q : Exit → Act → World → Prop} (hc : ∀ o ∈ ops.toList, Calm P o) (hQ : ¬ LetsOut Q) : ∀ (fuel : Nat) (listed : Array Bool) (a : Act) (w : World), wpAny P md ops Q fuel listed a w → wpAnyIn (Fence.wide.inRound l) n P md ops Q fuel listed a w
  | 0, _, _, _, h => h
  | fuel + 1, listed, a, w, h => by
    refine ⟨h.1, fun i hi => ?_⟩
    have h2 := h.2 i hi
    unfold wpOp at h2
    unfold wpOpIn
    cases ho : ops[i]? with
    | none => rw [ho] at h2; exact any_in hc hQ fuel _ a w h2
    | some o =>
      rw [ho] at h2
      have hm : o ∈ ops.toList := by
        obtain ⟨hi', e⟩ := Array.getElem?_eq_some_iff.1 ho
        rw [← e]
        exact Array.getElem_mem_toList hi'
      simp only at h2 ⊢
      split at h2
      · next hw =>
        rw [if_pos hw]
        rcases h2 with h2 | ⟨-, h2⟩
        · exact op_in (hc o hm) (fun a w => any_in hc hQ fuel _ a w) h2
        · exact absurd h2 hQ
      · next hw =>
        rw [if_neg hw]
        exact ⟨fun _ _ => trivial, any_in hc hQ fuel _ _ w h2⟩
/-- wpTwo_begin, within a loop's round. -/
theorem wpTwo_beginIn {P : Program} {l n : Nat} {ops : Array Oper} {Q : Exit → Act → World → Prop} {T S : World → Prop} {late : Nat → Bool} {id : Nat} {a : Act} {w : World} (hm : P.follows .mixedOrders = true) (hc : ∀ o ∈ ops.toList, Calm P o) (hQ : ¬ LetsOut Q)
    (h : wpTwo P .any ops Q T S late ops.size (Array.replicate ops.size false) a w.drew) : (Code.region id ops true).wpIn (Fence.wide.inRound l) n P Q a w :=
  wpIn_region_any hm (any_in hc hQ _ _ _ _ (wpTwo_any _ _ _ _ h))

end Go.Proofs.YtdllhiihmpinoaaGreat
/-
  Package rcu: run: the first callback that is done is taken, and told.
  Conditions: the ranges of Go's types.
-/
namespace Go.Proofs.YtdllhiihmpinoaaGreat
set_option maxRecDepth 100000
open Go.RowKit Go.Shelf
attribute [local go_sem] Oper.semAt_some

/-- A function on its way out that has left such marks. -/
theorem leaves_marks3 {F : Fence} {n : Nat} {P : Program} {fn : Func} {tmps : Array Value} {R : Ending → World → Prop} {B : Nat} {u : FrameMode} (hu : u ≠ .run) {I : World → Prop} (hI : ∀ X Y D, I X → B ≤ D → X.grownBy Y (some D) → (∃ o : Obj, X.heap[D]? = some o ∧ o.isCells = false) → I Y) : ∀ (Ds : List Nat) (W : World), Marks B Ds W → I W →
    (∀ W', I W' → LeavesIn F n P fn tmps R [] u W') → LeavesInM F n P fn tmps R (marksOf Ds) u W
  | [], W, _, hi, h => h W hi
  | D :: Ds, W, hm, hi, h => by
    obtain ⟨hB, hK⟩ := hm.2 D List.mem_cons_self
    refine ⟨hu, .inl ⟨D, _, rfl, run_takeDeferred hK, leaves_marks3 hu hI Ds _ ⟨(List.nodup_cons.1 hm.1).2, fun E hE => ?_⟩ (hI _ _ D hi hB (grownBy_putObj' W D _) ⟨_, hK, rfl⟩) h⟩⟩
    have hne : E ≠ D := fun e => (List.nodup_cons.1 hm.1).1 (e ▸ hE)
    obtain ⟨h1, h2⟩ := hm.2 E (List.mem_cons_of_mem _ hE)
    exact ⟨h1, (World.putObj_heap_other hne).trans h2⟩

theorem keeps_then {S T : Nat → Prop} {W X Y : World} (h : Keeps S W X) (k : Keeps T X Y) (hST : ∀ b, b < W.heap.size → T b → S b) : Keeps S W Y :=
  ⟨k.os.trans h.os, k.tape.trans h.tape, k.output.trans h.output, Nat.le_trans h.size k.size, fun b hb hn => (k.block b (Nat.lt_of_lt_of_le hb h.size) (fun e => hn (hST b hb e))).trans (h.block b hb hn)⟩
theorem kf_row {zz B n s : Nat} {E : TypeId} {v : Value} {xs : List Value} {W Y : World} (hk : Keeps (fun k => some k = v.ownBlock) W Y) (h : W.ownsRow B E s v n xs) : KeepsFrom zz W Y := ⟨hk.size, fun k _ _ ho hc => (hk.block k (Array.getElem?_eq_some_iff.1 ho).1 (fun e => by
  obtain ⟨c, f, h1⟩ := Lib.ownsRow_kind h k e.symm
  rw [h1] at ho; cases ho; cases hc)).trans ho⟩
theorem done_c (z : Nat) (i : Int) (W : World) : Calls Tryz.prog 83 #[.pointer (some ⟨z, 0, none⟩), .int .i64 i] W fun e w' => e = .returned (.func (.func 126) #[] #[.pointer (some ⟨W.heap.size, 0, none⟩), .pointer (some ⟨W.heap.size + 1, 0, none⟩)]) ∧ w' = (W.alloc (.cells #[.pointer (some ⟨z, 0, none⟩)] 94)).alloc (.cells #[.int .i64 i] 3) := by
  go_enter Tryz.func83, Tryz.ntmps83
  go_wp2
  go_ret
  exact ⟨rfl, rfl⟩
theorem done_boxes (z : Nat) (i : Int) (W w' : World) (h : w' = (W.alloc (.cells #[.pointer (some ⟨z, 0, none⟩)] 94)).alloc (.cells #[.int .i64 i] 3)) : Below W.heap.size W w' ∧ Boxed w' W.heap.size 94 (.pointer (some ⟨z, 0, none⟩)) ∧ Boxed w' (W.heap.size + 1) 3 (.int .i64 i) ∧ w'.heap.size = W.heap.size + 2 := by
  subst h
  refine ⟨below2 _ _ _, boxed_bw (Boxed.new W _ _) (below1 _ _), ?_, by simp⟩
  have := Boxed.new (W.alloc (.cells #[.pointer (some ⟨z, 0, none⟩)] 94)) 3 (.int .i64 i)
  rwa [World.size_alloc] at this

def runE (r : RcS) (i : Nat) : Int := if told r i = [] then 4 else 0
/-- Where a round has left. -/
def RnX (Wr : World) (z B : Nat) (r : RcS) (i : Nat) (u v nv : Value) (qb qc : Nat) (lv0 : Value) (ls0 : List Int) (c : Code) (pre : List Int) (W : World) : Prop :=
  c = .ret ∧ (∃ lv, DnW Wr z B r i u v nv qb qc lv0 ls0 1 pre lv W) ∧ pre = (told r i).take 1 ∧ pre.length = 1
theorem rnX_own (Wr : World) (z B : Nat) (r : RcS) (i : Nat) (u v nv : Value) (qb qc : Nat) (lv0 : Value) (ls0 : List Int) (c : Code) (zz : Nat) (hz : Wr.heap.size ≤ zz) : OwnFrom zz (RnX Wr z B r i u v nv qb qc lv0 ls0 c) := by
  rintro pre X Y row ⟨hc, ⟨lv, h⟩, hp⟩ hg hr
  exact ⟨hc, ⟨lv, h.own hz hg hr⟩, hp⟩

set_option maxHeartbeats 32000000 in
theorem rrun_c (z B : Nat) (r : RcS) (u v nv : Value) (qb qc : Nat) (lv : Value) (ls : List Int) (k x0 : Int) (i : Nat) (W : World) (h : VtAt W z B r u v nv qb qc lv ls) (hm : rmayB r = true) (hi : i < r.qs.length) (h0c : ∀ c ∈ (qAt r i).2, 0 ≤ c.1) (hls : ls.length ≤ 999999) :
    Calls Tryz.prog 123 #[.pointer (some ⟨z, 0, none⟩), .agg #[.int .i64 k, .int .i64 (i : Int), .int .u64 x0]] W fun e w' => OpQ z B (runE r i) (dropR r i 1) (ls ++ (told r i).take 1) qb qc lv e W w' := by
  obtain ⟨zt, hzt⟩ : ∃ x, x = W.heap.size := ⟨_, rfl⟩
  obtain ⟨w0, hw0⟩ : ∃ X : World, X = (W.alloc (.cells #[.pointer (some ⟨z, 0, none⟩)] 94)).alloc (.cells #[.int .i64 k, .int .i64 (i : Int), .int .u64 x0] 37) := ⟨_, rfl⟩
  have hb0 : Below W.heap.size W w0 := by rw [hw0]; exact below2 _ _ _
  have htb : Boxed w0 zt 94 (.pointer (some ⟨z, 0, none⟩)) := by rw [hw0, hzt]; exact boxed_bw (Boxed.new W _ _) (below1 _ _)
  have hob : ABox w0 (zt + 1) k (i : Int) x0 := by
    rw [hw0, hzt]
    have := ABox.new (W.alloc (.cells #[.pointer (some ⟨z, 0, none⟩)] 94)) k (i : Int) x0
    rwa [World.size_alloc] at this
  have HV := Lib.hid (show VtAt w0 z B r u v nv qb qc lv ls ∧ Boxed w0 zt 94 (.pointer (some ⟨z, 0, none⟩)) ∧ ABox w0 (zt + 1) k (i : Int) x0 ∧ Below W.heap.size W w0 from ⟨h.below hb0, htb, hob, hb0⟩)
  have HZ := Lib.hid (show B ≤ W.heap.size ∧ z < B ∧ (∀ g, lv.ownBlock = some g → B ≤ g) ∧ B ≤ qb ∧ zt = W.heap.size from ⟨h.BW, h.zB, fun g hg => (h.lB hg).1, h.qB, hzt⟩)
  have HG := Lib.hid (And.intro hm (And.intro hi (And.intro h0c hls)))
  have HW0 := Lib.hid (And.intro hw0 hzt)
  have s0 := htb.cell
  obtain ⟨a0, a1, a2⟩ := hob.cells
  obtain ⟨p1, c1, p2, c2, p3, c3, p4, c4, q1, q2, q3, -⟩ := h.inn.sl
  clear h hb0 htb hob hm hi h0c hls hw0 hzt
  refine (callsIn_wide (n := 9)).1 ?_
  refine callsIn_of_wp_marks Tryz.func123 rfl trivial ?_ rfl
  simp only [Tryz.ntmps123, List.size_toArray, List.length_cons, List.length_nil, Nat.reduceAdd, Nat.reduceSub, Array.replicate_succ, Array.replicate_zero, List.push_toArray, List.append_toArray, List.nil_append, List.cons_append]
  gi_wp2_with fail
  rw [← HW0.out.1, ← HW0.out.2]
  clear HW0
  refine ⟨trivial, (callsIn_wide.2 (done_c z (i : Int) w0)).mono ?_⟩
  rintro e w1 ⟨rfl, hw1⟩
  obtain ⟨hb1, ht1, hc1, hz1⟩ := done_boxes z (i : Int) w0 w1 hw1
  have hV1 := HV.out.1.below hb1
  have HV1 := Lib.hid (show VtAt w1 z B r u v nv qb qc lv ls ∧ Boxed w1 w0.heap.size 94 (.pointer (some ⟨z, 0, none⟩)) ∧ Boxed w1 (w0.heap.size + 1) 3 (.int .i64 (i : Int)) ∧ Boxed w1 zt 94 (.pointer (some ⟨z, 0, none⟩)) ∧ Below W.heap.size W w1 from ⟨hV1, ht1, hc1, boxed_bw HV.out.2.1 hb1, below_then HV.out.2.2.2 HV.out.2.2.2.size hb1⟩)
  have hI0 : Dn0 (fun pre => pre = []) w1 z B r i u v nv qb qc lv ls [] w1 := ⟨⟨lv, ⟨by rw [List.append_nil]; rw [show ([] : List Int).length = 0 from rfl, dropR_zero r i HG.out.2.1]; exact hV1, Keeps.refl _ _, fun g hg => .inl hg, Nat.zero_le _⟩⟩, rfl, rfl⟩
  have HTN := Lib.hid (hV1.ne (HV1.out.2.2.2.1) (by decide))
  have HTZ := Lib.hid (show zt ≠ z from fun e => HTN.out (.inl e))
  clear hw1 hb1 ht1 hc1 hz1 hV1 s0 a0 a1 a2 HV q1 q2 q3
  gi_wp2
  refine wpIn_rangeW rfl (by omega) (gf := 126) (lb := #[.pointer (some ⟨w0.heap.size, 0, none⟩), .pointer (some ⟨w0.heap.size + 1, 0, none⟩)]) rfl trivial (enters_of Tryz.func126 (by kernel_rfl) rfl)
    (done_seq (fun pre => pre = []) 8 (by omega) w1 z B r i u v nv qb qc lv ls w0.heap.size (w0.heap.size + 1) HV1.out.1 HG.out.1 HG.out.2.2.1 HG.out.2.1 HV1.out.2.1 HV1.out.2.2.1) (Nat.le_refl _) (fun _ => rfl)
    (RnX w1 z B r i u v nv qb qc lv ls) (dn0_own _ _ _ _ _ _ _ _ _ _ _ _ _ _ (Nat.le_refl _)) (fun x => dnY_own _ _ _ _ _ _ _ _ _ _ _ _ _ _ (Nat.le_refl _) x) (fun c => rnX_own _ _ _ _ _ _ _ _ _ _ _ _ c _ (Nat.le_refl _)) hI0
    (fun x a' => a' = { tmps := #[.pointer (some ⟨z, 0, none⟩), .agg #[.int .i64 k, .int .i64 (i : Int), .int .u64 x0], .pointer (some ⟨zt, 0, none⟩), .pointer (some ⟨zt + 1, 0, none⟩), .int .u64 x, .pointer (some ⟨z, 0, none⟩), .pointer (some ⟨zt + 1, 1, none⟩), .int .i64 (i : Int), .func (.func 126) #[] #[.pointer (some ⟨w0.heap.size, 0, none⟩), .pointer (some ⟨w0.heap.size + 1, 0, none⟩)], .int .u64 x, undef, undef, undef, undef, undef, undef, undef, undef, undef, undef, undef], defers := [] })
    ?assign ?body ?done ?stop
  case assign =>
    rintro l' x X K hK
    have HK := Lib.hid hK
    clear hK
    gi_wp2
    exact HK.out _ rfl
  case body =>
    rintro l' pre x a' X hl' - ⟨⟨lv1, hd⟩, hpx, rfl⟩ rfl
    have hbz := hd.at_.box
    have hrow := hd.at_.run
    have hlsl : ls.length ≤ 999999 := HG.out.2.2.2
    rw [show ls ++ ([] : List Int) = ls from List.append_nil _] at hrow
    have HB := Lib.hid (show DnW w1 z B r i u v nv qb qc lv ls 1 [] lv1 X ∧ [] ++ [x] = (told r i).take 1 ∧ X.ownsRow B 35 1 lv1 ls.length (ls.map (Value.int .u64)) from ⟨hd, hpx, hrow⟩)
    have ht0 : Boxed X zt 94 (.pointer (some ⟨z, 0, none⟩)) := (hd.kp.block zt HV1.out.2.2.2.1.lt HTN.out).trans HV1.out.2.2.2.1
    obtain ⟨lp, lc, hle⟩ := owns_slice hrow
    subst hle
    obtain ⟨N, hN⟩ : ∃ N, N = (dropR r i 1).qs.length := ⟨_, rfl⟩
    change VtBox X z r.s.now u v r.g.done r.g.asked r.g.on nv (.slice (some ⟨qb, 0, none⟩) (dropR r i 1).qs.length qc) (.slice lp ls.length lc) at hbz
    rw [← hN] at hbz
    obtain ⟨m, hmm⟩ : ∃ m, m = ls.length := ⟨_, rfl⟩
    rw [← hmm] at hbz HB
    have HMM := Lib.hid (And.intro hmm hlsl)
    clear hd hpx hrow hN hmm hlsl hl'
    refine wpIn_block ?_
    refine wpIn_seq_k fun K hK0 => ?_
    have HK0 := Lib.hid hK0
    clear hK0
    refine wpTwo_beginIn (T := fun w' => Boxed w' zt 94 (.pointer (some ⟨z, 0, none⟩))) (S := fun w' => VtBox w' z r.s.now u v r.g.done r.g.asked r.g.on nv (.slice (some ⟨qb, 0, none⟩) N qc) (.slice lp m lc)) (late := fun j => [10].contains j) (by kernel_rfl) (List.forall_mem_cons.2 ⟨calm_load rfl, List.forall_mem_cons.2 ⟨calm_load rfl, List.forall_mem_cons.2 ⟨calm_nil rfl, List.forall_mem_cons.2 ⟨calm_field rfl, List.forall_mem_cons.2 ⟨calm_load rfl, List.forall_mem_cons.2 ⟨calm_move rfl, List.forall_mem_cons.2 ⟨calm_build rfl, List.forall_mem_cons.2 ⟨calm_append rfl, List.forall_mem_cons.2 ⟨calm_nil rfl, List.forall_mem_cons.2 ⟨calm_field rfl, List.forall_mem_cons.2 ⟨calm_store rfl, fun _ h => (by cases h)⟩⟩⟩⟩⟩⟩⟩⟩⟩⟩⟩) (by rintro ⟨_, _, h⟩; exact h) ?_
    obtain ⟨X1, hX1⟩ : ∃ Y : World, Y = X.drew := ⟨_, rfl⟩
    rw [← hX1]
    have hbx : Below X.heap.size X X1 := by rw [hX1]; exact (Below.refl _ _).drew
    clear hX1
    have hT0 := boxed_bw ht0 hbx
    have hS0 := hbz.below hbx
    have HX1 := Lib.hid hbx
    clear hbx hbz ht0
    refine wpTwo_takeT (i := 0) (v := .pointer (some ⟨z, 0, none⟩)) rfl (by kernel_rfl) (by kernel_rfl) (by kernel_rfl) (fun _ _ _ h => h) ⟨by rfl, ?_⟩ hT0 ?_
    · rintro w hT
      have s0 := hT.cell
      go_simp
    (try simp only [Act.put, List.getElem_toArray, List.getElem_cons_zero, List.setIfInBounds_toArray, List.set_cons_succ, List.set_cons_zero])
    refine wpTwo_takeT (i := 1) (v := .pointer (some ⟨z, 0, none⟩)) rfl (by kernel_rfl) (by kernel_rfl) (by kernel_rfl) (fun _ _ _ h => h) ⟨by rfl, ?_⟩ hT0 ?_
    · rintro w hT
      have s0 := hT.cell
      go_simp
    (try simp only [Act.put, List.getElem_toArray, List.getElem_cons_succ, List.getElem_cons_zero, List.setIfInBounds_toArray, List.set_cons_succ, List.set_cons_zero])
    refine wpTwo_takeT (i := 2) (v := .pointer (some ⟨z, 0, none⟩)) rfl (by kernel_rfl) (by kernel_rfl) (by kernel_rfl) (fun _ _ _ h => h) ⟨by rfl, ?_⟩ hT0 ?_
    · intro w _
      go_simp
    (try simp only [Act.put, List.getElem_toArray, List.getElem_cons_succ, List.getElem_cons_zero, List.setIfInBounds_toArray, List.set_cons_succ, List.set_cons_zero])
    refine wpTwo_takeT (i := 3) (v := .pointer (some ⟨z, 8, none⟩)) rfl (by kernel_rfl) (by kernel_rfl) (by kernel_rfl) (fun _ _ _ h => h) ⟨by rfl, ?_⟩ hT0 ?_
    · intro w _
      go_simp
    (try simp only [Act.put, List.getElem_toArray, List.getElem_cons_succ, List.getElem_cons_zero, List.setIfInBounds_toArray, List.set_cons_succ, List.set_cons_zero])
    refine wpTwo_takeS (i := 4) (v := .slice lp m lc) (waits_all (by kernel_rfl)) rfl (by kernel_rfl) (by kernel_rfl) (by kernel_rfl) (fun _ _ _ h => h) ⟨by rfl, ?_⟩ ⟨hT0, hS0⟩ ?_
    · rintro w ⟨hT, hS⟩
      obtain ⟨t0, t1, t2, t3, t4, t5, t6, t7, t8⟩ := hS.cells
      go_simp
    (try simp only [Act.put, List.getElem_toArray, List.getElem_cons_succ, List.getElem_cons_zero, List.setIfInBounds_toArray, List.set_cons_succ, List.set_cons_zero])
    refine wpTwo_takeT (i := 5) (v := .int .u64 x) rfl (by kernel_rfl) (by kernel_rfl) (by kernel_rfl) (fun _ _ _ h => h) ⟨by rfl, ?_⟩ hT0 ?_
    · intro w _
      go_simp
    (try simp only [Act.put, List.getElem_toArray, List.getElem_cons_succ, List.getElem_cons_zero, List.setIfInBounds_toArray, List.set_cons_succ, List.set_cons_zero])
    refine wpTwo_ready (rs := [6]) (by kernel_rfl) (by simp) ?_
    refine (AllTwo.cons rfl (fun K2 hK => ?_) AllTwo.nil)
    go_simp
    obtain ⟨zb, hzb⟩ : ∃ x, x = X1.heap.size := ⟨_, rfl⟩
    obtain ⟨X2, hX2⟩ : ∃ V : World, V = X1.alloc (.cells #[.int .u64 x] 35) := ⟨_, rfl⟩
    rw [← hX2, ← hzb]
    have hb2 : Below X1.heap.size X1 X2 := by rw [hX2]; exact below1 _ _
    have hw2 : Boxed X2 zb 35 (.int .u64 x) := by rw [hX2, hzb]; exact Boxed.new _ _ _
    have hT2 := boxed_bw hT0 hb2
    have hS2 := hS0.below hb2
    have HX2 := Lib.hid (below_then HX1.out HX1.out.size hb2)
    have a0 := hw2.cell
    have happ := run_app_w B (.slice lp m lc) ls X2 (by have := owns_below HB.out.2.2 HX2.out; rw [HMM.out.1] at this; rw [HMM.out.1]; exact this) zb 1 x a0 (by have := HMM.out; omega) (Nat.le_trans HB.out.1.at_.BW HX2.out.size)
    rw [← HMM.out.1] at happ
    obtain ⟨pq', cq', X3, hr, hown, hk3, hob⟩ := happ
    have hlvt : ∀ k, k = zt → ¬ some k = (Value.slice lp m lc).ownBlock := fun k e e' => by
      obtain ⟨c, f, h1⟩ := Lib.ownsRow_kind HB.out.2.2 k e'.symm
      have h2 := HX2.out.block k (Array.getElem?_eq_some_iff.1 h1).1
      rw [h1, e] at h2
      have h3 : X2.heap[zt]? = _ := hT2
      rw [h3] at h2; injection h2 with h2; injection h2 with _ h2 _; revert h2; decide
    have hlvz : ¬ some z = (Value.slice lp m lc).ownBlock := fun e => by have h4 := (HB.out.1.at_.lB e.symm).1; have := HB.out.1.at_.zB; omega
    have hT3 : (fun w' => Boxed w' zt 94 (.pointer (some ⟨z, 0, none⟩))) X3 := (hk3.block zt hT2.lt (hlvt zt rfl)).trans hT2
    have hS3 := hS2.keeps hk3 hlvz
    have HF := Lib.hid (show KeepsFrom w1.heap.size X (X3.setCell ⟨z, 8, none⟩ (.slice pq' (m + 1) cq')) ∧ DnW w1 z B r i u v nv qb qc lv ls 1 ([] ++ [x]) (.slice pq' (m + 1) cq') (X3.setCell ⟨z, 8, none⟩ (.slice pq' (m + 1) cq')) from by
      have hv2 := HB.out.1.at_.below HX2.out
      have hpush := hv2.push hk3 (.slice pq' (m + 1) cq') x (by rw [List.append_nil, ← HMM.out.1]; exact hown) hob
      refine ⟨((kf_below HX2.out).trans (kf_row hk3 hv2.run)).trans (kf_keeps (setK X3 z 8 _) hS3), by have h9 := hpush; simpa using h9, keeps_then (keeps_then (HB.out.1.kp.trans (Keeps.of_below HX2.out)) hk3 (fun k hk e => ?_)) (setK X3 z 8 _) (fun k _ e => .inl e), fun g hg => ?_, HB.out.1.kl⟩
      · rcases HB.out.1.ow k e.symm with h | h
        · exact .inr (.inr h.symm)
        · omega
      · rcases hob with e | e
        · exact HB.out.1.ow g (by rw [← e]; exact hg)
        · rw [e] at hg; injection hg with hg; right; have h5 := HB.out.1.kp.size; have h6 := HX2.out.size; omega)
    clear hX2 hb2 hw2 hown hk3 hob hlvt hlvz hT0 hS0
    refine hK.out _ _ ⟨hT2, fun _ _ => hS2⟩ ?_
    clear hK
    (try simp only [Act.put, List.getElem_toArray, List.getElem_cons_succ, List.getElem_cons_zero, List.setIfInBounds_toArray, List.set_cons_succ, List.set_cons_zero])
    refine wpTwo_ready (rs := [7]) (by kernel_rfl) (by simp) ?_
    refine (AllTwo.cons rfl (fun K2 hK => ?_) AllTwo.nil)
    refine two_app 40 (.tmp 14) (.tmp 16) _ _ _ hr rfl rfl rfl rfl rfl ?_
    refine hK _ _ ⟨hT3, fun _ _ => hS3⟩ ?_
    clear hK hr a0
    (try simp only [Act.put, List.getElem_toArray, List.getElem_cons_succ, List.getElem_cons_zero, List.setIfInBounds_toArray, List.set_cons_succ, List.set_cons_zero])
    refine wpTwo_takeT (i := 8) (v := .pointer (some ⟨z, 0, none⟩)) rfl (by kernel_rfl) (by kernel_rfl) (by kernel_rfl) (fun _ _ _ h => h) ⟨by rfl, ?_⟩ hT3 ?_
    · intro w _
      go_simp
    (try simp only [Act.put, List.getElem_toArray, List.getElem_cons_succ, List.getElem_cons_zero, List.setIfInBounds_toArray, List.set_cons_succ, List.set_cons_zero])
    refine wpTwo_takeT (i := 9) (v := .pointer (some ⟨z, 8, none⟩)) rfl (by kernel_rfl) (by kernel_rfl) (by kernel_rfl) (fun _ _ _ h => h) ⟨by rfl, ?_⟩ hT3 ?_
    · intro w _
      go_simp
    (try simp only [Act.put, List.getElem_toArray, List.getElem_cons_succ, List.getElem_cons_zero, List.setIfInBounds_toArray, List.set_cons_succ, List.set_cons_zero])
    obtain ⟨e0, e1, e2, e3, e4, e5, e6, e7, e8⟩ := hS3.cells
    have m8 := hS3.marks 8
    refine wpTwo_ready (rs := [10]) (by kernel_rfl) (by simp) ?_
    refine (AllTwo.cons rfl (fun K2 hK => ?_) AllTwo.nil)
    go_simp
    refine hK.out _ _ ⟨?hT, fun h => absurd h (by decide)⟩ ?_
    case hT => exact ((setK X3 z 8 _).block zt hT3.lt (by have := HTZ.out; omega)).trans hT3
    clear hK
    (try simp only [Act.put, List.getElem_toArray, List.getElem_cons_succ, List.getElem_cons_zero, List.setIfInBounds_toArray, List.set_cons_succ, List.set_cons_zero])
    refine wpTwo_end (by kernel_rfl) ?_ _
    refine HK0.out _ _ ?_
    clear e0 e1 e2 e3 e4 e5 e6 e7 e8 m8 hT3 hS3 hT2 hS2
    gi_wp2
    exact ⟨HF.out.1, rfl, ⟨_, HF.out.2⟩, HB.out.2.1, rfl⟩
  case done =>
    rintro D xs X hD rfl ⟨⟨lv1, hd⟩, -, hnil⟩ hK
    have hB1 := HV1.out.2.2.2.2
    have HF := Lib.hid (show Marks W.heap.size [D] X ∧ (Keeps (dS z qb lv) W X ∧ VtAny X z) ∧ runE r i = 4 from by
      refine ⟨(Marks.nil _ _).cons (Nat.le_trans hB1.size hD) (by simp) hK, ⟨keeps_then (Keeps.of_below hB1) hd.kp (fun _ _ e => e), hd.at_.any⟩, by unfold runE; rw [if_pos hnil]⟩)
    clear hd hnil hK hB1 hD
    gi_wp2
    refine leaves_marks3 (B := W.heap.size) (by simp) (I := fun X => Keeps (dS z qb lv) W X ∧ VtAny X z) ?_ [D] _ HF.out.1 HF.out.2.1 fun X' hX' => ⟨hX'.1, .inl ⟨by rw [HF.out.2.2]; decide, by rw [HF.out.2.2]; rfl, hX'.2⟩⟩
    rintro X Y E ⟨h1, now, u, v, d, a, on, nv, qv, lv, hb, hs⟩ hE hg ho
    exact ⟨keeps_own h1 hg (Nat.le_refl _) (fun r e => by cases e; exact hE), now, u, v, d, a, on, nv, qv, lv, heap_own hb hg (fun r e => by cases e; exact ho), hs⟩
  case stop =>
    rintro D cc pre X hD ⟨rfl, ⟨lv1, hd⟩, hp, hl1⟩ hK
    have hB1 := HV1.out.2.2.2.2
    have hat := hd.at_
    rw [hp] at hat
    have HF := Lib.hid (show Marks W.heap.size [D] X ∧ (Keeps (dS z qb lv) W X ∧ VtAt X z B (dropR r i 1) u v nv qb qc lv1 (ls ++ (told r i).take 1)) ∧ runE r i = 0 from by
      refine ⟨(Marks.nil _ _).cons (Nat.le_trans hB1.size hD) (by simp) hK, ⟨keeps_then (Keeps.of_below hB1) hd.kp (fun _ _ e => e), hat⟩, by unfold runE; rw [if_neg (fun e => by rw [hp, e] at hl1; simp at hl1)]⟩)
    have HOW := Lib.hid (show ∀ g, lv1.ownBlock = some g → lv.ownBlock = some g ∨ W.heap.size ≤ g from fun g hg => (hd.ow g hg).elim .inl (fun h => .inr (Nat.le_trans hB1.size h)))
    clear hd hK hB1 hD hat hp hl1
    gi_wp2
    refine leaves_marks3 (B := W.heap.size) (by simp) (I := fun X => Keeps (dS z qb lv) W X ∧ VtAt X z B (dropR r i 1) u v nv qb qc lv1 (ls ++ (told r i).take 1)) ?_ [D] _ HF.out.1 HF.out.2.1 fun X' hX' => ⟨_, results_none rfl _ _ _, hX'.1, .inr ⟨HF.out.2.2, rfl, _, _, _, _, hX'.2, HOW.out⟩⟩
    rintro X Y E ⟨h1, h2⟩ hE hg ho
    exact ⟨keeps_own h1 hg (Nat.le_refl _) (fun r e => by cases e; exact hE), h2.own hg (fun r e => by cases e; exact ho)⟩

end Go.Proofs.YtdllhiihmpinoaaGreat
namespace Go.Proofs.YtdllhiihmpinoaaGreat
open Go.RowKit Go.Shelf
attribute [local go_sem] Oper.semAt_some

/-- A world whose block r is another object. -/
def objSet (w : World) (r : Nat) (o : Obj) : World := { w with heap := w.heap.setIfInBounds r o }
theorem objSet_get {w : World} {r : Nat} (h : r < w.heap.size) (o : Obj) : (objSet w r o).heap[r]? = some o := by simp [objSet, h]
theorem objSet_below {B : Nat} {W w : World} {r : Nat} (h : Below B W w) (hr : B ≤ r) (o : Obj) : Below B W (objSet w r o) :=
  ⟨h.os, h.tape, h.output, by simp [objSet]; exact h.size, fun k hk => by
    have e : (w.heap.setIfInBounds r o)[k]? = w.heap[k]? := by simp [Array.getElem?_setIfInBounds_ne (show r ≠ k by omega)]
    exact e.trans (h.block k hk)⟩
theorem emap_type : Tryz.prog.underlying 120 = some (.map 3 122) := by kernel_rfl
theorem eint_type : Tryz.prog.underlying 3 = some (.int .i64) := by kernel_rfl
theorem emap_put (w : World) (r clock : Nat) (k : Int) (es : Array MapEntry) (val : Value) (hb : w.heap[r]? = some (.map es clock)) (hnf : Instr.findNow (.int .i64) (.int .i64 k) es.toList 0 = some none) :
    (Instr.mapUpdate 120 (.map (some r)) (.int .i64 k) val).run Tryz.prog w = .ok () (objSet w r (.map (es.push { key := .int .i64 k, val := val, born := clock }) (clock + 1))) := by
  have hc : (Instr.checkKey false 10000 3 (.int .i64 k)).run Tryz.prog w = .ok () w := MapKept.run_checkKey (k := .int .i64 k) eint_type (by simp [MapKept.IsKey]) false 9999
  simp [Instr.mapUpdate, run_underlying emap_type, MapKept.run_getObj_map hb, hc, MapKept.run_findKey eint_type hnf, MapKept.run_setObj_map _ hb, Result.andThen, objSet]
theorem emap_get (w : World) (r clock : Nat) (k : Int) (es : Array MapEntry) (val : Value) (i : Nat) (hb : w.heap[r]? = some (.map es clock)) (hf : Instr.findNow (.int .i64) (.int .i64 k) es.toList 0 = some (some (i, val))) :
    (Instr.lookup 120 (.map (some r)) (.int .i64 k) true).run Tryz.prog w = .ok (.tuple #[val, .bool true]) w := by
  have hc : ∀ b, (Instr.checkKey b 10000 3 (.int .i64 k)).run Tryz.prog w = .ok () w := fun b => MapKept.run_checkKey (k := .int .i64 k) eint_type (by simp [MapKept.IsKey]) b 9999
  simp [Instr.lookup, run_underlying emap_type, MapKept.run_getObj_map hb, hc, MapKept.run_findKey eint_type hf, Result.andThen]
theorem efunc_info : (Tryz.prog.info? 122).map (fun i => i.zero) = some (some .nilFunc) := by kernel_rfl
theorem emap_miss (w : World) (r clock : Nat) (k : Int) (es : Array MapEntry) (hb : w.heap[r]? = some (.map es clock)) (hf : Instr.findNow (.int .i64) (.int .i64 k) es.toList 0 = some none) :
    (Instr.lookup 120 (.map (some r)) (.int .i64 k) true).run Tryz.prog w = .ok (.tuple #[.nilFunc, .bool false]) w := by
  have hc : ∀ b, (Instr.checkKey b 10000 3 (.int .i64 k)).run Tryz.prog w = .ok () w := fun b => MapKept.run_checkKey (k := .int .i64 k) eint_type (by simp [MapKept.IsKey]) b 9999
  have hz : (zeroValue 122).run Tryz.prog w = .ok .nilFunc w := by go_simp
  simp [Instr.lookup, run_underlying emap_type, MapKept.run_getObj_map hb, hc, MapKept.run_findKey eint_type hf, Result.andThen, hz]

/-- What the kinds do. -/
def mapD (z : Nat) : Obj := .map #[⟨.int .i64 1, (.func (.func 120) #[.pointer (some ⟨z, 0, none⟩)] #[]), 0⟩, ⟨.int .i64 2, (.func (.func 121) #[.pointer (some ⟨z, 0, none⟩)] #[]), 1⟩, ⟨.int .i64 3, (.func (.func 122) #[.pointer (some ⟨z, 0, none⟩)] #[]), 2⟩, ⟨.int .i64 4, (.func (.func 82) #[.pointer (some ⟨z, 0, none⟩)] #[]), 3⟩, ⟨.int .i64 5, (.func (.func 123) #[.pointer (some ⟨z, 0, none⟩)] #[]), 4⟩] 5
set_option maxRecDepth 100000 in
set_option maxHeartbeats 4000000 in
theorem deedsR_c (z : Nat) (W : World) : Calls Tryz.prog 79 #[.pointer (some ⟨z, 0, none⟩)] W fun e w' => (e = .returned (.map (some W.heap.size)) ∧ w'.heap[W.heap.size]? = some (mapD z)) ∧ Below W.heap.size W w' := by
  have hb0 : (W.alloc (.map #[] 0)).heap[W.heap.size]? = some (.map #[] 0) := World.alloc_heap_new W _
  have hl0 : W.heap.size < (W.alloc (.map #[] 0)).heap.size := by simp
  have hB0 : Below W.heap.size W (W.alloc (.map #[] 0)) := (Below.refl _ _).alloc (Nat.le_refl _) _
  have hi1 : (Instr.mapUpdate 120 (.map (some W.heap.size)) (.int .i64 1) (.func (.func 120) #[.pointer (some ⟨z, 0, none⟩)] #[])).run Tryz.prog (W.alloc (.map #[] 0)) = .ok () (objSet (W.alloc (.map #[] 0)) W.heap.size (.map #[⟨.int .i64 1, (.func (.func 120) #[.pointer (some ⟨z, 0, none⟩)] #[]), 0⟩] 1)) := emap_put _ W.heap.size 0 1 _ _ hb0 rfl
  obtain ⟨w1, hw1⟩ : ∃ X, X = objSet (W.alloc (.map #[] 0)) W.heap.size (.map #[⟨.int .i64 1, (.func (.func 120) #[.pointer (some ⟨z, 0, none⟩)] #[]), 0⟩] 1) := ⟨_, rfl⟩
  have hb1 : w1.heap[W.heap.size]? = some (.map #[⟨.int .i64 1, (.func (.func 120) #[.pointer (some ⟨z, 0, none⟩)] #[]), 0⟩] 1) := by rw [hw1]; exact objSet_get hl0 _
  have hl1 : W.heap.size < w1.heap.size := (Array.getElem?_eq_some_iff.1 hb1).1
  have hB1 : Below W.heap.size W w1 := by rw [hw1]; exact objSet_below hB0 (Nat.le_refl _) _
  rw [← hw1] at hi1
  have hi2 : (Instr.mapUpdate 120 (.map (some W.heap.size)) (.int .i64 2) (.func (.func 121) #[.pointer (some ⟨z, 0, none⟩)] #[])).run Tryz.prog w1 = .ok () (objSet w1 W.heap.size (.map #[⟨.int .i64 1, (.func (.func 120) #[.pointer (some ⟨z, 0, none⟩)] #[]), 0⟩, ⟨.int .i64 2, (.func (.func 121) #[.pointer (some ⟨z, 0, none⟩)] #[]), 1⟩] 2)) := emap_put _ W.heap.size 1 2 _ _ hb1 rfl
  obtain ⟨w2, hw2⟩ : ∃ X, X = objSet w1 W.heap.size (.map #[⟨.int .i64 1, (.func (.func 120) #[.pointer (some ⟨z, 0, none⟩)] #[]), 0⟩, ⟨.int .i64 2, (.func (.func 121) #[.pointer (some ⟨z, 0, none⟩)] #[]), 1⟩] 2) := ⟨_, rfl⟩
  have hb2 : w2.heap[W.heap.size]? = some (.map #[⟨.int .i64 1, (.func (.func 120) #[.pointer (some ⟨z, 0, none⟩)] #[]), 0⟩, ⟨.int .i64 2, (.func (.func 121) #[.pointer (some ⟨z, 0, none⟩)] #[]), 1⟩] 2) := by rw [hw2]; exact objSet_get hl1 _
  have hl2 : W.heap.size < w2.heap.size := (Array.getElem?_eq_some_iff.1 hb2).1
  have hB2 : Below W.heap.size W w2 := by rw [hw2]; exact objSet_below hB1 (Nat.le_refl _) _
  rw [← hw2] at hi2
  have hi3 : (Instr.mapUpdate 120 (.map (some W.heap.size)) (.int .i64 3) (.func (.func 122) #[.pointer (some ⟨z, 0, none⟩)] #[])).run Tryz.prog w2 = .ok () (objSet w2 W.heap.size (.map #[⟨.int .i64 1, (.func (.func 120) #[.pointer (some ⟨z, 0, none⟩)] #[]), 0⟩, ⟨.int .i64 2, (.func (.func 121) #[.pointer (some ⟨z, 0, none⟩)] #[]), 1⟩, ⟨.int .i64 3, (.func (.func 122) #[.pointer (some ⟨z, 0, none⟩)] #[]), 2⟩] 3)) := emap_put _ W.heap.size 2 3 _ _ hb2 rfl
  obtain ⟨w3, hw3⟩ : ∃ X, X = objSet w2 W.heap.size (.map #[⟨.int .i64 1, (.func (.func 120) #[.pointer (some ⟨z, 0, none⟩)] #[]), 0⟩, ⟨.int .i64 2, (.func (.func 121) #[.pointer (some ⟨z, 0, none⟩)] #[]), 1⟩, ⟨.int .i64 3, (.func (.func 122) #[.pointer (some ⟨z, 0, none⟩)] #[]), 2⟩] 3) := ⟨_, rfl⟩
  have hb3 : w3.heap[W.heap.size]? = some (.map #[⟨.int .i64 1, (.func (.func 120) #[.pointer (some ⟨z, 0, none⟩)] #[]), 0⟩, ⟨.int .i64 2, (.func (.func 121) #[.pointer (some ⟨z, 0, none⟩)] #[]), 1⟩, ⟨.int .i64 3, (.func (.func 122) #[.pointer (some ⟨z, 0, none⟩)] #[]), 2⟩] 3) := by rw [hw3]; exact objSet_get hl2 _
  have hl3 : W.heap.size < w3.heap.size := (Array.getElem?_eq_some_iff.1 hb3).1
  have hB3 : Below W.heap.size W w3 := by rw [hw3]; exact objSet_below hB2 (Nat.le_refl _) _
  rw [← hw3] at hi3
  have hi4 : (Instr.mapUpdate 120 (.map (some W.heap.size)) (.int .i64 4) (.func (.func 82) #[.pointer (some ⟨z, 0, none⟩)] #[])).run Tryz.prog w3 = .ok () (objSet w3 W.heap.size (.map #[⟨.int .i64 1, (.func (.func 120) #[.pointer (some ⟨z, 0, none⟩)] #[]), 0⟩, ⟨.int .i64 2, (.func (.func 121) #[.pointer (some ⟨z, 0, none⟩)] #[]), 1⟩, ⟨.int .i64 3, (.func (.func 122) #[.pointer (some ⟨z, 0, none⟩)] #[]), 2⟩, ⟨.int .i64 4, (.func (.func 82) #[.pointer (some ⟨z, 0, none⟩)] #[]), 3⟩] 4)) := emap_put _ W.heap.size 3 4 _ _ hb3 rfl
  obtain ⟨w4, hw4⟩ : ∃ X, X = objSet w3 W.heap.size (.map #[⟨.int .i64 1, (.func (.func 120) #[.pointer (some ⟨z, 0, none⟩)] #[]), 0⟩, ⟨.int .i64 2, (.func (.func 121) #[.pointer (some ⟨z, 0, none⟩)] #[]), 1⟩, ⟨.int .i64 3, (.func (.func 122) #[.pointer (some ⟨z, 0, none⟩)] #[]), 2⟩, ⟨.int .i64 4, (.func (.func 82) #[.pointer (some ⟨z, 0, none⟩)] #[]), 3⟩] 4) := ⟨_, rfl⟩
  have hb4 : w4.heap[W.heap.size]? = some (.map #[⟨.int .i64 1, (.func (.func 120) #[.pointer (some ⟨z, 0, none⟩)] #[]), 0⟩, ⟨.int .i64 2, (.func (.func 121) #[.pointer (some ⟨z, 0, none⟩)] #[]), 1⟩, ⟨.int .i64 3, (.func (.func 122) #[.pointer (some ⟨z, 0, none⟩)] #[]), 2⟩, ⟨.int .i64 4, (.func (.func 82) #[.pointer (some ⟨z, 0, none⟩)] #[]), 3⟩] 4) := by rw [hw4]; exact objSet_get hl3 _
  have hl4 : W.heap.size < w4.heap.size := (Array.getElem?_eq_some_iff.1 hb4).1
  have hB4 : Below W.heap.size W w4 := by rw [hw4]; exact objSet_below hB3 (Nat.le_refl _) _
  rw [← hw4] at hi4
  have hi5 : (Instr.mapUpdate 120 (.map (some W.heap.size)) (.int .i64 5) (.func (.func 123) #[.pointer (some ⟨z, 0, none⟩)] #[])).run Tryz.prog w4 = .ok () (objSet w4 W.heap.size (.map #[⟨.int .i64 1, (.func (.func 120) #[.pointer (some ⟨z, 0, none⟩)] #[]), 0⟩, ⟨.int .i64 2, (.func (.func 121) #[.pointer (some ⟨z, 0, none⟩)] #[]), 1⟩, ⟨.int .i64 3, (.func (.func 122) #[.pointer (some ⟨z, 0, none⟩)] #[]), 2⟩, ⟨.int .i64 4, (.func (.func 82) #[.pointer (some ⟨z, 0, none⟩)] #[]), 3⟩, ⟨.int .i64 5, (.func (.func 123) #[.pointer (some ⟨z, 0, none⟩)] #[]), 4⟩] 5)) := emap_put _ W.heap.size 4 5 _ _ hb4 rfl
  obtain ⟨w5, hw5⟩ : ∃ X, X = objSet w4 W.heap.size (.map #[⟨.int .i64 1, (.func (.func 120) #[.pointer (some ⟨z, 0, none⟩)] #[]), 0⟩, ⟨.int .i64 2, (.func (.func 121) #[.pointer (some ⟨z, 0, none⟩)] #[]), 1⟩, ⟨.int .i64 3, (.func (.func 122) #[.pointer (some ⟨z, 0, none⟩)] #[]), 2⟩, ⟨.int .i64 4, (.func (.func 82) #[.pointer (some ⟨z, 0, none⟩)] #[]), 3⟩, ⟨.int .i64 5, (.func (.func 123) #[.pointer (some ⟨z, 0, none⟩)] #[]), 4⟩] 5) := ⟨_, rfl⟩
  have hb5 : w5.heap[W.heap.size]? = some (.map #[⟨.int .i64 1, (.func (.func 120) #[.pointer (some ⟨z, 0, none⟩)] #[]), 0⟩, ⟨.int .i64 2, (.func (.func 121) #[.pointer (some ⟨z, 0, none⟩)] #[]), 1⟩, ⟨.int .i64 3, (.func (.func 122) #[.pointer (some ⟨z, 0, none⟩)] #[]), 2⟩, ⟨.int .i64 4, (.func (.func 82) #[.pointer (some ⟨z, 0, none⟩)] #[]), 3⟩, ⟨.int .i64 5, (.func (.func 123) #[.pointer (some ⟨z, 0, none⟩)] #[]), 4⟩] 5) := by rw [hw5]; exact objSet_get hl4 _
  have hl5 : W.heap.size < w5.heap.size := (Array.getElem?_eq_some_iff.1 hb5).1
  have hB5 : Below W.heap.size W w5 := by rw [hw5]; exact objSet_below hB4 (Nat.le_refl _) _
  rw [← hw5] at hi5
  have H4 := Lib.hid hb5
  have HB4 := Lib.hid hB5
  clear hb0 hl0 hB0 hb1 hl1 hB1 hb2 hl2 hB2 hb3 hl3 hB3 hb4 hl4 hB4 hb5 hl5 hB5 hw1 hw2 hw3 hw4 hw5
  have hmk : (Instr.makeMap 120 none).run Tryz.prog W = .ok (.map (some W.heap.size)) (W.alloc (.map #[] 0)) := by simp [Instr.makeMap]
  have hmf : ∀ (fn : Fn) (first cap : Array Value) (w : World), (Instr.makeFunc fn first cap).run Tryz.prog w = .ok (.func fn first cap) w := fun _ _ _ _ => rfl
  go_enter Tryz.func79, Tryz.ntmps79
  go_wp2
  go_ret
  exact ⟨⟨rfl, H4.out⟩, HB4.out⟩

end Go.Proofs.YtdllhiihmpinoaaGreat
