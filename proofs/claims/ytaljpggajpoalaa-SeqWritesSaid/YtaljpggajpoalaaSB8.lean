/-
  open, close, of a writer of package seq.
  Conditions: the memory may be, the write may be.
-/
import Derived.Test.YtaljpggajpoalaaSB7
import Derived.ArgAppend
import Derived.Maps.AppendAt
import Derived.IntWalk
import Derived.Test.YtaljpggajpoalaaSB4
/-
  next, of a reader of package seq.
  Conditions: the memory may be, the read may be.
-/
namespace Go.Proofs.Ytaljpggajpoalaa
open Go.RowKit Go.Shelf
attribute [local go_sem] Oper.semAt_some

/-- append, by what it comes to. -/
theorem wpList_append_by {P : Program} (w : World) {ops : Array Oper} {rest : List Oper} {o : Oper} {a : Act} {Q : Exit → Act → World → Prop} (hgd : o.guard = none) (s x : Operand) (t tx : TypeId)
    (ho : o.op = .call { callee := .builtin .append, args := #[s, x], argTypes := #[t, tx] }) (v xv : Value) (hv : a.eval s = v) (hx : a.eval x = xv) (R : Value → World → Prop)
    (hr : ∃ v' w', (Builtin.append_ #[t, tx] o.type #[v, xv]).run P w = .ok v' w' ∧ R v' w') (hK : ∀ v' w', R v' w' → wpList P ops Q rest (a.put o.dst v') w') : wpList P ops Q (o :: rest) a w := by
  refine wpList_plain hgd fun K hK' => ?_
  obtain ⟨v', w', hrun, r'⟩ := hr
  unfold Oper.wp
  simp [execOp, ho, resolve, invoke, builtin, hv, hx, hrun, Result.andThen]
  exact hK' _ _ (hK v' w' r')
theorem append_fresh (W : World) (p : Option Addr) (vs : List Int) (x : Int) (g : Nat) (hp : (p = none ∧ vs = []) ∨ ∃ b off, p = some ⟨b, off, none⟩ ∧ ∀ i (h : i < vs.length), W.cell? ⟨b, off + i, none⟩ = some (.int .u64 vs[i])) (hn : vs.length ≤ 1048576) (hx : W.cell? ⟨g, 0, none⟩ = some (.int .u64 x)) :
    ∃ v' w', (Builtin.append_ #[24, 24] 24 #[.slice p vs.length vs.length, .slice (some ⟨g, 0, none⟩) 1 1]).run Try.prog W = .ok v' w' ∧ w'.ownsRow W.heap.size 27 1 v' (vs.length + 1) ((vs ++ [x]).map (Value.int .u64)) ∧ W.grownBy w' none := by
  obtain ⟨i0, hi, hz0, hz1, hz2⟩ := info_parts eword_info
  have hnew : ∀ j u, [Value.int .u64 x][j]? = some u → W.cell? ((⟨g, 0, none⟩ : Addr).add j) = some u := by
    intro j u hj
    have : j = 0 := by have := (List.getElem?_eq_some_iff.1 hj).1; simp at this; omega
    subst this
    rw [addr_add_off]
    simp at hj
    rw [← hj]; exact hx
  rw [List.map_append]
  rcases hp with ⟨rfl, rfl⟩ | ⟨b, off, rfl, hcs⟩
  · obtain ⟨v', w', hr, h2, h3, -, -⟩ := run_append_own_at (P := Try.prog) W W.heap.size 24 24 27 i0 (.int .u64 0) 1 8 Try.underlying24 hi hz0 hz1 hz2 rfl (by omega) (.slice none 0 0) 0 [] ⟨rfl, .inl ⟨rfl, rfl⟩⟩ ⟨g, 0, none⟩ 1 1 [.int .u64 x] rfl hnew (by intro u hu; simp at hu; rw [hu]; rfl) (by unfold maxLen; omega) (by omega) (Nat.le_refl _)
    exact ⟨v', w', hr, h2, h3⟩
  · exact run_append_arg_grows (P := Try.prog) W 24 24 27 i0 (.int .u64 0) 1 8 Try.underlying24 hi hz0 hz1 hz2 rfl (by omega) ⟨b, off, none⟩ vs.length vs.length (vs.map (Value.int .u64)) (by simp) (fun j u hj => by
      obtain ⟨hj1, rfl⟩ := List.getElem?_eq_some_iff.1 hj
      rw [List.length_map] at hj1
      rw [addr_add_off, List.getElem_map]
      exact hcs j hj1) ⟨g, 0, none⟩ 1 1 [.int .u64 x] rfl hnew (by omega) (by unfold maxLen; omega) (by omega)
set_option maxRecDepth 100000 in
set_option maxHeartbeats 4000000 in
theorem rnext_no (B q z gw gl cw cl r : Nat) (us : List Int) (ms : List Bool) (u : Bool) (a f m ph b t : Int) (v : Value) (S : Nat → Prop) (vs : List Int) (W : World) (hF : AccF B q z gw gl cw cl us ms u W) (hR : RBox W r ⟨a, f, m, ph, b, t⟩ v q) (hr : rightB us ms = true) (hV : VV S W v vs) (hl : vs.length ≤ 16) (hf0 : 0 ≤ f) (hf1 : f ≤ 4096) (us' : List Int) (u' : Bool) (h : Int)  (hacc : accM us ms u 1 (f + (vs.length : Int)) 0 0 = (us', u', h, false)) :
    Calls Try.prog 66 #[.pointer (some ⟨r, 0, none⟩)] W fun e w' => e = .returned (.bool false) ∧ AccF B q z gw gl cw cl us' ms u' w' ∧ RBox w' r ⟨a, f, m, ph, b, t⟩ v q ∧ Keeps (fun k => k = z ∨ k = gw ∨ k = r) W w' := by
  obtain ⟨p, c, rfl, ⟨hnc, hcm⟩, hpc⟩ := hV
  have HPC := Lib.hid hpc
  obtain ⟨n, hn⟩ : ∃ n, n = vs.length := ⟨_, rfl⟩
  have HN := Lib.hid hn
  rw [← hn] at hacc hR hnc hl
  have hadd : IntKind.i64.wrap (f + (n : Int)) = f + (n : Int) := IntWalk.i64_in _ (by omega)
  have HADD := Lib.hid hadd
  obtain ⟨nq, nz, nw, nl⟩ := hF.apart hR
  have HC := Lib.hid (fun (Z : World) (hz : AccF B q z gw gl cw cl us ms u Z) => hacc ▸ qload_c B q z gw gl cw cl us ms u (f + (n : Int)) Z hz hr (by omega) (by omega))
  have HF := Lib.hid hF
  have HR := Lib.hid hR
  obtain ⟨⟨h0, h1, h2, h3⟩, h4, h5, h6, h7⟩ := hR.cells
  dsimp only at h0 h1 h2 h3 h4 h6
  clear hpc hn hadd hF hR hr hacc h0 h2 h3 h4 h6
  have hadd := HADD.out
  rw [← HN.out]
  go_enter Try.func66, Try.ntmps66
  go_upto_region 2 with fail
  clear h5
  go_region_held3 (fun w' => w'.cell? ⟨r, 1, none⟩ = some (.int .i64 f) ∧ w'.cell? ⟨r, 7, none⟩ = some (accV q))
    (first
      | exact ⟨h1, h7⟩
      | go_keep
      | (go_split_ands; exact ⟨hk1.cell (by assumption) (by show ¬ (r = z ∨ r = gw); omega), hk1.cell (by assumption) (by show ¬ (r = z ∨ r = gw); omega)⟩))
    (first | (go_at_call 82; refine (HC.out _ HF.out.drew).mono ?_; rintro e w1 ⟨rfl, hF1, hk1⟩))
  all_goals
    have HF1 := Lib.hid hF1
    have HK1 := Lib.hid ((Keeps.drewN (Keeps.refl (fun k => k = z ∨ k = gw) W) 1).trans hk1)
    have HR1 := Lib.hid (HR.out.keeps HK1.out (by show ¬ (r = z ∨ r = gw); omega))
    clear hF1 hk1 HC HF HR h1 h7 hadd
    rename_i hHeld
    clear hHeld
    go_wp2
    exact bodyPost_ret (v := .bool false) (by simp [results, Try.results66, go_sem]) rfl ⟨rfl, HF1.out, HR1.out, HK1.out.sub fun k _ e => by rcases e with e | e; exact .inl e; exact .inr (.inl e)⟩
set_option maxRecDepth 100000 in
set_option maxHeartbeats 4000000 in
theorem rnext_yes (B q z gw gl cw cl r : Nat) (us : List Int) (ms : List Bool) (u : Bool) (a f m ph b t : Int) (v : Value) (S : Nat → Prop) (vs : List Int) (W : World) (hF : AccF B q z gw gl cw cl us ms u W) (hR : RBox W r ⟨a, f, m, ph, b, t⟩ v q) (hr : rightB us ms = true) (hS : ∀ k, (k = z ∨ k = gw ∨ k = r) → S k) (hSW : ∀ k, S k → k < W.heap.size) (hV : VV S W v vs) (hl : vs.length ≤ 16) (hf0 : 0 ≤ f) (hf1 : f ≤ 4096) (us' : List Int) (u' : Bool) (h : Int)  (hacc : accM us ms u 1 (f + (vs.length : Int)) 0 0 = (us', u', h, true)) :
    Calls Try.prog 66 #[.pointer (some ⟨r, 0, none⟩)] W fun e w' => e = .returned (.bool true) ∧ AccF B q z gw gl cw cl us' ms u' w' ∧ (∃ v', RBox w' r ⟨a, f, m, phR m (vs.length + 1), b, t⟩ v' q ∧ VV S w' v' (vs ++ [h])) ∧ Keeps (fun k => k = z ∨ k = gw ∨ k = r) W w' := by
  obtain ⟨p, c, rfl, ⟨hnc, hcm⟩, hpc⟩ := hV
  have HPC := Lib.hid hpc
  obtain ⟨n, hn⟩ : ∃ n, n = vs.length := ⟨_, rfl⟩
  have HN := Lib.hid hn
  rw [← hn] at hacc hR hnc hl
  have hadd : IntKind.i64.wrap (f + (n : Int)) = f + (n : Int) := IntWalk.i64_in _ (by omega)
  have HADD := Lib.hid hadd
  obtain ⟨nq, nz, nw, nl⟩ := hF.apart hR
  have HC := Lib.hid (fun (Z : World) (hz : AccF B q z gw gl cw cl us ms u Z) => hacc ▸ qload_c B q z gw gl cw cl us ms u (f + (n : Int)) Z hz hr (by omega) (by omega))
  have HF := Lib.hid hF
  have HR := Lib.hid hR
  obtain ⟨⟨h0, h1, h2, h3⟩, h4, h5, h6, h7⟩ := hR.cells
  dsimp only at h0 h1 h2 h3 h4 h6
  clear hpc hn hadd hF hR hr hacc h0 h2 h3 h4 h6
  have hadd := HADD.out
  rw [← HN.out]
  go_enter Try.func66, Try.ntmps66
  go_upto_region 2 with fail
  clear h5
  go_region_held3 (fun w' => w'.cell? ⟨r, 1, none⟩ = some (.int .i64 f) ∧ w'.cell? ⟨r, 7, none⟩ = some (accV q))
    (first
      | exact ⟨h1, h7⟩
      | go_keep
      | (go_split_ands; exact ⟨hk1.cell (by assumption) (by show ¬ (r = z ∨ r = gw); omega), hk1.cell (by assumption) (by show ¬ (r = z ∨ r = gw); omega)⟩))
    (first | (go_at_call 82; refine (HC.out _ HF.out.drew).mono ?_; rintro e w1 ⟨rfl, hF1, hk1⟩))
  all_goals
    have HF1 := Lib.hid hF1
    have HK1 := Lib.hid ((Keeps.drewN (Keeps.refl (fun k => k = z ∨ k = gw) W) 1).trans hk1)
    have HR1 := Lib.hid (HR.out.keeps HK1.out (by show ¬ (r = z ∨ r = gw); omega))
    clear hF1 hk1 HC HF HR h1 h7 hadd
    rename_i hHeld
    clear hHeld
    have HP1 : (p = none ∧ vs = [] ∧ c = 0) ∨ ∃ b off, p = some ⟨b, off, none⟩ ∧ ∀ i (h : i < vs.length), w1.cell? ⟨b, off + i, none⟩ = some (.int .u64 vs[i]) := by
      rcases HPC.out with hp | ⟨b, off, rfl, hb, hcs⟩
      · exact .inl hp
      · exact .inr ⟨b, off, rfl, fun i hi => HK1.out.cell (hcs i hi) (fun e => hb (hS _ (by rcases e with e | e; exact .inl e; exact .inr (.inl e))))⟩
    obtain ⟨w2, hw2⟩ : ∃ X : World, X = w1.alloc (.cells #[.int .u64 h] 27) := ⟨_, rfl⟩
    obtain ⟨y, hy⟩ : ∃ y, y = w1.heap.size := ⟨_, rfl⟩
    have hb2 : Below w1.heap.size w1 w2 := by rw [hw2]; exact below1 _ _
    have hx2 : w2.cell? ⟨y, 0, none⟩ = some (.int .u64 h) := by rw [hw2, hy]; simp
    have HAP0 : ∃ v' w', (Builtin.append_ #[24, 24] 24 #[.slice p n n, .slice (some ⟨y, 0, none⟩) 1 1]).run Try.prog w2 = .ok v' w' ∧ (∃ g cap, v' = .slice (some ⟨g, 0, none⟩) (n + 1) cap ∧ w2.heap.size ≤ g ∧ w'.ownsRow w2.heap.size 27 1 (.slice (some ⟨g, 0, none⟩) (n + 1) cap) (n + 1) ((vs ++ [h]).map (Value.int .u64)) ∧ Below w2.heap.size w2 w') := by
      rw [HN.out]
      obtain ⟨v', w', e1, e2, e3⟩ := append_fresh w2 p vs h y (by
        rcases HP1 with hp | ⟨b, off, rfl, hcs⟩
        · exact .inl ⟨hp.1, hp.2.1⟩
        · exact .inr ⟨b, off, rfl, fun i hi => below_cell hb2 (hcs i hi)⟩) (by rw [← HN.out]; omega) hx2
      obtain ⟨g, cap, rfl, hg, -⟩ := own_form e2 (by omega)
      exact ⟨_, w', e1, g, cap, rfl, hg, e2, below_grown (Below.refl _ _) e3 (fun k hk => by cases hk)⟩
    have hPP : (p = none ∧ n = 0 ∧ c = 0) ∨ ∃ b off, p = some ⟨b, off, none⟩ := by
      rcases HP1 with hp | ⟨b, off, rfl, -⟩
      · exact .inl ⟨hp.1, by rw [HN.out, hp.2.1]; rfl, hp.2.2⟩
      · exact .inr ⟨b, off, rfl⟩
    have HF2 := Lib.hid (HF1.out.below hb2)
    have hR2 := HR1.out.below hb2
    have HK2 := Lib.hid (HK1.out.trans (Keeps.of_below hb2))
    have HSZ := Lib.hid (Nat.le_trans HK1.out.size hb2.size)
    obtain ⟨-, -, k5, -, -⟩ := HR1.out.cells
    have m5 := HR1.out.marks 5
    have HR2 := Lib.hid hR2
    have HW2 := Lib.hid (And.intro hw2 hy)
    have hap2 := HAP0
    rw [HW2.out.2] at hap2
    have HAP : _ := Lib.hid (show ∃ v' w', (Builtin.append_ #[24, 24] 24 #[.slice p n n, .slice (some ⟨w1.heap.size, 0, none⟩) 1 1]).run Try.prog (w1.alloc (.cells #[.int .u64 h] 27)) = .ok v' w' ∧ (∃ g cap, v' = .slice (some ⟨g, 0, none⟩) (n + 1) cap ∧ w2.heap.size ≤ g ∧ w'.ownsRow w2.heap.size 27 1 (.slice (some ⟨g, 0, none⟩) (n + 1) cap) (n + 1) ((vs ++ [h]).map (Value.int .u64)) ∧ Below w2.heap.size w2 w') by rw [← HW2.out.1]; exact hap2)
    clear hw2 hy hb2 hx2 HP1 HF1 HK1 HR1 HPC hR2 hap2 HAP0
    rcases hPP with ⟨rfl, rfl, rfl⟩ | ⟨b0, off, rfl⟩
    · go_wp2_with (with_reducible refine wpList_append_by (o := ⟨some 39, _, _, _, _, _⟩) (w1.alloc (.cells #[.int .u64 h] 27)) rfl (.tmp 36) (.tmp 38) 24 24 rfl (.slice none 0 0) (.slice (some ⟨w1.heap.size, 0, none⟩) 1 1) rfl rfl (fun v' w' => ∃ g cap, v' = .slice (some ⟨g, 0, none⟩) (0 + 1) cap ∧ w2.heap.size ≤ g ∧ w'.ownsRow w2.heap.size 27 1 (.slice (some ⟨g, 0, none⟩) (0 + 1) cap) (0 + 1) ((vs ++ [h]).map (Value.int .u64)) ∧ Below w2.heap.size w2 w') HAP.out ?_; rintro v' w3 ⟨g, cap, rfl, hg, ho, hb⟩; have hR3 := HR2.out.below hb; have c5 := hR3.cells.2.2.1; have m5' := hR3.marks 5)
      obtain ⟨w4, hw4⟩ : ∃ X : World, X = w3.setCell ⟨r, 5, none⟩ (.slice (some ⟨g, 0, none⟩) 1 cap) := ⟨_, rfl⟩
      have hk4 : Keeps (fun k => k = r) w3 w4 := by rw [hw4]; exact Keeps.setCell w3 (S := (· = r)) (p := ⟨r, 5, none⟩) rfl _
      have HR4 := Lib.hid (show RBox w4 r ⟨a, f, m, ph, b, t⟩ (.slice (some ⟨g, 0, none⟩) 1 cap) q by rw [hw4]; exact hR3.setV _)
      have hF3 := HF2.out.below hb
      have HF4 := Lib.hid (hF3.keeps hk4 (by show ¬ q = r; omega) (by show ¬ z = r; omega) (by show ¬ gw = r; omega) (by show ¬ gl = r; omega))
      have HK4 := Lib.hid (((HK2.out.trans (Keeps.of_below hb)).sub (T := fun k => k = z ∨ k = gw ∨ k = r) fun k _ e => by rcases e with e | e; exact .inl e; exact .inr (.inl e)).trans (hk4.sub fun k _ e => .inr (.inr e)))
      have hgr : g ≠ r := by have := HR2.out.lt; omega
      have HV4 := Lib.hid (VV.owns (S := S) (hk4.row ho (by intro x hx; simp [Value.ownBlock] at hx; show ¬ x = r; omega)) (by rw [List.length_append, ← HN.out]; rfl) (fun k hk => Nat.lt_of_lt_of_le (hSW k hk) HSZ.out))
      rw [← hw4]
      clear hw4 hk4 hF3 hR3 ho hb hg hgr c5 m5' k5 m5
      refine (goOn_c r q a f m ph b t (some ⟨g, 0, none⟩) 1 cap w4 HR4.out).mono ?_
      rintro e w5 ⟨rfl, hR5, hk5⟩
      have HR5 := Lib.hid hR5
      have HF5 := Lib.hid (HF4.out.keeps hk5 (by show ¬ q = r; omega) (by show ¬ z = r; omega) (by show ¬ gw = r; omega) (by show ¬ gl = r; omega))
      have HK5 := Lib.hid (HK4.out.trans (hk5.sub fun k _ e => .inr (.inr e)))
      have HV5 := Lib.hid (HV4.out.keeps hk5 (fun k e => hS k (.inr (.inr e))))
      clear hR5 hk5 HR4 HF4 HK4 HV4
      go_wp2
      exact bodyPost_ret (v := .bool true) (by simp [results, Try.results66, go_sem]) rfl ⟨rfl, HF5.out, ⟨_, HR5.out, HV5.out⟩, HK5.out⟩
    · go_wp2_with (with_reducible refine wpList_append_by (o := ⟨some 39, _, _, _, _, _⟩) (w1.alloc (.cells #[.int .u64 h] 27)) rfl (.tmp 36) (.tmp 38) 24 24 rfl (.slice (some ⟨b0, off, none⟩) n n) (.slice (some ⟨w1.heap.size, 0, none⟩) 1 1) rfl rfl (fun v' w' => ∃ g cap, v' = .slice (some ⟨g, 0, none⟩) (n + 1) cap ∧ w2.heap.size ≤ g ∧ w'.ownsRow w2.heap.size 27 1 (.slice (some ⟨g, 0, none⟩) (n + 1) cap) (n + 1) ((vs ++ [h]).map (Value.int .u64)) ∧ Below w2.heap.size w2 w') HAP.out ?_; rintro v' w3 ⟨g, cap, rfl, hg, ho, hb⟩; have hR3 := HR2.out.below hb; have c5 := hR3.cells.2.2.1; have m5' := hR3.marks 5)
      obtain ⟨w4, hw4⟩ : ∃ X : World, X = w3.setCell ⟨r, 5, none⟩ (.slice (some ⟨g, 0, none⟩) (n + 1) cap) := ⟨_, rfl⟩
      have hk4 : Keeps (fun k => k = r) w3 w4 := by rw [hw4]; exact Keeps.setCell w3 (S := (· = r)) (p := ⟨r, 5, none⟩) rfl _
      have HR4 := Lib.hid (show RBox w4 r ⟨a, f, m, ph, b, t⟩ (.slice (some ⟨g, 0, none⟩) (n + 1) cap) q by rw [hw4]; exact hR3.setV _)
      have hF3 := HF2.out.below hb
      have HF4 := Lib.hid (hF3.keeps hk4 (by show ¬ q = r; omega) (by show ¬ z = r; omega) (by show ¬ gw = r; omega) (by show ¬ gl = r; omega))
      have HK4 := Lib.hid (((HK2.out.trans (Keeps.of_below hb)).sub (T := fun k => k = z ∨ k = gw ∨ k = r) fun k _ e => by rcases e with e | e; exact .inl e; exact .inr (.inl e)).trans (hk4.sub fun k _ e => .inr (.inr e)))
      have hgr : g ≠ r := by have := HR2.out.lt; omega
      have HV4 := Lib.hid (VV.owns (S := S) (hk4.row ho (by intro x hx; simp [Value.ownBlock] at hx; show ¬ x = r; omega)) (by rw [List.length_append, ← HN.out]; rfl) (fun k hk => Nat.lt_of_lt_of_le (hSW k hk) HSZ.out))
      rw [← hw4]
      clear hw4 hk4 hF3 hR3 ho hb hg hgr c5 m5' k5 m5
      refine (goOn_c r q a f m ph b t (some ⟨g, 0, none⟩) (n + 1) cap w4 HR4.out).mono ?_
      rintro e w5 ⟨rfl, hR5, hk5⟩
      have HR5 := Lib.hid hR5
      have HF5 := Lib.hid (HF4.out.keeps hk5 (by show ¬ q = r; omega) (by show ¬ z = r; omega) (by show ¬ gw = r; omega) (by show ¬ gl = r; omega))
      have HK5 := Lib.hid (HK4.out.trans (hk5.sub fun k _ e => .inr (.inr e)))
      have HV5 := Lib.hid (HV4.out.keeps hk5 (fun k e => hS k (.inr (.inr e))))
      clear hR5 hk5 HR4 HF4 HK4 HV4
      go_wp2
      exact bodyPost_ret (v := .bool true) (by simp [results, Try.results66, go_sem]) rfl ⟨rfl, HF5.out, ⟨_, HR5.out, HV5.out⟩, HK5.out⟩

end Go.Proofs.Ytaljpggajpoalaa
/-
  close, of a reader of package seq.
  Conditions: the memory may be, the read may be.
-/
namespace Go.Proofs.Ytaljpggajpoalaa
open Go.RowKit Go.Shelf
attribute [local go_sem] Oper.semAt_some

set_option maxRecDepth 100000 in
set_option maxHeartbeats 4000000 in
theorem rclose_no (B q z gw gl cw cl r : Nat) (us : List Int) (ms : List Bool) (u : Bool) (a f m ph b t : Int) (v : Value) (W : World) (hF : AccF B q z gw gl cw cl us ms u W) (hR : RBox W r ⟨a, f, m, ph, b, t⟩ v q) (hr : rightB us ms = true) (ha : 0 ≤ a) (hm : a ≤ 4096) (us' : List Int) (u' : Bool) (h : Int)  (hacc : accM us ms u 1 (a) 0 0 = (us', u', h, false)) :
    Calls Try.prog 67 #[.pointer (some ⟨r, 0, none⟩)] W fun e w' => MDone B q z gw gl cw cl r us' ms u' false ⟨a, f, m, ph, b, t⟩ v W e w' := by
  obtain ⟨nq, nz, nw, nl⟩ := hF.apart hR
  have HC := Lib.hid (fun (Z : World) (hz : AccF B q z gw gl cw cl us ms u Z) => hacc ▸ qload_c B q z gw gl cw cl us ms u (a) Z hz hr (by omega) (by omega))
  have HF := Lib.hid hF
  have HR := Lib.hid hR
  obtain ⟨⟨h0, h1, h2, h3⟩, h4, h5, h6, h7⟩ := hR.cells
  dsimp only at h0 h1 h2 h3 h4 h6
  clear hF hR hr hacc h1 h2 h3 h4 h5 h6
  go_enter Try.func67, Try.ntmps67
  go_upto_region 1 with fail
  go_region_held3 (fun w' => w'.cell? ⟨r, 0, none⟩ = some (.int .i64 a) ∧ w'.cell? ⟨r, 7, none⟩ = some (accV q))
    (first
      | exact ⟨h0, h7⟩
      | go_keep
      | (go_split_ands; exact ⟨hk1.cell (by assumption) (by show ¬ (r = z ∨ r = gw); omega), hk1.cell (by assumption) (by show ¬ (r = z ∨ r = gw); omega)⟩))
    (first | (go_at_call 82; refine (HC.out _ HF.out.drew).mono ?_; rintro e w1 ⟨rfl, hF1, hk1⟩))
  all_goals
    have HF1 := Lib.hid hF1
    have HK1 := Lib.hid ((Keeps.drewN (Keeps.refl (fun k => k = z ∨ k = gw) W) 1).trans hk1)
    have HR1 := Lib.hid (HR.out.keeps HK1.out (by show ¬ (r = z ∨ r = gw); omega))
    clear hF1 hk1 HC HF HR h0 h7
    rename_i hHeld
    clear hHeld
    go_wp2
    exact bodyPost_ret (v := .bool false) (by simp [results, Try.results67, go_sem]) rfl ⟨rfl, HF1.out, HR1.out, HK1.out.sub fun k _ e => by rcases e with e | e; exact .inl e; exact .inr (.inl e)⟩
set_option maxRecDepth 100000 in
set_option maxHeartbeats 4000000 in
theorem rclose_eq (B q z gw gl cw cl r : Nat) (us : List Int) (ms : List Bool) (u : Bool) (a f m ph b t : Int) (v : Value) (W : World) (hF : AccF B q z gw gl cw cl us ms u W) (hR : RBox W r ⟨a, f, m, ph, b, t⟩ v q) (hr : rightB us ms = true) (ha : 0 ≤ a) (hm : a ≤ 4096) (us' : List Int) (u' : Bool) (h : Int) (hh : h = b) (hacc : accM us ms u 1 (a) 0 0 = (us', u', h, true)) :
    Calls Try.prog 67 #[.pointer (some ⟨r, 0, none⟩)] W fun e w' => MDone B q z gw gl cw cl r us' ms u' true ⟨a, f, m, 4, b, t⟩ v W e w' := by
  subst hh
  obtain ⟨nq, nz, nw, nl⟩ := hF.apart hR
  have HC := Lib.hid (fun (Z : World) (hz : AccF B q z gw gl cw cl us ms u Z) => hacc ▸ qload_c B q z gw gl cw cl us ms u (a) Z hz hr (by omega) (by omega))
  have HF := Lib.hid hF
  have HR := Lib.hid hR
  obtain ⟨⟨h0, h1, h2, h3⟩, h4, h5, h6, h7⟩ := hR.cells
  dsimp only at h0 h1 h2 h3 h4 h6
  clear hF hR hr hacc h1 h2 h3 h4 h5 h6
  go_enter Try.func67, Try.ntmps67
  go_upto_region 1 with fail
  go_region_held3 (fun w' => w'.cell? ⟨r, 0, none⟩ = some (.int .i64 a) ∧ w'.cell? ⟨r, 7, none⟩ = some (accV q))
    (first
      | exact ⟨h0, h7⟩
      | go_keep
      | (go_split_ands; exact ⟨hk1.cell (by assumption) (by show ¬ (r = z ∨ r = gw); omega), hk1.cell (by assumption) (by show ¬ (r = z ∨ r = gw); omega)⟩))
    (first | (go_at_call 82; refine (HC.out _ HF.out.drew).mono ?_; rintro e w1 ⟨rfl, hF1, hk1⟩))
  all_goals
    have HF1 := Lib.hid hF1
    have HK1 := Lib.hid ((Keeps.drewN (Keeps.refl (fun k => k = z ∨ k = gw) W) 1).trans hk1)
    have HR1 := Lib.hid (HR.out.keeps HK1.out (by show ¬ (r = z ∨ r = gw); omega))
    clear hF1 hk1 HC HF HR h0 h7
    rename_i hHeld
    clear hHeld
    obtain ⟨-, k4, -, k6, -⟩ := HR1.out.cells
    obtain ⟨⟨-, -, -, k3⟩, -⟩ := HR1.out.cells
    have m3 := HR1.out.marks 3
    have m6 := HR1.out.marks 6
    dsimp only at k3 k4 k6
    have HR2 := Lib.hid (HR1.out.setP 4)
    have hk2 := Keeps.setCell w1 (S := (· = r)) (p := ⟨r, 3, none⟩) rfl (.int .i64 4)
    have HF2 := Lib.hid (HF1.out.keeps hk2 (by show ¬ q = r; omega) (by show ¬ z = r; omega) (by show ¬ gw = r; omega) (by show ¬ gl = r; omega))
    have HK2 := Lib.hid ((HK1.out.sub (T := fun k => k = z ∨ k = gw ∨ k = r) fun k _ e => by rcases e with e | e; exact .inl e; exact .inr (.inl e)).trans (hk2.sub fun k _ e => .inr (.inr e)))
    clear hk2 HF1 HR1 HK1
    go_wp2
    exact bodyPost_ret (v := .bool true) (by simp [results, Try.results67, go_sem]) rfl ⟨rfl, HF2.out, HR2.out, HK2.out⟩
set_option maxRecDepth 100000 in
set_option maxHeartbeats 4000000 in
theorem rclose_lt (B q z gw gl cw cl r : Nat) (us : List Int) (ms : List Bool) (u : Bool) (a f m ph b t : Int) (v : Value) (W : World) (hF : AccF B q z gw gl cw cl us ms u W) (hR : RBox W r ⟨a, f, m, ph, b, t⟩ v q) (hr : rightB us ms = true) (ha : 0 ≤ a) (hm : a ≤ 4096) (ht0 : 0 ≤ t) (ht : t < 1073741823) (us' : List Int) (u' : Bool) (h : Int) (hh : h ≠ b) (hacc : accM us ms u 1 (a) 0 0 = (us', u', h, true)) :
    Calls Try.prog 67 #[.pointer (some ⟨r, 0, none⟩)] W fun e w' => MDone B q z gw gl cw cl r us' ms u' true ⟨a, f, m, 0, b, t + 1⟩ v W e w' := by
  have hhb : (h == b) = false := by simpa using hh
  obtain ⟨nq, nz, nw, nl⟩ := hF.apart hR
  have HC := Lib.hid (fun (Z : World) (hz : AccF B q z gw gl cw cl us ms u Z) => hacc ▸ qload_c B q z gw gl cw cl us ms u (a) Z hz hr (by omega) (by omega))
  have HF := Lib.hid hF
  have HR := Lib.hid hR
  obtain ⟨⟨h0, h1, h2, h3⟩, h4, h5, h6, h7⟩ := hR.cells
  dsimp only at h0 h1 h2 h3 h4 h6
  clear hF hR hr hacc h1 h2 h3 h4 h5 h6
  go_enter Try.func67, Try.ntmps67
  go_upto_region 1 with fail
  go_region_held3 (fun w' => w'.cell? ⟨r, 0, none⟩ = some (.int .i64 a) ∧ w'.cell? ⟨r, 7, none⟩ = some (accV q))
    (first
      | exact ⟨h0, h7⟩
      | go_keep
      | (go_split_ands; exact ⟨hk1.cell (by assumption) (by show ¬ (r = z ∨ r = gw); omega), hk1.cell (by assumption) (by show ¬ (r = z ∨ r = gw); omega)⟩))
    (first | (go_at_call 82; refine (HC.out _ HF.out.drew).mono ?_; rintro e w1 ⟨rfl, hF1, hk1⟩))
  all_goals
    have HF1 := Lib.hid hF1
    have HK1 := Lib.hid ((Keeps.drewN (Keeps.refl (fun k => k = z ∨ k = gw) W) 1).trans hk1)
    have HR1 := Lib.hid (HR.out.keeps HK1.out (by show ¬ (r = z ∨ r = gw); omega))
    clear hF1 hk1 HC HF HR h0 h7
    rename_i hHeld
    clear hHeld
    obtain ⟨-, k4, -, k6, -⟩ := HR1.out.cells
    obtain ⟨⟨-, -, -, k3⟩, -⟩ := HR1.out.cells
    have m3 := HR1.out.marks 3
    have m6 := HR1.out.marks 6
    dsimp only at k3 k4 k6
    have HR2 := Lib.hid ((HR1.out.setP 0).setT (t + 1))
    have hk2 := (Keeps.setCell w1 (S := (· = r)) (p := ⟨r, 3, none⟩) rfl (.int .i64 0)).trans (Keeps.setCell _ (S := (· = r)) (p := ⟨r, 6, none⟩) rfl (.int .i64 (t + 1)))
    have HF2 := Lib.hid (HF1.out.keeps hk2 (by show ¬ q = r; omega) (by show ¬ z = r; omega) (by show ¬ gw = r; omega) (by show ¬ gl = r; omega))
    have HK2 := Lib.hid ((HK1.out.sub (T := fun k => k = z ∨ k = gw ∨ k = r) fun k _ e => by rcases e with e | e; exact .inl e; exact .inr (.inl e)).trans (hk2.sub fun k _ e => .inr (.inr e)))
    clear hk2 HF1 HR1 HK1
    go_wp2
    exact bodyPost_ret (v := .bool true) (by simp [results, Try.results67, go_sem]) rfl ⟨rfl, HF2.out, HR2.out, HK2.out⟩
set_option maxRecDepth 100000 in
set_option maxHeartbeats 4000000 in
theorem rclose_at (B q z gw gl cw cl r : Nat) (us : List Int) (ms : List Bool) (u : Bool) (a f m ph b t : Int) (v : Value) (W : World) (hF : AccF B q z gw gl cw cl us ms u W) (hR : RBox W r ⟨a, f, m, ph, b, t⟩ v q) (hr : rightB us ms = true) (ha : 0 ≤ a) (hm : a ≤ 4096) (ht0 : 0 ≤ t) (ht : t = 1073741823) (us' : List Int) (u' : Bool) (h : Int) (hh : h ≠ b) (hacc : accM us ms u 1 (a) 0 0 = (us', u', h, true)) :
    Calls Try.prog 67 #[.pointer (some ⟨r, 0, none⟩)] W fun e w' => MDone B q z gw gl cw cl r us' ms u' true ⟨a, f, m, 0, b, 1073741824⟩ v W e w' := by
  subst ht
  have hhb : (h == b) = false := by simpa using hh
  obtain ⟨nq, nz, nw, nl⟩ := hF.apart hR
  have HC := Lib.hid (fun (Z : World) (hz : AccF B q z gw gl cw cl us ms u Z) => hacc ▸ qload_c B q z gw gl cw cl us ms u (a) Z hz hr (by omega) (by omega))
  have HF := Lib.hid hF
  have HR := Lib.hid hR
  obtain ⟨⟨h0, h1, h2, h3⟩, h4, h5, h6, h7⟩ := hR.cells
  dsimp only at h0 h1 h2 h3 h4 h6
  clear hF hR hr hacc h1 h2 h3 h4 h5 h6
  go_enter Try.func67, Try.ntmps67
  go_upto_region 1 with fail
  go_region_held3 (fun w' => w'.cell? ⟨r, 0, none⟩ = some (.int .i64 a) ∧ w'.cell? ⟨r, 7, none⟩ = some (accV q))
    (first
      | exact ⟨h0, h7⟩
      | go_keep
      | (go_split_ands; exact ⟨hk1.cell (by assumption) (by show ¬ (r = z ∨ r = gw); omega), hk1.cell (by assumption) (by show ¬ (r = z ∨ r = gw); omega)⟩))
    (first | (go_at_call 82; refine (HC.out _ HF.out.drew).mono ?_; rintro e w1 ⟨rfl, hF1, hk1⟩))
  all_goals
    have HF1 := Lib.hid hF1
    have HK1 := Lib.hid ((Keeps.drewN (Keeps.refl (fun k => k = z ∨ k = gw) W) 1).trans hk1)
    have HR1 := Lib.hid (HR.out.keeps HK1.out (by show ¬ (r = z ∨ r = gw); omega))
    clear hF1 hk1 HC HF HR h0 h7
    rename_i hHeld
    clear hHeld
    obtain ⟨-, k4, -, k6, -⟩ := HR1.out.cells
    obtain ⟨⟨-, -, -, k3⟩, -⟩ := HR1.out.cells
    have m3 := HR1.out.marks 3
    have m6 := HR1.out.marks 6
    dsimp only at k3 k4 k6
    have HR2 := Lib.hid ((HR1.out.setP 0).setT (1073741824))
    have hk2 := (Keeps.setCell w1 (S := (· = r)) (p := ⟨r, 3, none⟩) rfl (.int .i64 0)).trans (Keeps.setCell _ (S := (· = r)) (p := ⟨r, 6, none⟩) rfl (.int .i64 (1073741824)))
    have HF2 := Lib.hid (HF1.out.keeps hk2 (by show ¬ q = r; omega) (by show ¬ z = r; omega) (by show ¬ gw = r; omega) (by show ¬ gl = r; omega))
    have HK2 := Lib.hid ((HK1.out.sub (T := fun k => k = z ∨ k = gw ∨ k = r) fun k _ e => by rcases e with e | e; exact .inl e; exact .inr (.inl e)).trans (hk2.sub fun k _ e => .inr (.inr e)))
    clear hk2 HF1 HR1 HK1
    go_wp2
    exact bodyPost_ret (v := .bool true) (by simp [results, Try.results67, go_sem]) rfl ⟨rfl, HF2.out, HR2.out, HK2.out⟩
set_option maxRecDepth 100000 in
set_option maxHeartbeats 4000000 in
theorem rclose_ge (B q z gw gl cw cl r : Nat) (us : List Int) (ms : List Bool) (u : Bool) (a f m ph b t : Int) (v : Value) (W : World) (hF : AccF B q z gw gl cw cl us ms u W) (hR : RBox W r ⟨a, f, m, ph, b, t⟩ v q) (hr : rightB us ms = true) (ha : 0 ≤ a) (hm : a ≤ 4096) (ht0 : 0 ≤ t) (ht : t = 1073741824) (us' : List Int) (u' : Bool) (h : Int) (hh : h ≠ b) (hacc : accM us ms u 1 (a) 0 0 = (us', u', h, true)) :
    Calls Try.prog 67 #[.pointer (some ⟨r, 0, none⟩)] W fun e w' => MDone B q z gw gl cw cl r us' ms u' true ⟨a, f, m, 0, b, 1073741824⟩ v W e w' := by
  subst ht
  have hhb : (h == b) = false := by simpa using hh
  obtain ⟨nq, nz, nw, nl⟩ := hF.apart hR
  have HC := Lib.hid (fun (Z : World) (hz : AccF B q z gw gl cw cl us ms u Z) => hacc ▸ qload_c B q z gw gl cw cl us ms u (a) Z hz hr (by omega) (by omega))
  have HF := Lib.hid hF
  have HR := Lib.hid hR
  obtain ⟨⟨h0, h1, h2, h3⟩, h4, h5, h6, h7⟩ := hR.cells
  dsimp only at h0 h1 h2 h3 h4 h6
  clear hF hR hr hacc h1 h2 h3 h4 h5 h6
  go_enter Try.func67, Try.ntmps67
  go_upto_region 1 with fail
  go_region_held3 (fun w' => w'.cell? ⟨r, 0, none⟩ = some (.int .i64 a) ∧ w'.cell? ⟨r, 7, none⟩ = some (accV q))
    (first
      | exact ⟨h0, h7⟩
      | go_keep
      | (go_split_ands; exact ⟨hk1.cell (by assumption) (by show ¬ (r = z ∨ r = gw); omega), hk1.cell (by assumption) (by show ¬ (r = z ∨ r = gw); omega)⟩))
    (first | (go_at_call 82; refine (HC.out _ HF.out.drew).mono ?_; rintro e w1 ⟨rfl, hF1, hk1⟩))
  all_goals
    have HF1 := Lib.hid hF1
    have HK1 := Lib.hid ((Keeps.drewN (Keeps.refl (fun k => k = z ∨ k = gw) W) 1).trans hk1)
    have HR1 := Lib.hid (HR.out.keeps HK1.out (by show ¬ (r = z ∨ r = gw); omega))
    clear hF1 hk1 HC HF HR h0 h7
    rename_i hHeld
    clear hHeld
    obtain ⟨-, k4, -, k6, -⟩ := HR1.out.cells
    obtain ⟨⟨-, -, -, k3⟩, -⟩ := HR1.out.cells
    have m3 := HR1.out.marks 3
    have m6 := HR1.out.marks 6
    dsimp only at k3 k4 k6
    have HR2 := Lib.hid ((HR1.out.setP 0).setT (1073741824))
    have hk2 := (Keeps.setCell w1 (S := (· = r)) (p := ⟨r, 3, none⟩) rfl (.int .i64 0)).trans (Keeps.setCell _ (S := (· = r)) (p := ⟨r, 6, none⟩) rfl (.int .i64 (1073741824)))
    have HF2 := Lib.hid (HF1.out.keeps hk2 (by show ¬ q = r; omega) (by show ¬ z = r; omega) (by show ¬ gw = r; omega) (by show ¬ gl = r; omega))
    have HK2 := Lib.hid ((HK1.out.sub (T := fun k => k = z ∨ k = gw ∨ k = r) fun k _ e => by rcases e with e | e; exact .inl e; exact .inr (.inl e)).trans (hk2.sub fun k _ e => .inr (.inr e)))
    clear hk2 HF1 HR1 HK1
    go_wp2
    exact bodyPost_ret (v := .bool true) (by simp [results, Try.results67, go_sem]) rfl ⟨rfl, HF2.out, HR2.out, HK2.out⟩

end Go.Proofs.Ytaljpggajpoalaa
/-
  step, of package seq: what stands in a map at a phase is done.
  Conditions: what is done has its contract.
-/
namespace Go.Proofs.Ytaljpggajpoalaa
open Go.RowKit Go.Shelf
attribute [local go_sem] Oper.semAt_some

set_option maxRecDepth 100000 in
set_option maxHeartbeats 4000000 in
theorem step_miss (r mb : Nat) (p : Int) (es : Array MapEntry) (clock : Nat) (W : World) (hc : W.cell? ⟨r, 3, none⟩ = some (.int .i64 p)) (hb : W.heap[mb]? = some (.map es clock)) (hf : Instr.findNow (.int .i64) (.int .i64 p) es.toList 0 = some none) :
    Calls Try.prog 47 #[.pointer (some ⟨r, 3, none⟩), .map (some mb)] W fun e w' => e = .returned (.tuple #[]) ∧ w' = W := by
  have hl := emap_miss W mb clock p es hb hf
  clear hb hf
  go_enter Try.func47, Try.ntmps47
  go_wp2
  exact bodyPost_end (v := .tuple #[]) (by simp [results, Try.results47, go_sem]) rfl ⟨rfl, rfl⟩

-- methods
set_option maxRecDepth 100000 in
set_option maxHeartbeats 4000000 in
theorem step_rbegin (r mb : Nat) (p : Int) (es : Array MapEntry) (clock i : Nat) (R : Bool → World → Prop) (W : World) (hc : W.cell? ⟨r, 3, none⟩ = some (.int .i64 p)) (hb : W.heap[mb]? = some (.map es clock)) (hf : Instr.findNow (.int .i64) (.int .i64 p) es.toList 0 = some (some (i, .func (.func 65) #[.pointer (some ⟨r, 0, none⟩)] #[])))
    (hC : Calls Try.prog 65 #[.pointer (some ⟨r, 0, none⟩)] W fun e w' => ∃ d, e = .returned (.bool d) ∧ R d w') (hR : ∀ w', R false w' → ∃ c, w'.cell? ⟨r, 3, none⟩ = some c ∧ w'.frozen? ⟨r, 3, none⟩ = false) :
    Calls Try.prog 47 #[.pointer (some ⟨r, 3, none⟩), .map (some mb)] W fun e w' => e = .returned (.tuple #[]) ∧ ∃ w1, (R true w1 ∧ w' = w1) ∨ (R false w1 ∧ w' = w1.setCell ⟨r, 3, none⟩ (.int .i64 5)) := by
  have hl := emap_get W mb clock p es _ i hb hf
  have HC := Lib.hid hC
  clear hb hf hC
  go_enter Try.func47, Try.ntmps47
  go_wp2_with fail
  refine HC.out.mono ?_
  rintro e w1 ⟨d, rfl, h1⟩
  clear HC
  cases d with
  | true =>
    have H1 := Lib.hid h1
    clear h1
    go_wp2
    exact bodyPost_end (v := .tuple #[]) (by simp [results, Try.results47, go_sem]) rfl ⟨rfl, w1, .inl ⟨H1.out, rfl⟩⟩
  | false =>
    obtain ⟨c, k3, m3⟩ := hR w1 h1
    have H1 := Lib.hid h1
    clear h1
    go_wp2
    exact bodyPost_end (v := .tuple #[]) (by simp [results, Try.results47, go_sem]) rfl ⟨rfl, w1, .inr ⟨H1.out, rfl⟩⟩
set_option maxRecDepth 100000 in
set_option maxHeartbeats 4000000 in
theorem step_rnext (r mb : Nat) (p : Int) (es : Array MapEntry) (clock i : Nat) (R : Bool → World → Prop) (W : World) (hc : W.cell? ⟨r, 3, none⟩ = some (.int .i64 p)) (hb : W.heap[mb]? = some (.map es clock)) (hf : Instr.findNow (.int .i64) (.int .i64 p) es.toList 0 = some (some (i, .func (.func 66) #[.pointer (some ⟨r, 0, none⟩)] #[])))
    (hC : Calls Try.prog 66 #[.pointer (some ⟨r, 0, none⟩)] W fun e w' => ∃ d, e = .returned (.bool d) ∧ R d w') (hR : ∀ w', R false w' → ∃ c, w'.cell? ⟨r, 3, none⟩ = some c ∧ w'.frozen? ⟨r, 3, none⟩ = false) :
    Calls Try.prog 47 #[.pointer (some ⟨r, 3, none⟩), .map (some mb)] W fun e w' => e = .returned (.tuple #[]) ∧ ∃ w1, (R true w1 ∧ w' = w1) ∨ (R false w1 ∧ w' = w1.setCell ⟨r, 3, none⟩ (.int .i64 5)) := by
  have hl := emap_get W mb clock p es _ i hb hf
  have HC := Lib.hid hC
  clear hb hf hC
  go_enter Try.func47, Try.ntmps47
  go_wp2_with fail
  refine HC.out.mono ?_
  rintro e w1 ⟨d, rfl, h1⟩
  clear HC
  cases d with
  | true =>
    have H1 := Lib.hid h1
    clear h1
    go_wp2
    exact bodyPost_end (v := .tuple #[]) (by simp [results, Try.results47, go_sem]) rfl ⟨rfl, w1, .inl ⟨H1.out, rfl⟩⟩
  | false =>
    obtain ⟨c, k3, m3⟩ := hR w1 h1
    have H1 := Lib.hid h1
    clear h1
    go_wp2
    exact bodyPost_end (v := .tuple #[]) (by simp [results, Try.results47, go_sem]) rfl ⟨rfl, w1, .inr ⟨H1.out, rfl⟩⟩
set_option maxRecDepth 100000 in
set_option maxHeartbeats 4000000 in
theorem step_rclose (r mb : Nat) (p : Int) (es : Array MapEntry) (clock i : Nat) (R : Bool → World → Prop) (W : World) (hc : W.cell? ⟨r, 3, none⟩ = some (.int .i64 p)) (hb : W.heap[mb]? = some (.map es clock)) (hf : Instr.findNow (.int .i64) (.int .i64 p) es.toList 0 = some (some (i, .func (.func 67) #[.pointer (some ⟨r, 0, none⟩)] #[])))
    (hC : Calls Try.prog 67 #[.pointer (some ⟨r, 0, none⟩)] W fun e w' => ∃ d, e = .returned (.bool d) ∧ R d w') (hR : ∀ w', R false w' → ∃ c, w'.cell? ⟨r, 3, none⟩ = some c ∧ w'.frozen? ⟨r, 3, none⟩ = false) :
    Calls Try.prog 47 #[.pointer (some ⟨r, 3, none⟩), .map (some mb)] W fun e w' => e = .returned (.tuple #[]) ∧ ∃ w1, (R true w1 ∧ w' = w1) ∨ (R false w1 ∧ w' = w1.setCell ⟨r, 3, none⟩ (.int .i64 5)) := by
  have hl := emap_get W mb clock p es _ i hb hf
  have HC := Lib.hid hC
  clear hb hf hC
  go_enter Try.func47, Try.ntmps47
  go_wp2_with fail
  refine HC.out.mono ?_
  rintro e w1 ⟨d, rfl, h1⟩
  clear HC
  cases d with
  | true =>
    have H1 := Lib.hid h1
    clear h1
    go_wp2
    exact bodyPost_end (v := .tuple #[]) (by simp [results, Try.results47, go_sem]) rfl ⟨rfl, w1, .inl ⟨H1.out, rfl⟩⟩
  | false =>
    obtain ⟨c, k3, m3⟩ := hR w1 h1
    have H1 := Lib.hid h1
    clear h1
    go_wp2
    exact bodyPost_end (v := .tuple #[]) (by simp [results, Try.results47, go_sem]) rfl ⟨rfl, w1, .inr ⟨H1.out, rfl⟩⟩
set_option maxRecDepth 100000 in
set_option maxHeartbeats 4000000 in
theorem step_wbegin (r mb : Nat) (p : Int) (es : Array MapEntry) (clock i : Nat) (R : Bool → World → Prop) (W : World) (hc : W.cell? ⟨r, 3, none⟩ = some (.int .i64 p)) (hb : W.heap[mb]? = some (.map es clock)) (hf : Instr.findNow (.int .i64) (.int .i64 p) es.toList 0 = some (some (i, .func (.func 69) #[.pointer (some ⟨r, 0, none⟩)] #[])))
    (hC : Calls Try.prog 69 #[.pointer (some ⟨r, 0, none⟩)] W fun e w' => ∃ d, e = .returned (.bool d) ∧ R d w') (hR : ∀ w', R false w' → ∃ c, w'.cell? ⟨r, 3, none⟩ = some c ∧ w'.frozen? ⟨r, 3, none⟩ = false) :
    Calls Try.prog 47 #[.pointer (some ⟨r, 3, none⟩), .map (some mb)] W fun e w' => e = .returned (.tuple #[]) ∧ ∃ w1, (R true w1 ∧ w' = w1) ∨ (R false w1 ∧ w' = w1.setCell ⟨r, 3, none⟩ (.int .i64 5)) := by
  have hl := emap_get W mb clock p es _ i hb hf
  have HC := Lib.hid hC
  clear hb hf hC
  go_enter Try.func47, Try.ntmps47
  go_wp2_with fail
  refine HC.out.mono ?_
  rintro e w1 ⟨d, rfl, h1⟩
  clear HC
  cases d with
  | true =>
    have H1 := Lib.hid h1
    clear h1
    go_wp2
    exact bodyPost_end (v := .tuple #[]) (by simp [results, Try.results47, go_sem]) rfl ⟨rfl, w1, .inl ⟨H1.out, rfl⟩⟩
  | false =>
    obtain ⟨c, k3, m3⟩ := hR w1 h1
    have H1 := Lib.hid h1
    clear h1
    go_wp2
    exact bodyPost_end (v := .tuple #[]) (by simp [results, Try.results47, go_sem]) rfl ⟨rfl, w1, .inr ⟨H1.out, rfl⟩⟩
set_option maxRecDepth 100000 in
set_option maxHeartbeats 4000000 in
theorem step_wopen (r mb : Nat) (p : Int) (es : Array MapEntry) (clock i : Nat) (R : Bool → World → Prop) (W : World) (hc : W.cell? ⟨r, 3, none⟩ = some (.int .i64 p)) (hb : W.heap[mb]? = some (.map es clock)) (hf : Instr.findNow (.int .i64) (.int .i64 p) es.toList 0 = some (some (i, .func (.func 70) #[.pointer (some ⟨r, 0, none⟩)] #[])))
    (hC : Calls Try.prog 70 #[.pointer (some ⟨r, 0, none⟩)] W fun e w' => ∃ d, e = .returned (.bool d) ∧ R d w') (hR : ∀ w', R false w' → ∃ c, w'.cell? ⟨r, 3, none⟩ = some c ∧ w'.frozen? ⟨r, 3, none⟩ = false) :
    Calls Try.prog 47 #[.pointer (some ⟨r, 3, none⟩), .map (some mb)] W fun e w' => e = .returned (.tuple #[]) ∧ ∃ w1, (R true w1 ∧ w' = w1) ∨ (R false w1 ∧ w' = w1.setCell ⟨r, 3, none⟩ (.int .i64 5)) := by
  have hl := emap_get W mb clock p es _ i hb hf
  have HC := Lib.hid hC
  clear hb hf hC
  go_enter Try.func47, Try.ntmps47
  go_wp2_with fail
  refine HC.out.mono ?_
  rintro e w1 ⟨d, rfl, h1⟩
  clear HC
  cases d with
  | true =>
    have H1 := Lib.hid h1
    clear h1
    go_wp2
    exact bodyPost_end (v := .tuple #[]) (by simp [results, Try.results47, go_sem]) rfl ⟨rfl, w1, .inl ⟨H1.out, rfl⟩⟩
  | false =>
    obtain ⟨c, k3, m3⟩ := hR w1 h1
    have H1 := Lib.hid h1
    clear h1
    go_wp2
    exact bodyPost_end (v := .tuple #[]) (by simp [results, Try.results47, go_sem]) rfl ⟨rfl, w1, .inr ⟨H1.out, rfl⟩⟩
set_option maxRecDepth 100000 in
set_option maxHeartbeats 4000000 in
theorem step_wnext (r mb : Nat) (p : Int) (es : Array MapEntry) (clock i : Nat) (R : Bool → World → Prop) (W : World) (hc : W.cell? ⟨r, 3, none⟩ = some (.int .i64 p)) (hb : W.heap[mb]? = some (.map es clock)) (hf : Instr.findNow (.int .i64) (.int .i64 p) es.toList 0 = some (some (i, .func (.func 71) #[.pointer (some ⟨r, 0, none⟩)] #[])))
    (hC : Calls Try.prog 71 #[.pointer (some ⟨r, 0, none⟩)] W fun e w' => ∃ d, e = .returned (.bool d) ∧ R d w') (hR : ∀ w', R false w' → ∃ c, w'.cell? ⟨r, 3, none⟩ = some c ∧ w'.frozen? ⟨r, 3, none⟩ = false) :
    Calls Try.prog 47 #[.pointer (some ⟨r, 3, none⟩), .map (some mb)] W fun e w' => e = .returned (.tuple #[]) ∧ ∃ w1, (R true w1 ∧ w' = w1) ∨ (R false w1 ∧ w' = w1.setCell ⟨r, 3, none⟩ (.int .i64 5)) := by
  have hl := emap_get W mb clock p es _ i hb hf
  have HC := Lib.hid hC
  clear hb hf hC
  go_enter Try.func47, Try.ntmps47
  go_wp2_with fail
  refine HC.out.mono ?_
  rintro e w1 ⟨d, rfl, h1⟩
  clear HC
  cases d with
  | true =>
    have H1 := Lib.hid h1
    clear h1
    go_wp2
    exact bodyPost_end (v := .tuple #[]) (by simp [results, Try.results47, go_sem]) rfl ⟨rfl, w1, .inl ⟨H1.out, rfl⟩⟩
  | false =>
    obtain ⟨c, k3, m3⟩ := hR w1 h1
    have H1 := Lib.hid h1
    clear h1
    go_wp2
    exact bodyPost_end (v := .tuple #[]) (by simp [results, Try.results47, go_sem]) rfl ⟨rfl, w1, .inr ⟨H1.out, rfl⟩⟩
set_option maxRecDepth 100000 in
set_option maxHeartbeats 4000000 in
theorem step_wclose (r mb : Nat) (p : Int) (es : Array MapEntry) (clock i : Nat) (R : Bool → World → Prop) (W : World) (hc : W.cell? ⟨r, 3, none⟩ = some (.int .i64 p)) (hb : W.heap[mb]? = some (.map es clock)) (hf : Instr.findNow (.int .i64) (.int .i64 p) es.toList 0 = some (some (i, .func (.func 72) #[.pointer (some ⟨r, 0, none⟩)] #[])))
    (hC : Calls Try.prog 72 #[.pointer (some ⟨r, 0, none⟩)] W fun e w' => ∃ d, e = .returned (.bool d) ∧ R d w') (hR : ∀ w', R false w' → ∃ c, w'.cell? ⟨r, 3, none⟩ = some c ∧ w'.frozen? ⟨r, 3, none⟩ = false) :
    Calls Try.prog 47 #[.pointer (some ⟨r, 3, none⟩), .map (some mb)] W fun e w' => e = .returned (.tuple #[]) ∧ ∃ w1, (R true w1 ∧ w' = w1) ∨ (R false w1 ∧ w' = w1.setCell ⟨r, 3, none⟩ (.int .i64 5)) := by
  have hl := emap_get W mb clock p es _ i hb hf
  have HC := Lib.hid hC
  clear hb hf hC
  go_enter Try.func47, Try.ntmps47
  go_wp2_with fail
  refine HC.out.mono ?_
  rintro e w1 ⟨d, rfl, h1⟩
  clear HC
  cases d with
  | true =>
    have H1 := Lib.hid h1
    clear h1
    go_wp2
    exact bodyPost_end (v := .tuple #[]) (by simp [results, Try.results47, go_sem]) rfl ⟨rfl, w1, .inl ⟨H1.out, rfl⟩⟩
  | false =>
    obtain ⟨c, k3, m3⟩ := hR w1 h1
    have H1 := Lib.hid h1
    clear h1
    go_wp2
    exact bodyPost_end (v := .tuple #[]) (by simp [results, Try.results47, go_sem]) rfl ⟨rfl, w1, .inr ⟨H1.out, rfl⟩⟩

end Go.Proofs.Ytaljpggajpoalaa
/-
  A step of a reader of package seq, as plain mathematics says it.
  Conditions: the memory may be, the read may be.
-/
namespace Go.Proofs.Ytaljpggajpoalaa
open Go.RowKit Go.Shelf

/-- A method value of a pointer. -/
def bmV (f : FuncId) (r : Nat) : Value := .func (.func f) #[.pointer (some ⟨r, 0, none⟩)] #[]
def rmap (r : Nat) : Obj := map3 (bmV 65 r) (bmV 66 r) (bmV 67 r)
/-- A memory's words, its fault, a read, and what it has read, as they lie. -/
def RS (B q z gw gl cw cl r : Nat) (S : Nat → Prop) (ms : List Bool) (x : (List Int × Bool) × RdM × List Int) (w : World) : Prop :=
  AccF B q z gw gl cw cl x.1.1 ms x.1.2 w ∧ ∃ v, RBox w r x.2.1 v q ∧ VV S w v x.2.2
theorem RS.put5 {B q z gw gl cw cl r : Nat} {S : Nat → Prop} {ms : List Bool} {x : (List Int × Bool) × RdM × List Int} {w : World} (h : RS B q z gw gl cw cl r S ms x w) (hS : S r) :
    RS B q z gw gl cw cl r S ms (x.1, { x.2.1 with p := 5 }, x.2.2) (w.setCell ⟨r, 3, none⟩ (.int .i64 5)) ∧ Keeps (fun k => k = r) w (w.setCell ⟨r, 3, none⟩ (.int .i64 5)) := by
  obtain ⟨hF, v, hR, hV⟩ := h
  obtain ⟨nq, nz, nw, nl⟩ := hF.apart hR
  have hk : Keeps (fun k => k = r) w (w.setCell ⟨r, 3, none⟩ (.int .i64 5)) := Keeps.setCell w (S := (· = r)) (p := ⟨r, 3, none⟩) rfl _
  exact ⟨⟨hF.keeps hk (fun e => nq e.symm) (fun e => nz e.symm) (fun e => nw e.symm) (fun e => nl e.symm), v, hR.setP 5, hV.keeps hk (fun k e => e ▸ hS)⟩, hk⟩
theorem RS.cell {B q z gw gl cw cl r : Nat} {S : Nat → Prop} {ms : List Bool} {x : (List Int × Bool) × RdM × List Int} {w : World} (h : RS B q z gw gl cw cl r S ms x w) : w.cell? ⟨r, 3, none⟩ = some (.int .i64 x.2.1.p) ∧ w.frozen? ⟨r, 3, none⟩ = false := by
  obtain ⟨hF, v, hR, hV⟩ := h
  exact ⟨hR.cells.1.2.2.2, hR.marks 3⟩
theorem acc_range {us us' : List Int} {ms : List Bool} {u u' d : Bool} {k a o n h : Int} (hw : WRange us) (ha : accM us ms u k a o n = (us', u', h, d)) : 0 ≤ h ∧ h ≤ 18446744073709551615 := by
  have hg : ∀ i, 0 ≤ us.getD i 0 ∧ us.getD i 0 ≤ 18446744073709551615 := by
    intro i
    rw [List.getD_eq_getElem?_getD]
    cases e : us[i]? with
    | none => simp
    | some x => exact hw x (List.mem_of_getElem? e)
  have e : h = (accM us ms u k a o n).2.2.1 := by rw [ha]
  rw [e]
  unfold accM
  split
  · split
    · exact hg _
    · split <;> exact hg _
  · simp
theorem rs_begin_t (B q z gw gl cw cl r mb : Nat) (S : Nat → Prop) (ms : List Bool) (x : (List Int × Bool) × RdM × List Int) (W : World) (hc : W.cell? ⟨r, 3, none⟩ = some (.int .i64 0)) (hM : W.heap[mb]? = some (rmap r))
    (hC : Calls Try.prog 65 #[.pointer (some ⟨r, 0, none⟩)] W fun e w' => e = .returned (.bool true) ∧ RS B q z gw gl cw cl r S ms x w' ∧ Keeps (fun k => k = z ∨ k = gw ∨ k = r) W w') :
    Calls Try.prog 47 #[.pointer (some ⟨r, 3, none⟩), .map (some mb)] W fun e w' => e = .returned (.tuple #[]) ∧ RS B q z gw gl cw cl r S ms x w' ∧ Keeps (fun k => k = z ∨ k = gw ∨ k = r) W w' :=
  (step_rbegin r mb 0 _ 3 0 (fun d w' => d = true ∧ RS B q z gw gl cw cl r S ms x w' ∧ Keeps (fun k => k = z ∨ k = gw ∨ k = r) W w') W hc hM rfl (hC.mono fun e w' h => ⟨true, h.1, rfl, h.2⟩) (fun w' h => by cases h.1)).mono fun e w' h => by
    obtain ⟨rfl, w1, ⟨h1, rfl⟩ | ⟨h1, _⟩⟩ := h
    · exact ⟨rfl, h1.2⟩
    · cases h1.1
theorem rs_begin_f (B q z gw gl cw cl r mb : Nat) (S : Nat → Prop) (ms : List Bool) (x : (List Int × Bool) × RdM × List Int) (W : World) (hS : S r) (hc : W.cell? ⟨r, 3, none⟩ = some (.int .i64 0)) (hM : W.heap[mb]? = some (rmap r))
    (hC : Calls Try.prog 65 #[.pointer (some ⟨r, 0, none⟩)] W fun e w' => e = .returned (.bool false) ∧ RS B q z gw gl cw cl r S ms x w' ∧ Keeps (fun k => k = z ∨ k = gw ∨ k = r) W w') :
    Calls Try.prog 47 #[.pointer (some ⟨r, 3, none⟩), .map (some mb)] W fun e w' => e = .returned (.tuple #[]) ∧ RS B q z gw gl cw cl r S ms (x.1, { x.2.1 with p := 5 }, x.2.2) w' ∧ Keeps (fun k => k = z ∨ k = gw ∨ k = r) W w' :=
  (step_rbegin r mb 0 _ 3 0 (fun d w' => d = false ∧ RS B q z gw gl cw cl r S ms x w' ∧ Keeps (fun k => k = z ∨ k = gw ∨ k = r) W w') W hc hM rfl (hC.mono fun e w' h => ⟨false, h.1, rfl, h.2⟩) (fun w' h => ⟨_, h.2.1.cell.1, h.2.1.cell.2⟩)).mono fun e w' h => by
    obtain ⟨rfl, w1, ⟨h1, rfl⟩ | ⟨h1, rfl⟩⟩ := h
    · cases h1.1
    · have hp := h1.2.1.put5 hS
      exact ⟨rfl, hp.1, h1.2.2.trans (hp.2.sub fun k _ e => .inr (.inr e))⟩
theorem rs_next_t (B q z gw gl cw cl r mb : Nat) (S : Nat → Prop) (ms : List Bool) (x : (List Int × Bool) × RdM × List Int) (W : World) (hc : W.cell? ⟨r, 3, none⟩ = some (.int .i64 2)) (hM : W.heap[mb]? = some (rmap r))
    (hC : Calls Try.prog 66 #[.pointer (some ⟨r, 0, none⟩)] W fun e w' => e = .returned (.bool true) ∧ RS B q z gw gl cw cl r S ms x w' ∧ Keeps (fun k => k = z ∨ k = gw ∨ k = r) W w') :
    Calls Try.prog 47 #[.pointer (some ⟨r, 3, none⟩), .map (some mb)] W fun e w' => e = .returned (.tuple #[]) ∧ RS B q z gw gl cw cl r S ms x w' ∧ Keeps (fun k => k = z ∨ k = gw ∨ k = r) W w' :=
  (step_rnext r mb 2 _ 3 1 (fun d w' => d = true ∧ RS B q z gw gl cw cl r S ms x w' ∧ Keeps (fun k => k = z ∨ k = gw ∨ k = r) W w') W hc hM rfl (hC.mono fun e w' h => ⟨true, h.1, rfl, h.2⟩) (fun w' h => by cases h.1)).mono fun e w' h => by
    obtain ⟨rfl, w1, ⟨h1, rfl⟩ | ⟨h1, _⟩⟩ := h
    · exact ⟨rfl, h1.2⟩
    · cases h1.1
theorem rs_next_f (B q z gw gl cw cl r mb : Nat) (S : Nat → Prop) (ms : List Bool) (x : (List Int × Bool) × RdM × List Int) (W : World) (hS : S r) (hc : W.cell? ⟨r, 3, none⟩ = some (.int .i64 2)) (hM : W.heap[mb]? = some (rmap r))
    (hC : Calls Try.prog 66 #[.pointer (some ⟨r, 0, none⟩)] W fun e w' => e = .returned (.bool false) ∧ RS B q z gw gl cw cl r S ms x w' ∧ Keeps (fun k => k = z ∨ k = gw ∨ k = r) W w') :
    Calls Try.prog 47 #[.pointer (some ⟨r, 3, none⟩), .map (some mb)] W fun e w' => e = .returned (.tuple #[]) ∧ RS B q z gw gl cw cl r S ms (x.1, { x.2.1 with p := 5 }, x.2.2) w' ∧ Keeps (fun k => k = z ∨ k = gw ∨ k = r) W w' :=
  (step_rnext r mb 2 _ 3 1 (fun d w' => d = false ∧ RS B q z gw gl cw cl r S ms x w' ∧ Keeps (fun k => k = z ∨ k = gw ∨ k = r) W w') W hc hM rfl (hC.mono fun e w' h => ⟨false, h.1, rfl, h.2⟩) (fun w' h => ⟨_, h.2.1.cell.1, h.2.1.cell.2⟩)).mono fun e w' h => by
    obtain ⟨rfl, w1, ⟨h1, rfl⟩ | ⟨h1, rfl⟩⟩ := h
    · cases h1.1
    · have hp := h1.2.1.put5 hS
      exact ⟨rfl, hp.1, h1.2.2.trans (hp.2.sub fun k _ e => .inr (.inr e))⟩
theorem rs_close_t (B q z gw gl cw cl r mb : Nat) (S : Nat → Prop) (ms : List Bool) (x : (List Int × Bool) × RdM × List Int) (W : World) (hc : W.cell? ⟨r, 3, none⟩ = some (.int .i64 3)) (hM : W.heap[mb]? = some (rmap r))
    (hC : Calls Try.prog 67 #[.pointer (some ⟨r, 0, none⟩)] W fun e w' => e = .returned (.bool true) ∧ RS B q z gw gl cw cl r S ms x w' ∧ Keeps (fun k => k = z ∨ k = gw ∨ k = r) W w') :
    Calls Try.prog 47 #[.pointer (some ⟨r, 3, none⟩), .map (some mb)] W fun e w' => e = .returned (.tuple #[]) ∧ RS B q z gw gl cw cl r S ms x w' ∧ Keeps (fun k => k = z ∨ k = gw ∨ k = r) W w' :=
  (step_rclose r mb 3 _ 3 2 (fun d w' => d = true ∧ RS B q z gw gl cw cl r S ms x w' ∧ Keeps (fun k => k = z ∨ k = gw ∨ k = r) W w') W hc hM rfl (hC.mono fun e w' h => ⟨true, h.1, rfl, h.2⟩) (fun w' h => by cases h.1)).mono fun e w' h => by
    obtain ⟨rfl, w1, ⟨h1, rfl⟩ | ⟨h1, _⟩⟩ := h
    · exact ⟨rfl, h1.2⟩
    · cases h1.1
theorem rs_close_f (B q z gw gl cw cl r mb : Nat) (S : Nat → Prop) (ms : List Bool) (x : (List Int × Bool) × RdM × List Int) (W : World) (hS : S r) (hc : W.cell? ⟨r, 3, none⟩ = some (.int .i64 3)) (hM : W.heap[mb]? = some (rmap r))
    (hC : Calls Try.prog 67 #[.pointer (some ⟨r, 0, none⟩)] W fun e w' => e = .returned (.bool false) ∧ RS B q z gw gl cw cl r S ms x w' ∧ Keeps (fun k => k = z ∨ k = gw ∨ k = r) W w') :
    Calls Try.prog 47 #[.pointer (some ⟨r, 3, none⟩), .map (some mb)] W fun e w' => e = .returned (.tuple #[]) ∧ RS B q z gw gl cw cl r S ms (x.1, { x.2.1 with p := 5 }, x.2.2) w' ∧ Keeps (fun k => k = z ∨ k = gw ∨ k = r) W w' :=
  (step_rclose r mb 3 _ 3 2 (fun d w' => d = false ∧ RS B q z gw gl cw cl r S ms x w' ∧ Keeps (fun k => k = z ∨ k = gw ∨ k = r) W w') W hc hM rfl (hC.mono fun e w' h => ⟨false, h.1, rfl, h.2⟩) (fun w' h => ⟨_, h.2.1.cell.1, h.2.1.cell.2⟩)).mono fun e w' h => by
    obtain ⟨rfl, w1, ⟨h1, rfl⟩ | ⟨h1, rfl⟩⟩ := h
    · cases h1.1
    · have hp := h1.2.1.put5 hS
      exact ⟨rfl, hp.1, h1.2.2.trans (hp.2.sub fun k _ e => .inr (.inr e))⟩

theorem rs_nochange (B q z gw gl cw cl r mb : Nat) (S : Nat → Prop) (ms : List Bool) (x : (List Int × Bool) × RdM × List Int) (W : World) (h : RS B q z gw gl cw cl r S ms x W) (hM : W.heap[mb]? = some (rmap r)) (hp : x.2.1.p = 4 ∨ x.2.1.p = 5) :
    Calls Try.prog 47 #[.pointer (some ⟨r, 3, none⟩), .map (some mb)] W fun e w' => e = .returned (.tuple #[]) ∧ RS B q z gw gl cw cl r S ms x w' ∧ Keeps (fun k => k = z ∨ k = gw ∨ k = r) W w' := by
  refine (step_miss r mb x.2.1.p _ 3 W h.cell.1 hM ?_).mono fun e w' h' => ?_
  · rcases hp with e | e <;> rw [e] <;> rfl
  · obtain ⟨rfl, rfl⟩ := h'
    exact ⟨rfl, h, Keeps.refl _ _⟩
theorem mdone_rs {B q z gw gl cw cl r : Nat} {S : Nat → Prop} {us : List Int} {ms : List Bool} {u d : Bool} {s : RdM} {v : Value} {vs : List Int} {W : World} (hV : ∀ w', Keeps (fun k => k = z ∨ k = gw ∨ k = r) W w' → VV S w' v vs) {e : Ending} {w' : World} (h : MDone B q z gw gl cw cl r us ms u d s v W e w') :
    e = .returned (.bool d) ∧ RS B q z gw gl cw cl r S ms ((us, u), s, vs) w' ∧ Keeps (fun k => k = z ∨ k = gw ∨ k = r) W w' :=
  ⟨h.1, ⟨h.2.1, v, h.2.2.1, hV w' h.2.2.2⟩, h.2.2.2⟩
theorem rstep_c (B q z gw gl cw cl r mb : Nat) (S : Nat → Prop) (us : List Int) (ms : List Bool) (u : Bool) (s : RdM) (vs : List Int) (W : World) (h : RS B q z gw gl cw cl r S ms ((us, u), s, vs) W) (hM : W.heap[mb]? = some (rmap r)) (hr : rightB us ms = true) (hw : WRange us) (hR : rightRB s vs.length = true) (hS : ∀ k, (k = z ∨ k = gw ∨ k = r) → S k) (hSW : ∀ k, S k → k < W.heap.size) :
    Calls Try.prog 47 #[.pointer (some ⟨r, 3, none⟩), .map (some mb)] W fun e w' => e = .returned (.tuple #[]) ∧ RS B q z gw gl cw cl r S ms (stepR ms us u s vs) w' ∧ Keeps (fun k => k = z ∨ k = gw ∨ k = r) W w' := by
  obtain ⟨⟨hm0, hm1⟩, hb, ht, hF⟩ := rightRB_parts hR
  obtain ⟨hl, h2, h3, hp⟩ := fits_le hm0 hF
  obtain ⟨ha0, ha1, hf0, hf1⟩ : 0 ≤ s.a ∧ s.a ≤ 4096 ∧ 0 ≤ s.f ∧ s.f ≤ 4096 := by
    unfold rightRB apartB at hR
    simp only [Bool.and_eq_true, decide_eq_true_eq] at hR
    obtain ⟨⟨⟨⟨⟨⟨-, -⟩, ⟨⟨⟨g1, g2⟩, g3⟩, g4⟩, -⟩, -⟩, -⟩, -⟩, -⟩ := hR
    exact ⟨g1, g2, g3, g4⟩
  by_cases h4 : 4 ≤ s.p
  · have e : stepR ms us u s vs = ((us, u), s, vs) := by unfold stepR; rw [if_pos h4]
    rw [e]
    exact rs_nochange B q z gw gl cw cl r mb S ms _ W h hM (by show s.p = 4 ∨ s.p = 5; omega)
  · have hcell := h.cell.1
    obtain ⟨hA, v, hX, hV⟩ := h
    obtain ⟨⟨us', u', hh, d⟩, hq⟩ : ∃ x, x = accM us ms u 1 (if s.p = 2 then s.f + (vs.length : Int) else s.a) 0 0 := ⟨_, rfl⟩
    have hst : stepR ms us u s vs = ((us', u'), if d = false then ({ s with p := 5 }, vs)
        else if s.p = 0 then (if hh % 2 = 0 then ({ s with b := hh, p := phR s.m 0 }, []) else (s, vs))
        else if s.p = 2 then ({ s with p := phR s.m (vs.length + 1) }, vs ++ [hh])
        else if hh = s.b then ({ s with p := 4 }, vs)
        else ({ s with p := 0, t := if s.t < 1073741824 then s.t + 1 else s.t }, vs)) := by
      unfold stepR
      rw [if_neg h4, ← hq]
    rw [hst]
    clear hst
    have hrg := acc_range hw hq.symm
    have HV : ∀ w', Keeps (fun k => k = z ∨ k = gw ∨ k = r) W w' → VV S w' v vs := fun w' hk => hV.keeps hk hS
    obtain ⟨a, f, m, p, b, t⟩ := s
    dsimp only at *
    have hSr := hS r (.inr (.inr rfl))
    have hp3 : p = 0 ∨ p = 2 ∨ p = 3 := by omega
    clear h4 hp
    rcases hp3 with rfl | rfl | rfl
    · rw [if_neg (by omega)] at hq
      cases d with
      | false =>
        rw [if_pos rfl]
        exact rs_begin_f B q z gw gl cw cl r mb S ms ((us', u'), ⟨a, f, m, 0, b, t⟩, vs) W hSr hcell hM ((rbegin_no B q z gw gl cw cl r us ms u a f m 0 b t v W hA hX hr ha0 ha1 us' u' hh hq.symm).mono fun e w' h => mdone_rs HV h)
      | true =>
        rw [if_neg (by decide), if_pos rfl]
        by_cases ho : hh % 2 = 0
        · rw [if_pos ho]
          exact rs_begin_t B q z gw gl cw cl r mb S ms _ W hcell hM ((rbegin_even B q z gw gl cw cl r us ms u a f m 0 b t v W hA hX hr ha0 ha1 us' u' hh hrg ho hq.symm).mono fun e w' h => mdone_rs (fun w' _ => VV.nil S w') h)
        · rw [if_neg ho]
          exact rs_begin_t B q z gw gl cw cl r mb S ms _ W hcell hM ((rbegin_odd B q z gw gl cw cl r us ms u a f m 0 b t v W hA hX hr ha0 ha1 us' u' hh hrg (by omega) hq.symm).mono fun e w' h => mdone_rs HV h)
    · rw [if_pos rfl] at hq
      have hln := h2 rfl
      cases d with
      | false =>
        rw [if_pos rfl]
        exact rs_next_f B q z gw gl cw cl r mb S ms ((us', u'), ⟨a, f, m, 2, b, t⟩, vs) W hSr hcell hM ((rnext_no B q z gw gl cw cl r us ms u a f m 2 b t v S vs W hA hX hr hV (by omega) hf0 hf1 us' u' hh hq.symm).mono fun e w' h => ⟨h.1, ⟨h.2.1, v, h.2.2.1, HV w' h.2.2.2⟩, h.2.2.2⟩)
      | true =>
        rw [if_neg (by decide), if_neg (by omega), if_pos rfl]
        exact rs_next_t B q z gw gl cw cl r mb S ms _ W hcell hM ((rnext_yes B q z gw gl cw cl r us ms u a f m 2 b t v S vs W hA hX hr hS hSW hV (by omega) hf0 hf1 us' u' hh hq.symm).mono fun e w' h => ⟨h.1, ⟨h.2.1, h.2.2.1⟩, h.2.2.2⟩)
    · rw [if_neg (by omega)] at hq
      cases d with
      | false =>
        rw [if_pos rfl]
        exact rs_close_f B q z gw gl cw cl r mb S ms ((us', u'), ⟨a, f, m, 3, b, t⟩, vs) W hSr hcell hM ((rclose_no B q z gw gl cw cl r us ms u a f m 3 b t v W hA hX hr ha0 ha1 us' u' hh hq.symm).mono fun e w' h => mdone_rs HV h)
      | true =>
        rw [if_neg (by decide), if_neg (by omega), if_neg (by omega)]
        by_cases ho : hh = b
        · rw [if_pos ho]
          exact rs_close_t B q z gw gl cw cl r mb S ms _ W hcell hM ((rclose_eq B q z gw gl cw cl r us ms u a f m 3 b t v W hA hX hr ha0 ha1 us' u' hh ho hq.symm).mono fun e w' h => mdone_rs HV h)
        · rw [if_neg ho]
          rcases (show t < 1073741823 ∨ t = 1073741823 ∨ t = 1073741824 by omega) with g | g | g
          · rw [if_pos (by omega)]
            exact rs_close_t B q z gw gl cw cl r mb S ms _ W hcell hM ((rclose_lt B q z gw gl cw cl r us ms u a f m 3 b t v W hA hX hr ha0 ha1 ht.1 g us' u' hh ho hq.symm).mono fun e w' h => mdone_rs HV h)
          · rw [if_pos (by omega), show t + 1 = 1073741824 by omega]
            exact rs_close_t B q z gw gl cw cl r mb S ms _ W hcell hM ((rclose_at B q z gw gl cw cl r us ms u a f m 3 b t v W hA hX hr ha0 ha1 ht.1 g us' u' hh ho hq.symm).mono fun e w' h => mdone_rs HV h)
          · rw [if_neg (by omega)]
            have hg := g
            subst hg
            exact rs_close_t B q z gw gl cw cl r mb S ms _ W hcell hM ((rclose_ge B q z gw gl cw cl r us ms u a f m 3 b _ v W hA hX hr ha0 ha1 ht.1 rfl us' u' hh ho hq.symm).mono fun e w' h => mdone_rs HV h)

end Go.Proofs.Ytaljpggajpoalaa
/-
  begin, of a writer of package seq.
  Conditions: the memory may be, the write may be.
-/
namespace Go.Proofs.Ytaljpggajpoalaa
open Go.RowKit Go.Shelf
attribute [local go_sem] Oper.semAt_some

/-- Block r begins with a writer. -/
def WBox (W : World) (r : Nat) (T : TypeId) (ex : List Value) (s : WrM) (v : Value) (q : Nat) : Prop := W.heap[r]? = some (.cells (.int .i64 s.a :: .int .i64 s.f :: v :: .int .i64 s.p :: .int .u64 s.b :: .int .i64 s.w :: accV q :: ex).toArray T (0, 0))
theorem WBox.lt {w : World} {z : Nat} {T : TypeId} {ex : List Value} {s : WrM} {v : Value} {q : Nat} (h : WBox w z T ex s v q) : z < w.heap.size := (Array.getElem?_eq_some_iff.1 h).1
theorem WBox.keeps {S : Nat → Prop} {w w' : World} {z : Nat} {T : TypeId} {ex : List Value} {s : WrM} {v : Value} {q : Nat} (h : WBox w z T ex s v q) (hk : Keeps S w w') (hz : ¬ S z) : WBox w' z T ex s v q := (hk.block z h.lt hz).trans h
theorem WBox.below {w w' : World} {z : Nat} {T : TypeId} {ex : List Value} {s : WrM} {v : Value} {q : Nat} (h : WBox w z T ex s v q) (hb : Below w.heap.size w w') : WBox w' z T ex s v q := (hb.block z h.lt).trans h
theorem WBox.cells {w : World} {z : Nat} {T : TypeId} {ex : List Value} {s : WrM} {v : Value} {q : Nat} (h : WBox w z T ex s v q) : (w.cell? ⟨z, 0, none⟩ = some (.int .i64 s.a) ∧ w.cell? ⟨z, 1, none⟩ = some (.int .i64 s.f) ∧ w.cell? ⟨z, 2, none⟩ = some v ∧ w.cell? ⟨z, 3, none⟩ = some (.int .i64 s.p)) ∧ w.cell? ⟨z, 4, none⟩ = some (.int .u64 s.b) ∧ w.cell? ⟨z, 5, none⟩ = some (.int .i64 s.w) ∧ w.cell? ⟨z, 6, none⟩ = some (accV q) := by
  have h' : w.heap[z]? = _ := h
  simp [World.cell?, h']
theorem WBox.marks {w : World} {z : Nat} {T : TypeId} {ex : List Value} {s : WrM} {v : Value} {q : Nat} (h : WBox w z T ex s v q) (i : Nat) : w.frozen? ⟨z, i, none⟩ = false := by
  have h' : w.heap[z]? = _ := h
  simp [World.frozen?, h']
theorem WBox.setP {w : World} {z : Nat} {T : TypeId} {ex : List Value} {s : WrM} {v : Value} {q : Nat} (h : WBox w z T ex s v q) (p : Int) : WBox (w.setCell ⟨z, 3, none⟩ (.int .i64 p)) z T ex { s with p := p } v q := by
  have h' : w.heap[z]? = _ := h
  simp [WBox, World.setCell, Array.getElem?_modify, h']
theorem WBox.setW {w : World} {z : Nat} {T : TypeId} {ex : List Value} {s : WrM} {v : Value} {q : Nat} (h : WBox w z T ex s v q) (p : Int) : WBox (w.setCell ⟨z, 5, none⟩ (.int .i64 p)) z T ex { s with w := p } v q := by
  have h' : w.heap[z]? = _ := h
  simp [WBox, World.setCell, Array.getElem?_modify, h']
theorem WBox.setB {w : World} {z : Nat} {T : TypeId} {ex : List Value} {s : WrM} {v : Value} {q : Nat} (h : WBox w z T ex s v q) (p : Int) : WBox (w.setCell ⟨z, 4, none⟩ (.int .u64 p)) z T ex { s with b := p } v q := by
  have h' : w.heap[z]? = _ := h
  simp [WBox, World.setCell, Array.getElem?_modify, h']
def wkind (T : TypeId) : Prop := T = 102 ∨ T = 109
theorem AccF.apartW {B q z gw gl cw cl r : Nat} {us : List Int} {ms : List Bool} {u : Bool} {W : World} {T : TypeId} {ex : List Value} {s : WrM} {v : Value} (h : AccF B q z gw gl cw cl us ms u W) (hR : WBox W r T ex s v q) (hT : wkind T) : r ≠ q ∧ r ≠ z ∧ r ≠ gw ∧ r ≠ gl := by
  have hq : W.heap[q]? = _ := h.x
  have hz : W.heap[z]? = _ := h.box
  have hr : W.heap[r]? = _ := hR
  obtain ⟨c1, f1, h1⟩ := Lib.ownsRow_kind h.words gw rfl
  obtain ⟨c2, f2, h2⟩ := Lib.ownsRow_kind h.lives gl rfl
  rcases hT with rfl | rfl <;> refine ⟨?_, ?_, ?_, ?_⟩ <;> rintro rfl <;> simp_all
/-- What a method of a writer leaves. -/
def WDone (B q z gw gl cw cl r : Nat) (T : TypeId) (ex : List Value) (us : List Int) (ms : List Bool) (u d : Bool) (s : WrM) (v : Value) (W : World) (e : Ending) (w' : World) : Prop :=
  e = .returned (.bool d) ∧ AccF B q z gw gl cw cl us ms u w' ∧ WBox w' r T ex s v q ∧ Keeps (fun k => k = z ∨ k = gw ∨ k = r) W w'
set_option maxRecDepth 100000 in
set_option maxHeartbeats 4000000 in
theorem wbegin_no (B q z gw gl cw cl r : Nat) (T : TypeId) (ex : List Value) (us : List Int) (ms : List Bool) (u : Bool) (a f ph b wr : Int) (v : Value) (W : World) (hF : AccF B q z gw gl cw cl us ms u W) (hR : WBox W r T ex ⟨a, f, ph, b, wr⟩ v q) (hT : wkind T) (hr : rightB us ms = true) (ha : 0 ≤ a) (hm : a ≤ 4096) (us' : List Int) (u' : Bool) (h : Int)  (hacc : accM us ms u 1 a 0 0 = (us', u', h, false)) :
    Calls Try.prog 69 #[.pointer (some ⟨r, 0, none⟩)] W fun e w' => WDone B q z gw gl cw cl r T ex us' ms u' false ⟨a, f, ph, b, wr⟩ v W e w' := by
  obtain ⟨nq, nz, nw, nl⟩ := hF.apartW hR hT
  have HC := Lib.hid (fun (Z : World) (hz : AccF B q z gw gl cw cl us ms u Z) => hacc ▸ qload_c B q z gw gl cw cl us ms u a Z hz hr ha (by omega))
  have HF := Lib.hid hF
  have HR := Lib.hid hR
  obtain ⟨⟨h0, h1, h2, h3⟩, h4, h5, h6⟩ := hR.cells
  dsimp only at h0 h1 h3 h4 h5
  clear hF hR hr hacc ha hm h1 h2 h3 h4 h5
  go_enter Try.func69, Try.ntmps69
  go_upto_region 1 with fail
  go_region_held3 (fun w' => w'.cell? ⟨r, 0, none⟩ = some (.int .i64 a) ∧ w'.cell? ⟨r, 6, none⟩ = some (accV q))
    (first
      | exact ⟨h0, h6⟩
      | go_keep
      | (go_split_ands; exact ⟨hk1.cell (by assumption) (by show ¬ (r = z ∨ r = gw); omega), hk1.cell (by assumption) (by show ¬ (r = z ∨ r = gw); omega)⟩))
    (first | (go_at_call 82; refine (HC.out _ HF.out.drew).mono ?_; rintro e w1 ⟨rfl, hF1, hk1⟩))
  all_goals
    have HF1 := Lib.hid hF1
    have HK1 := Lib.hid ((Keeps.drewN (Keeps.refl (fun k => k = z ∨ k = gw) W) 1).trans hk1)
    have HR1 := Lib.hid (HR.out.keeps HK1.out (by show ¬ (r = z ∨ r = gw); omega))
    clear hF1 hk1 HC HF HR h0 h6 
    rename_i hHeld
    clear hHeld
    go_wp2
    exact bodyPost_ret (v := .bool false) (by simp [results, Try.results69, go_sem]) rfl ⟨rfl, HF1.out, HR1.out, HK1.out.sub fun k _ e => by rcases e with e | e; exact .inl e; exact .inr (.inl e)⟩
set_option maxRecDepth 100000 in
set_option maxHeartbeats 4000000 in
theorem wbegin_odd (B q z gw gl cw cl r : Nat) (T : TypeId) (ex : List Value) (us : List Int) (ms : List Bool) (u : Bool) (a f ph b wr : Int) (v : Value) (W : World) (hF : AccF B q z gw gl cw cl us ms u W) (hR : WBox W r T ex ⟨a, f, ph, b, wr⟩ v q) (hT : wkind T) (hr : rightB us ms = true) (ha : 0 ≤ a) (hm : a ≤ 4096) (us' : List Int) (u' : Bool) (h : Int) (hh : 0 ≤ h ∧ h ≤ 18446744073709551615) (ho : h % 2 = 1) (hacc : accM us ms u 1 a 0 0 = (us', u', h, true)) :
    Calls Try.prog 69 #[.pointer (some ⟨r, 0, none⟩)] W fun e w' => WDone B q z gw gl cw cl r T ex us' ms u' true ⟨a, f, ph, b, wr⟩ v W e w' := by
  obtain ⟨nq, nz, nw, nl⟩ := hF.apartW hR hT
  have HC := Lib.hid (fun (Z : World) (hz : AccF B q z gw gl cw cl us ms u Z) => hacc ▸ qload_c B q z gw gl cw cl us ms u a Z hz hr ha (by omega))
  have HF := Lib.hid hF
  have HR := Lib.hid hR
  obtain ⟨⟨h0, h1, h2, h3⟩, h4, h5, h6⟩ := hR.cells
  dsimp only at h0 h1 h3 h4 h5
  have HH := Lib.hid hh
  clear hF hR hr hacc ha hm h1 h2 h3 h4 h5
  go_enter Try.func69, Try.ntmps69
  go_upto_region 1 with fail
  go_region_held3 (fun w' => w'.cell? ⟨r, 0, none⟩ = some (.int .i64 a) ∧ w'.cell? ⟨r, 6, none⟩ = some (accV q))
    (first
      | exact ⟨h0, h6⟩
      | go_keep
      | (go_split_ands; exact ⟨hk1.cell (by assumption) (by show ¬ (r = z ∨ r = gw); omega), hk1.cell (by assumption) (by show ¬ (r = z ∨ r = gw); omega)⟩))
    (first | (go_at_call 82; refine (HC.out _ HF.out.drew).mono ?_; rintro e w1 ⟨rfl, hF1, hk1⟩))
  all_goals
    have HF1 := Lib.hid hF1
    have HK1 := Lib.hid ((Keeps.drewN (Keeps.refl (fun k => k = z ∨ k = gw) W) 1).trans hk1)
    have HR1 := Lib.hid (HR.out.keeps HK1.out (by show ¬ (r = z ∨ r = gw); omega))
    clear hF1 hk1 HC HF HR h0 h6 
    rename_i hHeld
    clear hHeld
    go_wp2_with fail
    refine (odd_c h HH.out w1).mono ?_
    rintro e w2 ⟨rfl, hb2⟩
    rw [show decide (h % 2 = 0) = false by rw [ho]; decide]
    have HF2 := Lib.hid (HF1.out.below hb2)
    have hR2 := HR1.out.below hb2
    have HK2 := Lib.hid (HK1.out.trans (Keeps.of_below hb2))
    have HR2 := Lib.hid hR2
    clear hb2 HF1 HR1 HK1 hR2
    go_wp2
    exact bodyPost_ret (v := .bool true) (by simp [results, Try.results69, go_sem]) rfl ⟨rfl, HF2.out, HR2.out, HK2.out.sub fun k _ e => by rcases e with e | e; exact .inl e; exact .inr (.inl e)⟩
set_option maxRecDepth 100000 in
set_option maxHeartbeats 4000000 in
theorem wbegin_even (B q z gw gl cw cl r : Nat) (T : TypeId) (ex : List Value) (us : List Int) (ms : List Bool) (u : Bool) (a f ph b wr : Int) (v : Value) (W : World) (hF : AccF B q z gw gl cw cl us ms u W) (hR : WBox W r T ex ⟨a, f, ph, b, wr⟩ v q) (hT : wkind T) (hr : rightB us ms = true) (ha : 0 ≤ a) (hm : a ≤ 4096) (us' : List Int) (u' : Bool) (h : Int) (hh : 0 ≤ h ∧ h ≤ 18446744073709551615) (ho : h % 2 = 0) (hacc : accM us ms u 1 a 0 0 = (us', u', h, true)) :
    Calls Try.prog 69 #[.pointer (some ⟨r, 0, none⟩)] W fun e w' => WDone B q z gw gl cw cl r T ex us' ms u' true ⟨a, f, 1, h, wr⟩ v W e w' := by
  obtain ⟨nq, nz, nw, nl⟩ := hF.apartW hR hT
  have HC := Lib.hid (fun (Z : World) (hz : AccF B q z gw gl cw cl us ms u Z) => hacc ▸ qload_c B q z gw gl cw cl us ms u a Z hz hr ha (by omega))
  have HF := Lib.hid hF
  have HR := Lib.hid hR
  obtain ⟨⟨h0, h1, h2, h3⟩, h4, h5, h6⟩ := hR.cells
  dsimp only at h0 h1 h3 h4 h5
  have HH := Lib.hid hh
  clear hF hR hr hacc ha hm h1 h2 h3 h4 h5
  go_enter Try.func69, Try.ntmps69
  go_upto_region 1 with fail
  go_region_held3 (fun w' => w'.cell? ⟨r, 0, none⟩ = some (.int .i64 a) ∧ w'.cell? ⟨r, 6, none⟩ = some (accV q))
    (first
      | exact ⟨h0, h6⟩
      | go_keep
      | (go_split_ands; exact ⟨hk1.cell (by assumption) (by show ¬ (r = z ∨ r = gw); omega), hk1.cell (by assumption) (by show ¬ (r = z ∨ r = gw); omega)⟩))
    (first | (go_at_call 82; refine (HC.out _ HF.out.drew).mono ?_; rintro e w1 ⟨rfl, hF1, hk1⟩))
  all_goals
    have HF1 := Lib.hid hF1
    have HK1 := Lib.hid ((Keeps.drewN (Keeps.refl (fun k => k = z ∨ k = gw) W) 1).trans hk1)
    have HR1 := Lib.hid (HR.out.keeps HK1.out (by show ¬ (r = z ∨ r = gw); omega))
    clear hF1 hk1 HC HF HR h0 h6 
    rename_i hHeld
    clear hHeld
    go_wp2_with fail
    refine (odd_c h HH.out w1).mono ?_
    rintro e w2 ⟨rfl, hb2⟩
    rw [show decide (h % 2 = 0) = true by rw [ho]; decide]
    have HF2 := Lib.hid (HF1.out.below hb2)
    have hR2 := HR1.out.below hb2
    have HK2 := Lib.hid (HK1.out.trans (Keeps.of_below hb2))
    obtain ⟨⟨-, -, -, k3⟩, k4, -, -⟩ := hR2.cells
    have m3 := hR2.marks 3
    have m4 := hR2.marks 4
    have HR3 := Lib.hid ((hR2.setB h).setP 1)
    have hk3 := (Keeps.setCell w2 (S := (· = r)) (p := ⟨r, 4, none⟩) rfl (.int .u64 h)).trans (Keeps.setCell _ (S := (· = r)) (p := ⟨r, 3, none⟩) rfl (.int .i64 1))
    have HF3 := Lib.hid (HF2.out.keeps hk3 (by show ¬ q = r; omega) (by show ¬ z = r; omega) (by show ¬ gw = r; omega) (by show ¬ gl = r; omega))
    have HK3 := Lib.hid ((HK2.out.sub (T := fun k => k = z ∨ k = gw ∨ k = r) fun k _ e => by rcases e with e | e; exact .inl e; exact .inr (.inl e)).trans (hk3.sub fun k _ e => .inr (.inr e)))
    clear hb2 HF1 HR1 HK1 hR2 hk3 HF2 HK2
    dsimp only at k3 k4
    go_wp2
    exact bodyPost_ret (v := .bool true) (by simp [results, Try.results69, go_sem]) rfl ⟨rfl, HF3.out, HR3.out, HK3.out⟩

end Go.Proofs.Ytaljpggajpoalaa
namespace Go.Proofs.Ytaljpggajpoalaa
open Go.RowKit Go.Shelf
attribute [local go_sem] Oper.semAt_some

set_option maxRecDepth 100000 in
set_option maxHeartbeats 4000000 in
theorem wopen_no (B q z gw gl cw cl r : Nat) (T : TypeId) (ex : List Value) (us : List Int) (ms : List Bool) (u : Bool) (a f ph b wr : Int) (v : Value) (W : World) (hF : AccF B q z gw gl cw cl us ms u W) (hR : WBox W r T ex ⟨a, f, ph, b, wr⟩ v q) (hT : wkind T) (hr : rightB us ms = true) (ha : 0 ≤ a) (hm : a ≤ 4096) (us' : List Int) (u' : Bool) (h : Int)  (hacc : accM us ms u 2 a 0 (IntKind.u64.wrap (b + 1)) = (us', u', h, false)) :
    Calls Try.prog 70 #[.pointer (some ⟨r, 0, none⟩)] W fun e w' => WDone B q z gw gl cw cl r T ex us' ms u' false ⟨a, f, ph, b, wr⟩ v W e w' := by
  obtain ⟨nq, nz, nw, nl⟩ := hF.apartW hR hT
  have HC := Lib.hid (fun (Z : World) (hz : AccF B q z gw gl cw cl us ms u Z) => hacc ▸ qstore_c B q z gw gl cw cl us ms u a (IntKind.u64.wrap (b + 1)) Z hz hr ha (by omega))
  have HF := Lib.hid hF
  have HR := Lib.hid hR
  obtain ⟨⟨h0, h1, h2, h3⟩, h4, h5, h6⟩ := hR.cells
  dsimp only at h0 h1 h3 h4 h5
  clear hF hR hr hacc ha hm h1 h2 h3 h5
  go_enter Try.func70, Try.ntmps70
  go_upto_region 1 with fail
  go_region_held3 (fun w' => w'.cell? ⟨r, 0, none⟩ = some (.int .i64 a) ∧ w'.cell? ⟨r, 4, none⟩ = some (.int .u64 b) ∧ w'.cell? ⟨r, 6, none⟩ = some (accV q))
    (first
      | exact ⟨h0, h4, h6⟩
      | go_keep
      | (go_split_ands; exact ⟨hk1.cell (by assumption) (by show ¬ (r = z ∨ r = gw); omega), hk1.cell (by assumption) (by show ¬ (r = z ∨ r = gw); omega), hk1.cell (by assumption) (by show ¬ (r = z ∨ r = gw); omega)⟩))
    (first | (go_at_call 85; refine (HC.out _ HF.out.drew).mono ?_; rintro e w1 ⟨rfl, hF1, hk1⟩))
  all_goals
    have HF1 := Lib.hid hF1
    have HK1 := Lib.hid ((Keeps.drewN (Keeps.refl (fun k => k = z ∨ k = gw) W) 1).trans hk1)
    have HR1 := Lib.hid (HR.out.keeps HK1.out (by show ¬ (r = z ∨ r = gw); omega))
    clear hF1 hk1 HC HF HR h0 h4 h6 
    rename_i hHeld
    clear hHeld
    go_wp2
    exact bodyPost_ret (v := .bool false) (by simp [results, Try.results70, go_sem]) rfl ⟨rfl, HF1.out, HR1.out, HK1.out.sub fun k _ e => by rcases e with e | e; exact .inl e; exact .inr (.inl e)⟩
set_option maxRecDepth 100000 in
set_option maxHeartbeats 4000000 in
theorem wopen_yes (B q z gw gl cw cl r : Nat) (T : TypeId) (ex : List Value) (us : List Int) (ms : List Bool) (u : Bool) (a f ph b wr : Int) (v : Value) (W : World) (hF : AccF B q z gw gl cw cl us ms u W) (hR : WBox W r T ex ⟨a, f, ph, b, wr⟩ v q) (hT : wkind T) (hr : rightB us ms = true) (ha : 0 ≤ a) (hm : a ≤ 4096) (us' : List Int) (u' : Bool) (h : Int)  (hacc : accM us ms u 2 a 0 (IntKind.u64.wrap (b + 1)) = (us', u', h, true)) :
    Calls Try.prog 70 #[.pointer (some ⟨r, 0, none⟩)] W fun e w' => WDone B q z gw gl cw cl r T ex us' ms u' true ⟨a, f, 2, b, wr⟩ v W e w' := by
  obtain ⟨nq, nz, nw, nl⟩ := hF.apartW hR hT
  have HC := Lib.hid (fun (Z : World) (hz : AccF B q z gw gl cw cl us ms u Z) => hacc ▸ qstore_c B q z gw gl cw cl us ms u a (IntKind.u64.wrap (b + 1)) Z hz hr ha (by omega))
  have HF := Lib.hid hF
  have HR := Lib.hid hR
  obtain ⟨⟨h0, h1, h2, h3⟩, h4, h5, h6⟩ := hR.cells
  dsimp only at h0 h1 h3 h4 h5
  clear hF hR hr hacc ha hm h1 h2 h3 h5
  go_enter Try.func70, Try.ntmps70
  go_upto_region 1 with fail
  go_region_held3 (fun w' => w'.cell? ⟨r, 0, none⟩ = some (.int .i64 a) ∧ w'.cell? ⟨r, 4, none⟩ = some (.int .u64 b) ∧ w'.cell? ⟨r, 6, none⟩ = some (accV q))
    (first
      | exact ⟨h0, h4, h6⟩
      | go_keep
      | (go_split_ands; exact ⟨hk1.cell (by assumption) (by show ¬ (r = z ∨ r = gw); omega), hk1.cell (by assumption) (by show ¬ (r = z ∨ r = gw); omega), hk1.cell (by assumption) (by show ¬ (r = z ∨ r = gw); omega)⟩))
    (first | (go_at_call 85; refine (HC.out _ HF.out.drew).mono ?_; rintro e w1 ⟨rfl, hF1, hk1⟩))
  all_goals
    have HF1 := Lib.hid hF1
    have HK1 := Lib.hid ((Keeps.drewN (Keeps.refl (fun k => k = z ∨ k = gw) W) 1).trans hk1)
    have HR1 := Lib.hid (HR.out.keeps HK1.out (by show ¬ (r = z ∨ r = gw); omega))
    clear hF1 hk1 HC HF HR h0 h4 h6 
    rename_i hHeld
    clear hHeld
    obtain ⟨⟨-, -, -, k3⟩, -⟩ := HR1.out.cells
    have m3 := HR1.out.marks 3
    have HR2 := Lib.hid (HR1.out.setP 2)
    have hk2 := Keeps.setCell w1 (S := (· = r)) (p := ⟨r, 3, none⟩) rfl (.int .i64 2)
    have HF2 := Lib.hid (HF1.out.keeps hk2 (by show ¬ q = r; omega) (by show ¬ z = r; omega) (by show ¬ gw = r; omega) (by show ¬ gl = r; omega))
    have HK2 := Lib.hid ((HK1.out.sub (T := fun k => k = z ∨ k = gw ∨ k = r) fun k _ e => by rcases e with e | e; exact .inl e; exact .inr (.inl e)).trans (hk2.sub fun k _ e => .inr (.inr e)))
    clear HF1 HR1 HK1 hk2
    dsimp only at k3
    go_wp2
    exact bodyPost_ret (v := .bool true) (by simp [results, Try.results70, go_sem]) rfl ⟨rfl, HF2.out, HR2.out, HK2.out⟩
set_option maxRecDepth 100000 in
set_option maxHeartbeats 4000000 in
theorem wclose_no (B q z gw gl cw cl r : Nat) (T : TypeId) (ex : List Value) (us : List Int) (ms : List Bool) (u : Bool) (a f ph b wr : Int) (v : Value) (W : World) (hF : AccF B q z gw gl cw cl us ms u W) (hR : WBox W r T ex ⟨a, f, ph, b, wr⟩ v q) (hT : wkind T) (hr : rightB us ms = true) (ha : 0 ≤ a) (hm : a ≤ 4096) (us' : List Int) (u' : Bool) (h : Int)  (hacc : accM us ms u 2 a 0 (IntKind.u64.wrap (b + 2)) = (us', u', h, false)) :
    Calls Try.prog 72 #[.pointer (some ⟨r, 0, none⟩)] W fun e w' => WDone B q z gw gl cw cl r T ex us' ms u' false ⟨a, f, ph, b, wr⟩ v W e w' := by
  obtain ⟨nq, nz, nw, nl⟩ := hF.apartW hR hT
  have HC := Lib.hid (fun (Z : World) (hz : AccF B q z gw gl cw cl us ms u Z) => hacc ▸ qstore_c B q z gw gl cw cl us ms u a (IntKind.u64.wrap (b + 2)) Z hz hr ha (by omega))
  have HF := Lib.hid hF
  have HR := Lib.hid hR
  obtain ⟨⟨h0, h1, h2, h3⟩, h4, h5, h6⟩ := hR.cells
  dsimp only at h0 h1 h3 h4 h5
  clear hF hR hr hacc ha hm h1 h2 h3 h5
  go_enter Try.func72, Try.ntmps72
  go_upto_region 1 with fail
  go_region_held3 (fun w' => w'.cell? ⟨r, 0, none⟩ = some (.int .i64 a) ∧ w'.cell? ⟨r, 4, none⟩ = some (.int .u64 b) ∧ w'.cell? ⟨r, 6, none⟩ = some (accV q))
    (first
      | exact ⟨h0, h4, h6⟩
      | go_keep
      | (go_split_ands; exact ⟨hk1.cell (by assumption) (by show ¬ (r = z ∨ r = gw); omega), hk1.cell (by assumption) (by show ¬ (r = z ∨ r = gw); omega), hk1.cell (by assumption) (by show ¬ (r = z ∨ r = gw); omega)⟩))
    (first | (go_at_call 85; refine (HC.out _ HF.out.drew).mono ?_; rintro e w1 ⟨rfl, hF1, hk1⟩))
  all_goals
    have HF1 := Lib.hid hF1
    have HK1 := Lib.hid ((Keeps.drewN (Keeps.refl (fun k => k = z ∨ k = gw) W) 1).trans hk1)
    have HR1 := Lib.hid (HR.out.keeps HK1.out (by show ¬ (r = z ∨ r = gw); omega))
    clear hF1 hk1 HC HF HR h0 h4 h6 
    rename_i hHeld
    clear hHeld
    go_wp2
    exact bodyPost_ret (v := .bool false) (by simp [results, Try.results72, go_sem]) rfl ⟨rfl, HF1.out, HR1.out, HK1.out.sub fun k _ e => by rcases e with e | e; exact .inl e; exact .inr (.inl e)⟩
set_option maxRecDepth 100000 in
set_option maxHeartbeats 4000000 in
theorem wclose_yes (B q z gw gl cw cl r : Nat) (T : TypeId) (ex : List Value) (us : List Int) (ms : List Bool) (u : Bool) (a f ph b wr : Int) (v : Value) (W : World) (hF : AccF B q z gw gl cw cl us ms u W) (hR : WBox W r T ex ⟨a, f, ph, b, wr⟩ v q) (hT : wkind T) (hr : rightB us ms = true) (ha : 0 ≤ a) (hm : a ≤ 4096) (us' : List Int) (u' : Bool) (h : Int)  (hacc : accM us ms u 2 a 0 (IntKind.u64.wrap (b + 2)) = (us', u', h, true)) :
    Calls Try.prog 72 #[.pointer (some ⟨r, 0, none⟩)] W fun e w' => WDone B q z gw gl cw cl r T ex us' ms u' true ⟨a, f, 4, b, wr⟩ v W e w' := by
  obtain ⟨nq, nz, nw, nl⟩ := hF.apartW hR hT
  have HC := Lib.hid (fun (Z : World) (hz : AccF B q z gw gl cw cl us ms u Z) => hacc ▸ qstore_c B q z gw gl cw cl us ms u a (IntKind.u64.wrap (b + 2)) Z hz hr ha (by omega))
  have HF := Lib.hid hF
  have HR := Lib.hid hR
  obtain ⟨⟨h0, h1, h2, h3⟩, h4, h5, h6⟩ := hR.cells
  dsimp only at h0 h1 h3 h4 h5
  clear hF hR hr hacc ha hm h1 h2 h3 h5
  go_enter Try.func72, Try.ntmps72
  go_upto_region 1 with fail
  go_region_held3 (fun w' => w'.cell? ⟨r, 0, none⟩ = some (.int .i64 a) ∧ w'.cell? ⟨r, 4, none⟩ = some (.int .u64 b) ∧ w'.cell? ⟨r, 6, none⟩ = some (accV q))
    (first
      | exact ⟨h0, h4, h6⟩
      | go_keep
      | (go_split_ands; exact ⟨hk1.cell (by assumption) (by show ¬ (r = z ∨ r = gw); omega), hk1.cell (by assumption) (by show ¬ (r = z ∨ r = gw); omega), hk1.cell (by assumption) (by show ¬ (r = z ∨ r = gw); omega)⟩))
    (first | (go_at_call 85; refine (HC.out _ HF.out.drew).mono ?_; rintro e w1 ⟨rfl, hF1, hk1⟩))
  all_goals
    have HF1 := Lib.hid hF1
    have HK1 := Lib.hid ((Keeps.drewN (Keeps.refl (fun k => k = z ∨ k = gw) W) 1).trans hk1)
    have HR1 := Lib.hid (HR.out.keeps HK1.out (by show ¬ (r = z ∨ r = gw); omega))
    clear hF1 hk1 HC HF HR h0 h4 h6 
    rename_i hHeld
    clear hHeld
    obtain ⟨⟨-, -, -, k3⟩, -⟩ := HR1.out.cells
    have m3 := HR1.out.marks 3
    have HR2 := Lib.hid (HR1.out.setP 4)
    have hk2 := Keeps.setCell w1 (S := (· = r)) (p := ⟨r, 3, none⟩) rfl (.int .i64 4)
    have HF2 := Lib.hid (HF1.out.keeps hk2 (by show ¬ q = r; omega) (by show ¬ z = r; omega) (by show ¬ gw = r; omega) (by show ¬ gl = r; omega))
    have HK2 := Lib.hid ((HK1.out.sub (T := fun k => k = z ∨ k = gw ∨ k = r) fun k _ e => by rcases e with e | e; exact .inl e; exact .inr (.inl e)).trans (hk2.sub fun k _ e => .inr (.inr e)))
    clear HF1 HR1 HK1 hk2
    dsimp only at k3
    go_wp2
    exact bodyPost_ret (v := .bool true) (by simp [results, Try.results72, go_sem]) rfl ⟨rfl, HF2.out, HR2.out, HK2.out⟩

end Go.Proofs.Ytaljpggajpoalaa
