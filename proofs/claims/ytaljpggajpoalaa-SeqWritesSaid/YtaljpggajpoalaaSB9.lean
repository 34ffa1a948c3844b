/-
  What holds at each pick of a play, of package seq, and what a pick does.
  Conditions: all that is there may be.
-/
import Derived.Test.YtaljpggajpoalaaSB8
import Derived.Test.YtaljpggajpoalaaSB7
import Derived.BigQuiet
import Derived.IntWalk
import Derived.Test.YtaljpggajpoalaaSB5
import Derived.BigRegion
import Derived.Test.YtaljpggajpoalaaSB4
/-
  next, of a writer of package seq.
  Conditions: the memory may be, the write may be.
-/
namespace Go.Proofs.Ytaljpggajpoalaa
open Go.RowKit Go.Shelf
attribute [local go_sem] Oper.semAt_some

set_option maxRecDepth 100000 in
set_option maxHeartbeats 4000000 in
theorem wnext_no (B q z gw gl cw cl r : Nat) (T : TypeId) (ex : List Value) (us : List Int) (ms : List Bool) (u : Bool) (a f ph b : Int) (k : Nat) (v : Value) (W : World) (hF : AccF B q z gw gl cw cl us ms u W) (hR : WBox W r T ex ⟨a, f, ph, b, (k : Int)⟩ v q) (hT : wkind T) (hr : rightB us ms = true) (S : Nat → Prop) (hSz : S z) (hSg : S gw) (vs : List Int) (hV : VV S W v vs) (hk : k < vs.length) (hl : vs.length ≤ 16) (hf0 : 0 ≤ f) (hf1 : f ≤ 4096) (us' : List Int) (u' : Bool) (h : Int)  (hacc : accM us ms u 2 (f + (k : Int)) 0 (vs.getD k 0) = (us', u', h, false)) :
    Calls Try.prog 71 #[.pointer (some ⟨r, 0, none⟩)] W fun e w' => WDone B q z gw gl cw cl r T ex us' ms u' false ⟨a, f, ph, b, (k : Int)⟩ v W e w' := by
  obtain ⟨p, c, rfl, ⟨hnc, hcm⟩, hpc⟩ := hV
  rcases hpc with ⟨-, rfl, -⟩ | ⟨b0, off, rfl, hSb, hcs⟩
  · simp at hk
  have hx := hcs k hk
  obtain ⟨x, hxd⟩ : ∃ x, x = vs.getD k 0 := ⟨_, rfl⟩
  rw [← hxd] at hacc
  rw [show vs[k] = x by rw [hxd]; simp [List.getD, hk]] at hx
  have hbz : b0 ≠ z := fun e => hSb (e ▸ hSz)
  have hbg : b0 ≠ gw := fun e => hSb (e ▸ hSg)
  have hadd : IntKind.i64.wrap (f + (k : Int)) = f + (k : Int) := IntWalk.i64_in _ (by omega)
  have HADD := Lib.hid hadd
  obtain ⟨n, hn⟩ : ∃ n, n = vs.length := ⟨_, rfl⟩
  have HN := Lib.hid hn
  have HKB := Lib.hid (show k ≤ 16 by omega)
  rw [← hn] at hR hnc hl hk
  rw [← hn]
  clear hcs hxd hSb hn hadd
  obtain ⟨nq, nz, nw, nl⟩ := hF.apartW hR hT
  have HC := Lib.hid (fun (Z : World) (hz : AccF B q z gw gl cw cl us ms u Z) => hacc ▸ qstore_c B q z gw gl cw cl us ms u (f + (k : Int)) x Z hz hr (by omega) (by omega))
  have HF := Lib.hid hF
  have HR := Lib.hid hR
  obtain ⟨⟨h0, h1, h2, h3⟩, h4, h5, h6⟩ := hR.cells
  dsimp only at h0 h1 h3 h4 h5
  clear hF hR hr hacc h0 h3 h4 hl hf0 hf1 hnc hcm
  go_enter Try.func71, Try.ntmps71
  go_upto_region 1 with fail
  have hadd := HADD.out
  have hk0 : (0 : Int) ≤ (k : Int) := by omega
  have hk1' : (k : Int) < (n : Int) := by omega
  have hk2' : ((k : Int)).toNat = k := by omega
  go_region_held3 (fun w' => w'.cell? ⟨r, 1, none⟩ = some (.int .i64 f) ∧ w'.cell? ⟨r, 2, none⟩ = some (.slice (some ⟨b0, off, none⟩) n c) ∧ w'.cell? ⟨r, 5, none⟩ = some (.int .i64 (k : Int)) ∧ w'.cell? ⟨r, 6, none⟩ = some (accV q) ∧ w'.cell? ⟨b0, off + k, none⟩ = some (.int .u64 x))
    (first
      | exact ⟨h1, h2, h5, h6, hx⟩
      | go_keep
      | (go_split_ands; exact ⟨hk1.cell (by assumption) (by show ¬ (r = z ∨ r = gw); omega), hk1.cell (by assumption) (by show ¬ (r = z ∨ r = gw); omega), hk1.cell (by assumption) (by show ¬ (r = z ∨ r = gw); omega), hk1.cell (by assumption) (by show ¬ (r = z ∨ r = gw); omega), hk1.cell (by assumption) (by show ¬ (b0 = z ∨ b0 = gw); omega)⟩))
    (first | (go_at_call 85; refine (HC.out _ HF.out.drew).mono ?_; rintro e w1 ⟨rfl, hF1, hk1⟩))
  all_goals
    have HF1 := Lib.hid hF1
    have HK1 := Lib.hid ((Keeps.drewN (Keeps.refl (fun k => k = z ∨ k = gw) W) 1).trans hk1)
    have HR1 := Lib.hid (HR.out.keeps HK1.out (by show ¬ (r = z ∨ r = gw); omega))
    clear hF1 hk1 HC HF HR h1 h2 h5 h6 hx hadd hk0 hk2'
    rename_i hHeld
    clear hHeld
    clear hbz hbg
    go_wp2
    exact bodyPost_ret (v := .bool false) (by simp [results, Try.results71, go_sem]) rfl ⟨rfl, HF1.out, HR1.out, HK1.out.sub fun k _ e => by rcases e with e | e; exact .inl e; exact .inr (.inl e)⟩
set_option maxRecDepth 100000 in
set_option maxHeartbeats 4000000 in
theorem wnext_last (B q z gw gl cw cl r : Nat) (T : TypeId) (ex : List Value) (us : List Int) (ms : List Bool) (u : Bool) (a f ph b : Int) (k : Nat) (v : Value) (W : World) (hF : AccF B q z gw gl cw cl us ms u W) (hR : WBox W r T ex ⟨a, f, ph, b, (k : Int)⟩ v q) (hT : wkind T) (hr : rightB us ms = true) (S : Nat → Prop) (hSz : S z) (hSg : S gw) (vs : List Int) (hV : VV S W v vs) (hk : k < vs.length) (hl : vs.length ≤ 16) (hf0 : 0 ≤ f) (hf1 : f ≤ 4096) (hlast : k + 1 = vs.length) (us' : List Int) (u' : Bool) (h : Int)  (hacc : accM us ms u 2 (f + (k : Int)) 0 (vs.getD k 0) = (us', u', h, true)) :
    Calls Try.prog 71 #[.pointer (some ⟨r, 0, none⟩)] W fun e w' => WDone B q z gw gl cw cl r T ex us' ms u' true ⟨a, f, 3, b, (k : Int) + 1⟩ v W e w' := by
  obtain ⟨p, c, rfl, ⟨hnc, hcm⟩, hpc⟩ := hV
  rcases hpc with ⟨-, rfl, -⟩ | ⟨b0, off, rfl, hSb, hcs⟩
  · simp at hk
  have hx := hcs k hk
  obtain ⟨x, hxd⟩ : ∃ x, x = vs.getD k 0 := ⟨_, rfl⟩
  rw [← hxd] at hacc
  rw [show vs[k] = x by rw [hxd]; simp [List.getD, hk]] at hx
  have hbz : b0 ≠ z := fun e => hSb (e ▸ hSz)
  have hbg : b0 ≠ gw := fun e => hSb (e ▸ hSg)
  have hadd : IntKind.i64.wrap (f + (k : Int)) = f + (k : Int) := IntWalk.i64_in _ (by omega)
  have HADD := Lib.hid hadd
  obtain ⟨n, hn⟩ : ∃ n, n = vs.length := ⟨_, rfl⟩
  have HN := Lib.hid hn
  have HKB := Lib.hid (show k ≤ 16 by omega)
  rw [← hn] at hR hnc hl hk hlast
  rw [← hn]
  clear hcs hxd hSb hn hadd
  obtain ⟨nq, nz, nw, nl⟩ := hF.apartW hR hT
  have HC := Lib.hid (fun (Z : World) (hz : AccF B q z gw gl cw cl us ms u Z) => hacc ▸ qstore_c B q z gw gl cw cl us ms u (f + (k : Int)) x Z hz hr (by omega) (by omega))
  have HF := Lib.hid hF
  have HR := Lib.hid hR
  obtain ⟨⟨h0, h1, h2, h3⟩, h4, h5, h6⟩ := hR.cells
  dsimp only at h0 h1 h3 h4 h5
  clear hF hR hr hacc h0 h3 h4 hl hf0 hf1 hnc hcm
  go_enter Try.func71, Try.ntmps71
  go_upto_region 1 with fail
  have hadd := HADD.out
  have hk0 : (0 : Int) ≤ (k : Int) := by omega
  have hk1' : (k : Int) < (n : Int) := by omega
  have hk2' : ((k : Int)).toNat = k := by omega
  go_region_held3 (fun w' => w'.cell? ⟨r, 1, none⟩ = some (.int .i64 f) ∧ w'.cell? ⟨r, 2, none⟩ = some (.slice (some ⟨b0, off, none⟩) n c) ∧ w'.cell? ⟨r, 5, none⟩ = some (.int .i64 (k : Int)) ∧ w'.cell? ⟨r, 6, none⟩ = some (accV q) ∧ w'.cell? ⟨b0, off + k, none⟩ = some (.int .u64 x))
    (first
      | exact ⟨h1, h2, h5, h6, hx⟩
      | go_keep
      | (go_split_ands; exact ⟨hk1.cell (by assumption) (by show ¬ (r = z ∨ r = gw); omega), hk1.cell (by assumption) (by show ¬ (r = z ∨ r = gw); omega), hk1.cell (by assumption) (by show ¬ (r = z ∨ r = gw); omega), hk1.cell (by assumption) (by show ¬ (r = z ∨ r = gw); omega), hk1.cell (by assumption) (by show ¬ (b0 = z ∨ b0 = gw); omega)⟩))
    (first | (go_at_call 85; refine (HC.out _ HF.out.drew).mono ?_; rintro e w1 ⟨rfl, hF1, hk1⟩))
  all_goals
    have HF1 := Lib.hid hF1
    have HK1 := Lib.hid ((Keeps.drewN (Keeps.refl (fun k => k = z ∨ k = gw) W) 1).trans hk1)
    have HR1 := Lib.hid (HR.out.keeps HK1.out (by show ¬ (r = z ∨ r = gw); omega))
    clear hF1 hk1 HC HF HR h1 h2 h5 h6 hx hadd hk0 hk2'
    rename_i hHeld
    clear hHeld
    obtain ⟨⟨-, -, k2, k3⟩, -, k5, -⟩ := HR1.out.cells
    have m5 := HR1.out.marks 5
    have hR2 := HR1.out.setW ((k : Int) + 1)
    have hkk := Keeps.setCell w1 (S := (· = r)) (p := ⟨r, 5, none⟩) rfl (.int .i64 ((k : Int) + 1))
    have HF2 := Lib.hid (HF1.out.keeps hkk (by show ¬ q = r; omega) (by show ¬ z = r; omega) (by show ¬ gw = r; omega) (by show ¬ gl = r; omega))
    have HK2 := Lib.hid ((HK1.out.sub (T := fun k => k = z ∨ k = gw ∨ k = r) fun k _ e => by rcases e with e | e; exact .inl e; exact .inr (.inl e)).trans (hkk.sub fun k _ e => .inr (.inr e)))
    obtain ⟨w2, hw2⟩ : ∃ X : World, X = w1.setCell ⟨r, 5, none⟩ (.int .i64 ((k : Int) + 1)) := ⟨_, rfl⟩
    rw [← hw2] at hR2 HF2 HK2
    have HW2 := Lib.hid hw2
    have HR2 := Lib.hid hR2
    clear hw2 hkk HF1 HR1 HK1 hbz hbg
    dsimp only at k2 k3 k5
    have hkb := HKB.out
    go_upto_region 4 with fail
    rw [← HW2.out]
    clear k2 k3 k5 m5 HW2 hkb
    obtain ⟨⟨-, -, k2, k3⟩, -, k5, -⟩ := hR2.cells
    have m3 := hR2.marks 3
    dsimp only at k2 k3 k5
    obtain rfl : n = k + 1 := by omega
    have hcmp : (((k : Int) + 1) == ((k : Int) + 1)) = true := by simp
    clear hR2 hk1' hlast hk
    go_quiet (fail)
    go_wp2
    exact bodyPost_ret (v := .bool true) (by simp [results, Try.results71, go_sem]) rfl ⟨rfl, (HF2.out.drewN _).keeps (Keeps.setCell _ (S := (· = r)) (p := ⟨r, 3, none⟩) rfl (.int .i64 3)) (by show ¬ q = r; omega) (by show ¬ z = r; omega) (by show ¬ gw = r; omega) (by show ¬ gl = r; omega), WBox.setP (w := w2.drewN _) (show WBox (w2.drewN _) r T ex _ _ q from HR2.out) 3, (HK2.out.drewN _).trans ((Keeps.setCell _ (S := (· = r)) (p := ⟨r, 3, none⟩) rfl (.int .i64 3)).sub fun k _ e => .inr (.inr e))⟩
set_option maxRecDepth 100000 in
set_option maxHeartbeats 4000000 in
theorem wnext_more (B q z gw gl cw cl r : Nat) (T : TypeId) (ex : List Value) (us : List Int) (ms : List Bool) (u : Bool) (a f ph b : Int) (k : Nat) (v : Value) (W : World) (hF : AccF B q z gw gl cw cl us ms u W) (hR : WBox W r T ex ⟨a, f, ph, b, (k : Int)⟩ v q) (hT : wkind T) (hr : rightB us ms = true) (S : Nat → Prop) (hSz : S z) (hSg : S gw) (vs : List Int) (hV : VV S W v vs) (hk : k < vs.length) (hl : vs.length ≤ 16) (hf0 : 0 ≤ f) (hf1 : f ≤ 4096) (hmore : k + 1 < vs.length) (hph : ph = 2) (us' : List Int) (u' : Bool) (h : Int)  (hacc : accM us ms u 2 (f + (k : Int)) 0 (vs.getD k 0) = (us', u', h, true)) :
    Calls Try.prog 71 #[.pointer (some ⟨r, 0, none⟩)] W fun e w' => WDone B q z gw gl cw cl r T ex us' ms u' true ⟨a, f, 2, b, (k : Int) + 1⟩ v W e w' := by
  subst hph
  obtain ⟨p, c, rfl, ⟨hnc, hcm⟩, hpc⟩ := hV
  rcases hpc with ⟨-, rfl, -⟩ | ⟨b0, off, rfl, hSb, hcs⟩
  · simp at hk
  have hx := hcs k hk
  obtain ⟨x, hxd⟩ : ∃ x, x = vs.getD k 0 := ⟨_, rfl⟩
  rw [← hxd] at hacc
  rw [show vs[k] = x by rw [hxd]; simp [List.getD, hk]] at hx
  have hbz : b0 ≠ z := fun e => hSb (e ▸ hSz)
  have hbg : b0 ≠ gw := fun e => hSb (e ▸ hSg)
  have hadd : IntKind.i64.wrap (f + (k : Int)) = f + (k : Int) := IntWalk.i64_in _ (by omega)
  have HADD := Lib.hid hadd
  obtain ⟨n, hn⟩ : ∃ n, n = vs.length := ⟨_, rfl⟩
  have HN := Lib.hid hn
  have HKB := Lib.hid (show k ≤ 16 by omega)
  rw [← hn] at hR hnc hl hk hmore
  rw [← hn]
  clear hcs hxd hSb hn hadd
  obtain ⟨nq, nz, nw, nl⟩ := hF.apartW hR hT
  have HC := Lib.hid (fun (Z : World) (hz : AccF B q z gw gl cw cl us ms u Z) => hacc ▸ qstore_c B q z gw gl cw cl us ms u (f + (k : Int)) x Z hz hr (by omega) (by omega))
  have HF := Lib.hid hF
  have HR := Lib.hid hR
  obtain ⟨⟨h0, h1, h2, h3⟩, h4, h5, h6⟩ := hR.cells
  dsimp only at h0 h1 h3 h4 h5
  clear hF hR hr hacc h0 h3 h4 hl hf0 hf1 hnc hcm
  go_enter Try.func71, Try.ntmps71
  go_upto_region 1 with fail
  have hadd := HADD.out
  have hk0 : (0 : Int) ≤ (k : Int) := by omega
  have hk1' : (k : Int) < (n : Int) := by omega
  have hk2' : ((k : Int)).toNat = k := by omega
  go_region_held3 (fun w' => w'.cell? ⟨r, 1, none⟩ = some (.int .i64 f) ∧ w'.cell? ⟨r, 2, none⟩ = some (.slice (some ⟨b0, off, none⟩) n c) ∧ w'.cell? ⟨r, 5, none⟩ = some (.int .i64 (k : Int)) ∧ w'.cell? ⟨r, 6, none⟩ = some (accV q) ∧ w'.cell? ⟨b0, off + k, none⟩ = some (.int .u64 x))
    (first
      | exact ⟨h1, h2, h5, h6, hx⟩
      | go_keep
      | (go_split_ands; exact ⟨hk1.cell (by assumption) (by show ¬ (r = z ∨ r = gw); omega), hk1.cell (by assumption) (by show ¬ (r = z ∨ r = gw); omega), hk1.cell (by assumption) (by show ¬ (r = z ∨ r = gw); omega), hk1.cell (by assumption) (by show ¬ (r = z ∨ r = gw); omega), hk1.cell (by assumption) (by show ¬ (b0 = z ∨ b0 = gw); omega)⟩))
    (first | (go_at_call 85; refine (HC.out _ HF.out.drew).mono ?_; rintro e w1 ⟨rfl, hF1, hk1⟩))
  all_goals
    have HF1 := Lib.hid hF1
    have HK1 := Lib.hid ((Keeps.drewN (Keeps.refl (fun k => k = z ∨ k = gw) W) 1).trans hk1)
    have HR1 := Lib.hid (HR.out.keeps HK1.out (by show ¬ (r = z ∨ r = gw); omega))
    clear hF1 hk1 HC HF HR h1 h2 h5 h6 hx hadd hk0 hk2'
    rename_i hHeld
    clear hHeld
    obtain ⟨⟨-, -, k2, k3⟩, -, k5, -⟩ := HR1.out.cells
    have m5 := HR1.out.marks 5
    have hR2 := HR1.out.setW ((k : Int) + 1)
    have hkk := Keeps.setCell w1 (S := (· = r)) (p := ⟨r, 5, none⟩) rfl (.int .i64 ((k : Int) + 1))
    have HF2 := Lib.hid (HF1.out.keeps hkk (by show ¬ q = r; omega) (by show ¬ z = r; omega) (by show ¬ gw = r; omega) (by show ¬ gl = r; omega))
    have HK2 := Lib.hid ((HK1.out.sub (T := fun k => k = z ∨ k = gw ∨ k = r) fun k _ e => by rcases e with e | e; exact .inl e; exact .inr (.inl e)).trans (hkk.sub fun k _ e => .inr (.inr e)))
    obtain ⟨w2, hw2⟩ : ∃ X : World, X = w1.setCell ⟨r, 5, none⟩ (.int .i64 ((k : Int) + 1)) := ⟨_, rfl⟩
    rw [← hw2] at hR2 HF2 HK2
    have HW2 := Lib.hid hw2
    have HR2 := Lib.hid hR2
    clear hw2 hkk HF1 HR1 HK1 hbz hbg
    dsimp only at k2 k3 k5
    have hkb := HKB.out
    go_upto_region 4 with fail
    rw [← HW2.out]
    clear k2 k3 k5 m5 HW2 hkb
    obtain ⟨⟨-, -, k2, k3⟩, -, k5, -⟩ := hR2.cells
    have m3 := hR2.marks 3
    dsimp only at k2 k3 k5
    have hcmp : (((k : Int) + 1) == (n : Int)) = false := by simp; omega
    clear hR2 hk1' hmore hk
    go_quiet (fail)
    go_wp2
    exact bodyPost_ret (v := .bool true) (by simp [results, Try.results71, go_sem]) rfl ⟨rfl, HF2.out.drewN _, HR2.out, HK2.out.drewN _⟩

end Go.Proofs.Ytaljpggajpoalaa
/-
  A step of a writer of package seq, as plain mathematics says it.
  Conditions: the memory may be, the write may be.
-/
namespace Go.Proofs.Ytaljpggajpoalaa
open Go.RowKit Go.Shelf

def wmap (r : Nat) : Obj := map4 (bmV 69 r) (bmV 70 r) (bmV 71 r) (bmV 72 r)
/-- A memory's words, its fault, and a write, as they lie. -/
def WS (B q z gw gl cw cl r : Nat) (T : TypeId) (ex : List Value) (S : Nat → Prop) (ms : List Bool) (v : Value) (vs : List Int) (x : (List Int × Bool) × WrM) (w : World) : Prop :=
  AccF B q z gw gl cw cl x.1.1 ms x.1.2 w ∧ WBox w r T ex x.2 v q ∧ VV S w v vs
theorem WS.put5 {B q z gw gl cw cl r : Nat} {T : TypeId} {ex : List Value} {S : Nat → Prop} {ms : List Bool} {v : Value} {vs : List Int} {x : (List Int × Bool) × WrM} {w : World} (h : WS B q z gw gl cw cl r T ex S ms v vs x w) (hT : wkind T) (hS : S r) :
    WS B q z gw gl cw cl r T ex S ms v vs (x.1, { x.2 with p := 5 }) (w.setCell ⟨r, 3, none⟩ (.int .i64 5)) ∧ Keeps (fun k => k = r) w (w.setCell ⟨r, 3, none⟩ (.int .i64 5)) := by
  obtain ⟨hF, hR, hV⟩ := h
  obtain ⟨nq, nz, nw, nl⟩ := hF.apartW hR hT
  have hk : Keeps (fun k => k = r) w (w.setCell ⟨r, 3, none⟩ (.int .i64 5)) := Keeps.setCell w (S := (· = r)) (p := ⟨r, 3, none⟩) rfl _
  exact ⟨⟨hF.keeps hk (fun e => nq e.symm) (fun e => nz e.symm) (fun e => nw e.symm) (fun e => nl e.symm), hR.setP 5, hV.keeps hk (fun k e => e ▸ hS)⟩, hk⟩
theorem WS.cell {B q z gw gl cw cl r : Nat} {T : TypeId} {ex : List Value} {S : Nat → Prop} {ms : List Bool} {v : Value} {vs : List Int} {x : (List Int × Bool) × WrM} {w : World} (h : WS B q z gw gl cw cl r T ex S ms v vs x w) : w.cell? ⟨r, 3, none⟩ = some (.int .i64 x.2.p) ∧ w.frozen? ⟨r, 3, none⟩ = false := by
  obtain ⟨hF, hR, hV⟩ := h
  exact ⟨hR.cells.1.2.2.2, hR.marks 3⟩
theorem ws_begin_t (B q z gw gl cw cl r mb : Nat) (T : TypeId) (ex : List Value) (S : Nat → Prop) (ms : List Bool) (v : Value) (vs : List Int) (x : (List Int × Bool) × WrM) (W : World) (hc : W.cell? ⟨r, 3, none⟩ = some (.int .i64 0)) (hM : W.heap[mb]? = some (wmap r))
    (hC : Calls Try.prog 69 #[.pointer (some ⟨r, 0, none⟩)] W fun e w' => e = .returned (.bool true) ∧ WS B q z gw gl cw cl r T ex S ms v vs x w' ∧ Keeps (fun k => k = z ∨ k = gw ∨ k = r) W w') :
    Calls Try.prog 47 #[.pointer (some ⟨r, 3, none⟩), .map (some mb)] W fun e w' => e = .returned (.tuple #[]) ∧ WS B q z gw gl cw cl r T ex S ms v vs x w' ∧ Keeps (fun k => k = z ∨ k = gw ∨ k = r) W w' :=
  (step_wbegin r mb 0 _ 4 0 (fun d w' => d = true ∧ WS B q z gw gl cw cl r T ex S ms v vs x w' ∧ Keeps (fun k => k = z ∨ k = gw ∨ k = r) W w') W hc hM rfl (hC.mono fun e w' h => ⟨true, h.1, rfl, h.2⟩) (fun w' h => by cases h.1)).mono fun e w' h => by
    obtain ⟨rfl, w1, ⟨h1, rfl⟩ | ⟨h1, _⟩⟩ := h
    · exact ⟨rfl, h1.2⟩
    · cases h1.1
theorem ws_begin_f (B q z gw gl cw cl r mb : Nat) (T : TypeId) (ex : List Value) (S : Nat → Prop) (ms : List Bool) (v : Value) (vs : List Int) (x : (List Int × Bool) × WrM) (W : World) (hT : wkind T) (hS : S r) (hc : W.cell? ⟨r, 3, none⟩ = some (.int .i64 0)) (hM : W.heap[mb]? = some (wmap r))
    (hC : Calls Try.prog 69 #[.pointer (some ⟨r, 0, none⟩)] W fun e w' => e = .returned (.bool false) ∧ WS B q z gw gl cw cl r T ex S ms v vs x w' ∧ Keeps (fun k => k = z ∨ k = gw ∨ k = r) W w') :
    Calls Try.prog 47 #[.pointer (some ⟨r, 3, none⟩), .map (some mb)] W fun e w' => e = .returned (.tuple #[]) ∧ WS B q z gw gl cw cl r T ex S ms v vs (x.1, { x.2 with p := 5 }) w' ∧ Keeps (fun k => k = z ∨ k = gw ∨ k = r) W w' :=
  (step_wbegin r mb 0 _ 4 0 (fun d w' => d = false ∧ WS B q z gw gl cw cl r T ex S ms v vs x w' ∧ Keeps (fun k => k = z ∨ k = gw ∨ k = r) W w') W hc hM rfl (hC.mono fun e w' h => ⟨false, h.1, rfl, h.2⟩) (fun w' h => ⟨_, h.2.1.cell.1, h.2.1.cell.2⟩)).mono fun e w' h => by
    obtain ⟨rfl, w1, ⟨h1, rfl⟩ | ⟨h1, rfl⟩⟩ := h
    · cases h1.1
    · have hp := h1.2.1.put5 hT hS
      exact ⟨rfl, hp.1, h1.2.2.trans (hp.2.sub fun k _ e => .inr (.inr e))⟩
theorem ws_open_t (B q z gw gl cw cl r mb : Nat) (T : TypeId) (ex : List Value) (S : Nat → Prop) (ms : List Bool) (v : Value) (vs : List Int) (x : (List Int × Bool) × WrM) (W : World) (hc : W.cell? ⟨r, 3, none⟩ = some (.int .i64 1)) (hM : W.heap[mb]? = some (wmap r))
    (hC : Calls Try.prog 70 #[.pointer (some ⟨r, 0, none⟩)] W fun e w' => e = .returned (.bool true) ∧ WS B q z gw gl cw cl r T ex S ms v vs x w' ∧ Keeps (fun k => k = z ∨ k = gw ∨ k = r) W w') :
    Calls Try.prog 47 #[.pointer (some ⟨r, 3, none⟩), .map (some mb)] W fun e w' => e = .returned (.tuple #[]) ∧ WS B q z gw gl cw cl r T ex S ms v vs x w' ∧ Keeps (fun k => k = z ∨ k = gw ∨ k = r) W w' :=
  (step_wopen r mb 1 _ 4 1 (fun d w' => d = true ∧ WS B q z gw gl cw cl r T ex S ms v vs x w' ∧ Keeps (fun k => k = z ∨ k = gw ∨ k = r) W w') W hc hM rfl (hC.mono fun e w' h => ⟨true, h.1, rfl, h.2⟩) (fun w' h => by cases h.1)).mono fun e w' h => by
    obtain ⟨rfl, w1, ⟨h1, rfl⟩ | ⟨h1, _⟩⟩ := h
    · exact ⟨rfl, h1.2⟩
    · cases h1.1
theorem ws_open_f (B q z gw gl cw cl r mb : Nat) (T : TypeId) (ex : List Value) (S : Nat → Prop) (ms : List Bool) (v : Value) (vs : List Int) (x : (List Int × Bool) × WrM) (W : World) (hT : wkind T) (hS : S r) (hc : W.cell? ⟨r, 3, none⟩ = some (.int .i64 1)) (hM : W.heap[mb]? = some (wmap r))
    (hC : Calls Try.prog 70 #[.pointer (some ⟨r, 0, none⟩)] W fun e w' => e = .returned (.bool false) ∧ WS B q z gw gl cw cl r T ex S ms v vs x w' ∧ Keeps (fun k => k = z ∨ k = gw ∨ k = r) W w') :
    Calls Try.prog 47 #[.pointer (some ⟨r, 3, none⟩), .map (some mb)] W fun e w' => e = .returned (.tuple #[]) ∧ WS B q z gw gl cw cl r T ex S ms v vs (x.1, { x.2 with p := 5 }) w' ∧ Keeps (fun k => k = z ∨ k = gw ∨ k = r) W w' :=
  (step_wopen r mb 1 _ 4 1 (fun d w' => d = false ∧ WS B q z gw gl cw cl r T ex S ms v vs x w' ∧ Keeps (fun k => k = z ∨ k = gw ∨ k = r) W w') W hc hM rfl (hC.mono fun e w' h => ⟨false, h.1, rfl, h.2⟩) (fun w' h => ⟨_, h.2.1.cell.1, h.2.1.cell.2⟩)).mono fun e w' h => by
    obtain ⟨rfl, w1, ⟨h1, rfl⟩ | ⟨h1, rfl⟩⟩ := h
    · cases h1.1
    · have hp := h1.2.1.put5 hT hS
      exact ⟨rfl, hp.1, h1.2.2.trans (hp.2.sub fun k _ e => .inr (.inr e))⟩
theorem ws_next_t (B q z gw gl cw cl r mb : Nat) (T : TypeId) (ex : List Value) (S : Nat → Prop) (ms : List Bool) (v : Value) (vs : List Int) (x : (List Int × Bool) × WrM) (W : World) (hc : W.cell? ⟨r, 3, none⟩ = some (.int .i64 2)) (hM : W.heap[mb]? = some (wmap r))
    (hC : Calls Try.prog 71 #[.pointer (some ⟨r, 0, none⟩)] W fun e w' => e = .returned (.bool true) ∧ WS B q z gw gl cw cl r T ex S ms v vs x w' ∧ Keeps (fun k => k = z ∨ k = gw ∨ k = r) W w') :
    Calls Try.prog 47 #[.pointer (some ⟨r, 3, none⟩), .map (some mb)] W fun e w' => e = .returned (.tuple #[]) ∧ WS B q z gw gl cw cl r T ex S ms v vs x w' ∧ Keeps (fun k => k = z ∨ k = gw ∨ k = r) W w' :=
  (step_wnext r mb 2 _ 4 2 (fun d w' => d = true ∧ WS B q z gw gl cw cl r T ex S ms v vs x w' ∧ Keeps (fun k => k = z ∨ k = gw ∨ k = r) W w') W hc hM rfl (hC.mono fun e w' h => ⟨true, h.1, rfl, h.2⟩) (fun w' h => by cases h.1)).mono fun e w' h => by
    obtain ⟨rfl, w1, ⟨h1, rfl⟩ | ⟨h1, _⟩⟩ := h
    · exact ⟨rfl, h1.2⟩
    · cases h1.1
theorem ws_next_f (B q z gw gl cw cl r mb : Nat) (T : TypeId) (ex : List Value) (S : Nat → Prop) (ms : List Bool) (v : Value) (vs : List Int) (x : (List Int × Bool) × WrM) (W : World) (hT : wkind T) (hS : S r) (hc : W.cell? ⟨r, 3, none⟩ = some (.int .i64 2)) (hM : W.heap[mb]? = some (wmap r))
    (hC : Calls Try.prog 71 #[.pointer (some ⟨r, 0, none⟩)] W fun e w' => e = .returned (.bool false) ∧ WS B q z gw gl cw cl r T ex S ms v vs x w' ∧ Keeps (fun k => k = z ∨ k = gw ∨ k = r) W w') :
    Calls Try.prog 47 #[.pointer (some ⟨r, 3, none⟩), .map (some mb)] W fun e w' => e = .returned (.tuple #[]) ∧ WS B q z gw gl cw cl r T ex S ms v vs (x.1, { x.2 with p := 5 }) w' ∧ Keeps (fun k => k = z ∨ k = gw ∨ k = r) W w' :=
  (step_wnext r mb 2 _ 4 2 (fun d w' => d = false ∧ WS B q z gw gl cw cl r T ex S ms v vs x w' ∧ Keeps (fun k => k = z ∨ k = gw ∨ k = r) W w') W hc hM rfl (hC.mono fun e w' h => ⟨false, h.1, rfl, h.2⟩) (fun w' h => ⟨_, h.2.1.cell.1, h.2.1.cell.2⟩)).mono fun e w' h => by
    obtain ⟨rfl, w1, ⟨h1, rfl⟩ | ⟨h1, rfl⟩⟩ := h
    · cases h1.1
    · have hp := h1.2.1.put5 hT hS
      exact ⟨rfl, hp.1, h1.2.2.trans (hp.2.sub fun k _ e => .inr (.inr e))⟩
theorem ws_close_t (B q z gw gl cw cl r mb : Nat) (T : TypeId) (ex : List Value) (S : Nat → Prop) (ms : List Bool) (v : Value) (vs : List Int) (x : (List Int × Bool) × WrM) (W : World) (hc : W.cell? ⟨r, 3, none⟩ = some (.int .i64 3)) (hM : W.heap[mb]? = some (wmap r))
    (hC : Calls Try.prog 72 #[.pointer (some ⟨r, 0, none⟩)] W fun e w' => e = .returned (.bool true) ∧ WS B q z gw gl cw cl r T ex S ms v vs x w' ∧ Keeps (fun k => k = z ∨ k = gw ∨ k = r) W w') :
    Calls Try.prog 47 #[.pointer (some ⟨r, 3, none⟩), .map (some mb)] W fun e w' => e = .returned (.tuple #[]) ∧ WS B q z gw gl cw cl r T ex S ms v vs x w' ∧ Keeps (fun k => k = z ∨ k = gw ∨ k = r) W w' :=
  (step_wclose r mb 3 _ 4 3 (fun d w' => d = true ∧ WS B q z gw gl cw cl r T ex S ms v vs x w' ∧ Keeps (fun k => k = z ∨ k = gw ∨ k = r) W w') W hc hM rfl (hC.mono fun e w' h => ⟨true, h.1, rfl, h.2⟩) (fun w' h => by cases h.1)).mono fun e w' h => by
    obtain ⟨rfl, w1, ⟨h1, rfl⟩ | ⟨h1, _⟩⟩ := h
    · exact ⟨rfl, h1.2⟩
    · cases h1.1
theorem ws_close_f (B q z gw gl cw cl r mb : Nat) (T : TypeId) (ex : List Value) (S : Nat → Prop) (ms : List Bool) (v : Value) (vs : List Int) (x : (List Int × Bool) × WrM) (W : World) (hT : wkind T) (hS : S r) (hc : W.cell? ⟨r, 3, none⟩ = some (.int .i64 3)) (hM : W.heap[mb]? = some (wmap r))
    (hC : Calls Try.prog 72 #[.pointer (some ⟨r, 0, none⟩)] W fun e w' => e = .returned (.bool false) ∧ WS B q z gw gl cw cl r T ex S ms v vs x w' ∧ Keeps (fun k => k = z ∨ k = gw ∨ k = r) W w') :
    Calls Try.prog 47 #[.pointer (some ⟨r, 3, none⟩), .map (some mb)] W fun e w' => e = .returned (.tuple #[]) ∧ WS B q z gw gl cw cl r T ex S ms v vs (x.1, { x.2 with p := 5 }) w' ∧ Keeps (fun k => k = z ∨ k = gw ∨ k = r) W w' :=
  (step_wclose r mb 3 _ 4 3 (fun d w' => d = false ∧ WS B q z gw gl cw cl r T ex S ms v vs x w' ∧ Keeps (fun k => k = z ∨ k = gw ∨ k = r) W w') W hc hM rfl (hC.mono fun e w' h => ⟨false, h.1, rfl, h.2⟩) (fun w' h => ⟨_, h.2.1.cell.1, h.2.1.cell.2⟩)).mono fun e w' h => by
    obtain ⟨rfl, w1, ⟨h1, rfl⟩ | ⟨h1, rfl⟩⟩ := h
    · cases h1.1
    · have hp := h1.2.1.put5 hT hS
      exact ⟨rfl, hp.1, h1.2.2.trans (hp.2.sub fun k _ e => .inr (.inr e))⟩

theorem ws_nochange (B q z gw gl cw cl r mb : Nat) (T : TypeId) (ex : List Value) (S : Nat → Prop) (ms : List Bool) (v : Value) (vs : List Int) (x : (List Int × Bool) × WrM) (W : World) (h : WS B q z gw gl cw cl r T ex S ms v vs x W) (hM : W.heap[mb]? = some (wmap r)) (hp : x.2.p = 4 ∨ x.2.p = 5) :
    Calls Try.prog 47 #[.pointer (some ⟨r, 3, none⟩), .map (some mb)] W fun e w' => e = .returned (.tuple #[]) ∧ WS B q z gw gl cw cl r T ex S ms v vs x w' ∧ Keeps (fun k => k = z ∨ k = gw ∨ k = r) W w' := by
  refine (step_miss r mb x.2.p _ 4 W h.cell.1 hM ?_).mono fun e w' h' => ?_
  · rcases hp with e | e <;> rw [e] <;> rfl
  · obtain ⟨rfl, rfl⟩ := h'
    exact ⟨rfl, h, Keeps.refl _ _⟩
theorem wdone_ws {B q z gw gl cw cl r : Nat} {T : TypeId} {ex : List Value} {S : Nat → Prop} {us : List Int} {ms : List Bool} {u d : Bool} {s : WrM} {v : Value} {vs : List Int} {W : World} (hV : ∀ w', Keeps (fun k => k = z ∨ k = gw ∨ k = r) W w' → VV S w' v vs) {e : Ending} {w' : World} (h : WDone B q z gw gl cw cl r T ex us ms u d s v W e w') :
    e = .returned (.bool d) ∧ WS B q z gw gl cw cl r T ex S ms v vs ((us, u), s) w' ∧ Keeps (fun k => k = z ∨ k = gw ∨ k = r) W w' :=
  ⟨h.1, ⟨h.2.1, h.2.2.1, hV w' h.2.2.2⟩, h.2.2.2⟩
theorem wstep_c (B q z gw gl cw cl r mb : Nat) (T : TypeId) (ex : List Value) (S : Nat → Prop) (us : List Int) (ms : List Bool) (u : Bool) (s : WrM) (v : Value) (vs : List Int) (W : World) (h : WS B q z gw gl cw cl r T ex S ms v vs ((us, u), s) W) (hM : W.heap[mb]? = some (wmap r)) (hT : wkind T) (hr : rightB us ms = true) (hw : WRange us) (hR : rightWB s vs.length = true) (hS : ∀ k, (k = z ∨ k = gw ∨ k = r) → S k) :
    Calls Try.prog 47 #[.pointer (some ⟨r, 3, none⟩), .map (some mb)] W fun e w' => e = .returned (.tuple #[]) ∧ WS B q z gw gl cw cl r T ex S ms v vs (stepW ms us u s vs) w' ∧ Keeps (fun k => k = z ∨ k = gw ∨ k = r) W w' := by
  obtain ⟨⟨hn0, hn1⟩, hb, hF⟩ := rightWB_parts hR
  obtain ⟨g0, g2, g3, gw', gp⟩ := fitsW_parts hF
  obtain ⟨ha0, ha1, hf0, hf1⟩ : 0 ≤ s.a ∧ s.a ≤ 4096 ∧ 0 ≤ s.f ∧ s.f ≤ 4096 := by
    unfold rightWB apartB at hR
    simp only [Bool.and_eq_true, decide_eq_true_eq] at hR
    obtain ⟨⟨⟨⟨-, -⟩, ⟨⟨⟨g1, g2⟩, g3⟩, g4⟩, -⟩, -⟩, -⟩ := hR
    exact ⟨g1, g2, g3, g4⟩
  by_cases h4 : 4 ≤ s.p
  · have e : stepW ms us u s vs = ((us, u), s) := by unfold stepW; rw [if_pos h4]
    rw [e]
    exact ws_nochange B q z gw gl cw cl r mb T ex S ms v vs _ W h hM (by show s.p = 4 ∨ s.p = 5; omega)
  · have hcell := h.cell.1
    obtain ⟨hA, hX, hV⟩ := h
    obtain ⟨⟨us', u', hh, d⟩, hq⟩ : ∃ x, x = (if s.p = 0 then accM us ms u 1 s.a 0 0 else accM us ms u 2 (if s.p = 2 then s.f + s.w else s.a) 0 (if s.p = 1 then IntKind.u64.wrap (s.b + 1) else if s.p = 2 then vs.getD s.w.toNat 0 else IntKind.u64.wrap (s.b + 2))) := ⟨_, rfl⟩
    have hst : stepW ms us u s vs = ((us', u'), if d = false then { s with p := 5 }
        else if s.p = 0 then (if hh % 2 = 0 then { s with b := hh, p := 1 } else s)
        else if s.p = 1 then { s with p := 2 }
        else if s.p = 2 then { s with w := s.w + 1, p := if s.w + 1 = vs.length then 3 else 2 }
        else { s with p := 4 }) := by
      unfold stepW
      rw [if_neg h4]
      dsimp only
      rw [← hq]
    rw [hst]
    clear hst
    have HV : ∀ w', Keeps (fun k => k = z ∨ k = gw ∨ k = r) W w' → VV S w' v vs := fun w' hk => hV.keeps hk hS
    obtain ⟨a, f, p, b, wr⟩ := s
    dsimp only at *
    have hSr := hS r (.inr (.inr rfl))
    have hp3 : p = 0 ∨ p = 1 ∨ p = 2 ∨ p = 3 := by omega
    clear h4 gp
    rcases hp3 with rfl | rfl | rfl | rfl
    · rw [if_pos rfl] at hq
      have hrg := acc_range hw hq.symm
      cases d with
      | false =>
        rw [if_pos rfl]
        exact ws_begin_f B q z gw gl cw cl r mb T ex S ms v vs ((us', u'), ⟨a, f, 0, b, wr⟩) W hT hSr hcell hM ((wbegin_no B q z gw gl cw cl r T ex us ms u a f 0 b wr v W hA hX hT hr ha0 ha1 us' u' hh hq.symm).mono fun e w' h => wdone_ws HV h)
      | true =>
        rw [if_neg (by decide), if_pos rfl]
        by_cases ho : hh % 2 = 0
        · rw [if_pos ho]
          exact ws_begin_t B q z gw gl cw cl r mb T ex S ms v vs _ W hcell hM ((wbegin_even B q z gw gl cw cl r T ex us ms u a f 0 b wr v W hA hX hT hr ha0 ha1 us' u' hh hrg ho hq.symm).mono fun e w' h => wdone_ws HV h)
        · rw [if_neg ho]
          exact ws_begin_t B q z gw gl cw cl r mb T ex S ms v vs _ W hcell hM ((wbegin_odd B q z gw gl cw cl r T ex us ms u a f 0 b wr v W hA hX hT hr ha0 ha1 us' u' hh hrg (by omega) hq.symm).mono fun e w' h => wdone_ws HV h)
    · rw [if_neg (by omega), if_neg (by omega), if_pos rfl] at hq
      cases d with
      | false =>
        rw [if_pos rfl]
        exact ws_open_f B q z gw gl cw cl r mb T ex S ms v vs ((us', u'), ⟨a, f, 1, b, wr⟩) W hT hSr hcell hM ((wopen_no B q z gw gl cw cl r T ex us ms u a f 1 b wr v W hA hX hT hr ha0 ha1 us' u' hh hq.symm).mono fun e w' h => wdone_ws HV h)
      | true =>
        rw [if_neg (by decide), if_neg (by omega), if_pos rfl]
        exact ws_open_t B q z gw gl cw cl r mb T ex S ms v vs _ W hcell hM ((wopen_yes B q z gw gl cw cl r T ex us ms u a f 1 b wr v W hA hX hT hr ha0 ha1 us' u' hh hq.symm).mono fun e w' h => wdone_ws HV h)
    · rw [if_neg (by omega), if_pos rfl, if_neg (by omega), if_pos rfl] at hq
      have hwr := g2 rfl
      obtain ⟨k, rfl⟩ := Int.eq_ofNat_of_zero_le hwr.1
      have hk : k < vs.length := by omega
      rw [Int.toNat_natCast] at hq
      have hSz := hS z (.inl rfl)
      have hSg := hS gw (.inr (.inl rfl))
      cases d with
      | false =>
        rw [if_pos rfl]
        exact ws_next_f B q z gw gl cw cl r mb T ex S ms v vs ((us', u'), ⟨a, f, 2, b, (k : Int)⟩) W hT hSr hcell hM ((wnext_no B q z gw gl cw cl r T ex us ms u a f 2 b k v W hA hX hT hr S hSz hSg vs hV hk hn1 hf0 hf1 us' u' hh hq.symm).mono fun e w' h => wdone_ws HV h)
      | true =>
        rw [if_neg (by decide), if_neg (by omega), if_neg (by omega), if_pos rfl]
        by_cases hl : k + 1 = vs.length
        · rw [if_pos (by omega)]
          exact ws_next_t B q z gw gl cw cl r mb T ex S ms v vs _ W hcell hM ((wnext_last B q z gw gl cw cl r T ex us ms u a f 2 b k v W hA hX hT hr S hSz hSg vs hV hk hn1 hf0 hf1 hl us' u' hh hq.symm).mono fun e w' h => wdone_ws HV h)
        · rw [if_neg (by omega)]
          exact ws_next_t B q z gw gl cw cl r mb T ex S ms v vs _ W hcell hM ((wnext_more B q z gw gl cw cl r T ex us ms u a f 2 b k v W hA hX hT hr S hSz hSg vs hV hk hn1 hf0 hf1 (by omega) rfl us' u' hh hq.symm).mono fun e w' h => wdone_ws HV h)
    · rw [if_neg (by omega), if_neg (by omega), if_neg (by omega), if_neg (by omega)] at hq
      cases d with
      | false =>
        rw [if_pos rfl]
        exact ws_close_f B q z gw gl cw cl r mb T ex S ms v vs ((us', u'), ⟨a, f, 3, b, wr⟩) W hT hSr hcell hM ((wclose_no B q z gw gl cw cl r T ex us ms u a f 3 b wr v W hA hX hT hr ha0 ha1 us' u' hh hq.symm).mono fun e w' h => wdone_ws HV h)
      | true =>
        rw [if_neg (by decide), if_neg (by omega), if_neg (by omega), if_neg (by omega)]
        exact ws_close_t B q z gw gl cw cl r mb T ex S ms v vs _ W hcell hM ((wclose_yes B q z gw gl cw cl r T ex us ms u a f 3 b wr v W hA hX hT hr ha0 ha1 us' u' hh hq.symm).mono fun e w' h => wdone_ws HV h)

end Go.Proofs.Ytaljpggajpoalaa
/-
  told of a reader, rowOf and checkPlay, of package seq.
  Conditions: the ranges of Go's types.
-/
namespace Go.Proofs.Ytaljpggajpoalaa
open Go.RowKit Go.Shelf
attribute [local go_sem] Oper.semAt_some
def pIntOf : Value → Int | .int _ q => q | _ => 0

set_option maxRecDepth 100000 in
set_option maxHeartbeats 4000000 in
theorem rowOf_c (q : Nat) (v : Value) (hv : ∃ p n c, v = .slice p n c) (W : World) : Calls Try.prog 56 #[v, accV q] W fun e w' => (e = .returned (.pointer (some ⟨W.heap.size, 0, none⟩)) ∧ WBox w' W.heap.size 109 [v] ⟨0, 0, 4, 0, 0⟩ (.slice none 0 0) q) ∧ Below W.heap.size W w' := by
  obtain ⟨p, n, c, rfl⟩ := hv
  unfold accV
  obtain ⟨o, ho⟩ : ∃ o : Obj, o = .cells #[.int .i64 0, .int .i64 0, .slice none 0 0, .int .i64 4, .int .u64 0, .int .i64 0, accV q, .slice p n c] 109 (0, 0) := ⟨_, rfl⟩
  have HB := Lib.hid (below1 W o)
  have HX := Lib.hid (show WBox (W.alloc o) W.heap.size 109 [.slice p n c] ⟨0, 0, 4, 0, 0⟩ (.slice none 0 0) q by rw [ho]; exact World.alloc_heap_new _ _)
  have HO := Lib.hid ho
  clear ho
  go_enter Try.func56, Try.ntmps56
  go_wp2
  go_ret
  have ho := HO.out
  unfold accV at ho
  rw [← ho]
  exact ⟨⟨rfl, HX.out⟩, HB.out⟩

theorem RdBox.setV {w : World} {z : Nat} {s : RdM} {v : Value} (h : RdBox w z s v) (v' : Value) : RdBox (w.setCell ⟨z, 5, none⟩ v') z s v' := by
  have h' : w.heap[z]? = _ := h
  simp [RdBox, World.setCell, Array.getElem?_modify, h']
theorem RdBox.putK (w : World) (z : Nat) (s : RdM) (v : Value) : Keeps (fun k => k = z) w (((((((w.setCell ⟨z, 0, none⟩ (.int .i64 s.a)).setCell ⟨z, 1, none⟩ (.int .i64 s.f)).setCell ⟨z, 2, none⟩ (.int .i64 s.m)).setCell ⟨z, 3, none⟩ (.int .i64 s.p)).setCell ⟨z, 4, none⟩ (.int .u64 s.b)).setCell ⟨z, 5, none⟩ (v)).setCell ⟨z, 6, none⟩ (.int .i64 s.t)) :=
  ((((((Keeps.setCell w (S := (· = z)) (p := ⟨z, 0, none⟩) rfl _).trans (Keeps.setCell _ (S := (· = z)) (p := ⟨z, 1, none⟩) rfl _)).trans (Keeps.setCell _ (S := (· = z)) (p := ⟨z, 2, none⟩) rfl _)).trans (Keeps.setCell _ (S := (· = z)) (p := ⟨z, 3, none⟩) rfl _)).trans (Keeps.setCell _ (S := (· = z)) (p := ⟨z, 4, none⟩) rfl _)).trans (Keeps.setCell _ (S := (· = z)) (p := ⟨z, 5, none⟩) rfl _)).trans (Keeps.setCell _ (S := (· = z)) (p := ⟨z, 6, none⟩) rfl _)

set_option maxRecDepth 100000 in
set_option maxHeartbeats 4000000 in
theorem rtold_c (r q : Nat) (s : RdM) (v : Value) (vs : List Int) (S : Nat → Prop) (W : World) (hR : RBox W r s v q) (hV : VV S W v vs) (hn : vs.length ≤ 1099511627776) :
    Calls Try.prog 49 #[.pointer (some ⟨r, 0, none⟩)] W fun e w' => (∃ p c, e = .returned (rdV s (.slice p vs.length c)) ∧ w'.ownsRow W.heap.size 27 1 (.slice p vs.length c) vs.length (vs.map (Value.int .u64))) ∧ Below W.heap.size W w' := by
  obtain ⟨a, f, m, p, b, t⟩ := s
  obtain ⟨q0, c0, rfl, -, -⟩ := id hV
  have HNU := Lib.hid hV.nums
  obtain ⟨⟨h0, h1, h2, h3⟩, h4, h5, h6, h7⟩ := hR.cells
  dsimp only at h0 h1 h2 h3 h4 h6
  have hrl := hR.lt
  obtain ⟨w1, hw1⟩ : ∃ X : World, X = W.alloc (.cells #[.int .i64 0, .int .i64 0, .int .i64 0, .int .i64 0, .int .u64 0, .slice none 0 0, .int .i64 0] 29) := ⟨_, rfl⟩
  obtain ⟨w2, hw2⟩ : ∃ X : World, X = w1.alloc (.cells #[.int .i64 a, .int .i64 f, .int .i64 m, .int .i64 p, .int .u64 b, .slice q0 vs.length c0, .int .i64 t] 29) := ⟨_, rfl⟩
  have HZ := Lib.hid (show RdBox w1 W.heap.size ⟨0, 0, 0, 0, 0, 0⟩ (.slice none 0 0) by rw [hw1]; exact World.alloc_heap_new _ _)
  have hs1 : w1.heap.size = W.heap.size + 1 := by rw [hw1, World.size_alloc]
  have HB1 : Below W.heap.size W w1 := by rw [hw1]; exact below1 _ _
  have hb2 : Below w1.heap.size w1 w2 := by rw [hw2]; exact below1 _ _
  have HZ2 := Lib.hid (HZ.out.below hb2)
  have HY2 := Lib.hid (show RdBox w2 (W.heap.size + 1) ⟨a, f, m, p, b, t⟩ (.slice q0 vs.length c0) by rw [hw2, ← hs1]; exact World.alloc_heap_new _ _)
  have HB2 := Lib.hid (below_then HB1 HB1.size hb2)
  have HL2 := Lib.hid (show W.heap.size + 1 < w2.heap.size by rw [hw2, World.size_alloc, hs1]; omega)
  have HOW := Lib.hid (fun (Z : World) (hz : Below W.heap.size W Z) => eown (.slice q0 vs.length c0) vs Z (nums_below HNU.out hz) hn)
  have HW := Lib.hid (And.intro hw1 hw2)
  obtain ⟨n, hnn⟩ : ∃ n, n = vs.length := ⟨_, rfl⟩
  rw [← hnn] at h5 HY2 HOW ⊢
  have HN := Lib.hid hnn
  rw [← HN.out] at HW
  clear hw1 hw2 HB1 hb2 hs1 hR hV hn HNU hnn
  go_enter Try.func49, Try.ntmps49
  go_wp2_with fail
  rw [← HW.out.1, ← HW.out.2]
  refine (HOW.out _ HB2.out).mono ?_
  rintro e w3 ⟨⟨p3, c3, rfl, ho⟩, hb3⟩
  clear h0 h1 h2 h3 h4 h5 h6 h7 HW HZ HOW
  have HZ3 := Lib.hid (HZ2.out.below hb3)
  have HY3 := HY2.out.below hb3
  have HB3 := below_then HB2.out HB2.out.size hb3
  have HO3 := Lib.hid ho
  clear HZ2 HY2 ho hb3
  have hlt3 : W.heap.size + 1 < w3.heap.size := HY3.lt
  obtain ⟨w4, hw4⟩ : ∃ X : World, X = w3.setCell ⟨W.heap.size + 1, 5, none⟩ (.slice p3 n c3) := ⟨_, rfl⟩
  have hk4 : Keeps (fun k => k = W.heap.size + 1) w3 w4 := by rw [hw4]; exact Keeps.setCell w3 (S := (· = W.heap.size + 1)) (p := ⟨W.heap.size + 1, 5, none⟩) rfl _
  have HY4 := Lib.hid (show RdBox w4 (W.heap.size + 1) ⟨a, f, m, p, b, t⟩ (.slice p3 n c3) by rw [hw4]; exact HY3.setV _)
  have HZ4 := Lib.hid (show RdBox w4 W.heap.size ⟨0, 0, 0, 0, 0, 0⟩ (.slice none 0 0) from (hk4.block W.heap.size (by omega) (by omega)).trans HZ3.out)
  have HG := Lib.hid (show ∀ g, (Value.slice p3 n c3).ownBlock = some g → g ≠ W.heap.size ∧ g ≠ W.heap.size + 1 from fun g hg => by have := (HO3.out.lt g hg).1; have := HB2.out.size; have h9 := HL2.out; omega)
  have HO4 := Lib.hid (hk4.row HO3.out (fun g hg => (HG.out g hg).2))
  have HB4 := Lib.hid (HB3.trans (hk4.below HB3.size (fun q hq => by omega)))
  obtain ⟨c0', c1', c2', c3', c4', c5', c6'⟩ := HY3.cells
  have m5 := HY3.marks 5
  dsimp only at c0' c1' c2' c3' c4' c6'
  have HW4 := Lib.hid hw4
  clear hk4 HZ3 HO3 HB3 HY3 hw4
  go_upto_region 3 with fail
  rw [← HW4.out]
  clear c0' c1' c2' c3' c4' c5' c6' m5 HW4
  obtain ⟨c0', c1', c2', c3', c4', c5', c6'⟩ := HY4.out.cells
  obtain ⟨d0, d1, d2, d3, d4, d5, d6⟩ := HZ4.out.cells
  have m0 := HZ4.out.marks 0
  have m1 := HZ4.out.marks 1
  have m2 := HZ4.out.marks 2
  have m3 := HZ4.out.marks 3
  have m4 := HZ4.out.marks 4
  have m5 := HZ4.out.marks 5
  have m6 := HZ4.out.marks 6
  dsimp only at c0' c1' c2' c3' c4' c6' d0 d1 d2 d3 d4 d6
  have HP := Lib.hid (HZ4.out.put ⟨a, f, m, p, b, t⟩ (.slice p3 n c3))
  have HPB := Lib.hid (RdBox.putB HB4.out (Nat.le_refl _) ⟨a, f, m, p, b, t⟩ (.slice p3 n c3))
  have HPK := Lib.hid (RdBox.putK w4 W.heap.size ⟨a, f, m, p, b, t⟩ (.slice p3 n c3))
  dsimp only at HP HPB HPK
  go_wp2
  clear c0' c1' c2' c3' c4' c5' c6' d0 d1 d2 d3 d4 d5 d6 m0 m1 m2 m3 m4 m5 m6
  revert HP HPB HPK
  generalize World.setCell _ ⟨W.heap.size, 6, none⟩ _ = w5
  intro HP HPB HPK
  obtain ⟨e0, e1, e2, e3, e4, e5, e6⟩ := HP.out.cells
  refine bodyPost_ret (v := rdV ⟨a, f, m, p, b, t⟩ (.slice p3 n c3)) (by simp [results, Try.results49, go_sem, e0, e1, e2, e3, e4, e5, e6, rdV]) rfl ⟨⟨p3, c3, rfl, ?_⟩, HPB.out⟩
  exact (HPK.out.row HO4.out (fun g hg => (HG.out g hg).1)).mono HB2.out.size

end Go.Proofs.Ytaljpggajpoalaa
/-
  checkPlay, of package seq.
  Conditions: the ranges of Go's types.
-/
namespace Go.Proofs.Ytaljpggajpoalaa
open Go.RowKit Go.Shelf
attribute [local go_sem] Oper.semAt_some

/-- A write, its Values as a slice, and as numbers. -/
structure WrX where
  s : WrM
  v : Value
  vs : List Int
/-- Writes that lie in a row from this address on; neither they nor their Values lie in the blocks of S. -/
def WrsAt (S : Nat → Prop) (W : World) (p : Option Addr) (l : List WrX) : Prop := l ≠ [] → ∃ b off, p = some ⟨b, off, none⟩ ∧ ¬ S b ∧ ∀ i (h : i < l.length),
  (W.cell? ⟨b, off + i * 6, none⟩ = some (.int .i64 l[i].s.a) ∧ W.cell? ⟨b, off + i * 6 + 1, none⟩ = some (.int .i64 l[i].s.f) ∧ W.cell? ⟨b, off + i * 6 + 2, none⟩ = some l[i].v ∧ W.cell? ⟨b, off + i * 6 + 3, none⟩ = some (.int .i64 l[i].s.p) ∧ W.cell? ⟨b, off + i * 6 + 4, none⟩ = some (.int .u64 l[i].s.b) ∧ W.cell? ⟨b, off + i * 6 + 5, none⟩ = some (.int .i64 l[i].s.w)) ∧ VV S W l[i].v l[i].vs
theorem WrsAt.keeps {S T : Nat → Prop} {W W' : World} {p : Option Addr} {l : List WrX} (h : WrsAt S W p l) (hk : Keeps T W W') (hT : ∀ k, T k → S k) : WrsAt S W' p l := by
  intro hne
  obtain ⟨b, off, rfl, hS, hcs⟩ := h hne
  have hb : ¬ T b := fun e => hS (hT b e)
  exact ⟨b, off, rfl, hS, fun i hi => by
    obtain ⟨⟨c0, c1, c2, c3, c4, c5⟩, hv⟩ := hcs i hi
    exact ⟨⟨hk.cell c0 hb, hk.cell c1 hb, hk.cell c2 hb, hk.cell c3 hb, hk.cell c4 hb, hk.cell c5 hb⟩, hv.keeps hk hT⟩⟩
def wrsRight (l : List WrX) : Bool := l.all fun x => rightWB x.s x.vs.length
def WrsRange (l : List WrX) : Prop := ∀ x ∈ l, (0 ≤ x.s.b ∧ x.s.b ≤ 18446744073709551615)
/-- The first i writes may be. -/
def RightTo (l : List WrX) (i : Nat) : Prop := (l.take i).all (fun x => rightWB x.s x.vs.length) = true
theorem rightTo_step {l : List WrX} {i : Nat} (h : RightTo l i) (hi : i < l.length) : (rightWB l[i].s l[i].vs.length = true → RightTo l (i + 1)) ∧ (rightWB l[i].s l[i].vs.length = false → wrsRight l = false) := by
  refine ⟨fun e => ?_, fun e => ?_⟩
  · unfold RightTo at h ⊢
    rw [List.take_succ_eq_append_getElem hi, List.all_append, h]
    simp [e]
  · unfold wrsRight
    rw [List.all_eq_false]
    exact ⟨l[i], List.getElem_mem hi, by simp [e]⟩
theorem rightTo_end {l : List WrX} (h : RightTo l l.length) : wrsRight l = true := by
  unfold RightTo at h
  rwa [List.take_length] at h

set_option maxRecDepth 100000 in
set_option maxHeartbeats 4000000 in
theorem checkPlay_no (s : RdM) (q : Option Addr) (n c : Nat) (v : Value) (hb : 0 ≤ s.b ∧ s.b ≤ 18446744073709551615) (hr : rightRB s n = false) (W : World) :
    Calls Try.prog 55 #[rdV s (.slice q n c), v] W fun e w' => e = .returned (.int .i64 160) ∧ Below W.heap.size W w' := by
  have HC := Lib.hid (fun (Z : World) => checkRead_c s q n c hb Z)
  rw [hr, if_neg (by decide)] at HC
  obtain ⟨a, f, m, p, b, t⟩ := s
  unfold rdV at *
  dsimp only at *
  obtain ⟨w1, hw1⟩ : ∃ X : World, X = W.alloc (.cells #[.int .i64 a, .int .i64 f, .int .i64 m, .int .i64 p, .int .u64 b, .slice q n c, .int .i64 t] 29) := ⟨_, rfl⟩
  have HB := Lib.hid (show Below W.heap.size W w1 by rw [hw1]; exact below1 _ _)
  have HW := Lib.hid hw1
  clear hb hr hw1
  go_enter Try.func55, Try.ntmps55
  go_wp2_with fail
  rw [← HW.out]
  refine (HC.out w1).mono ?_
  rintro e w2 ⟨rfl, hb2⟩
  have HB2 := Lib.hid (below_then HB.out HB.out.size hb2)
  clear hb2 HW HB HC
  go_wp2
  go_ret
  exact ⟨rfl, HB2.out⟩

set_option maxRecDepth 100000 in
set_option maxHeartbeats 4000000 in
theorem checkPlay_c (s : RdM) (q : Option Addr) (n c : Nat) (S : Nat → Prop) (l : List WrX) (p : Option Addr) (cap : Nat) (hb : 0 ≤ s.b ∧ s.b ≤ 18446744073709551615) (hr : rightRB s n = true) (W : World) (hl : WrsAt S W p l) (hlm : l.length ≤ 4611686018427387904) (hrg : WrsRange l) :
    Calls Try.prog 55 #[rdV s (.slice q n c), .slice p l.length cap] W fun e w' => e = .returned (.int .i64 (if wrsRight l = true then 0 else 160)) ∧ Below W.heap.size W w' := by
  obtain ⟨code, hcode⟩ : ∃ x : Int, x = (if wrsRight l = true then 0 else 160) := ⟨_, rfl⟩
  rw [← hcode]
  have HCODE := Lib.hid hcode
  clear hcode
  have HC := Lib.hid (fun (Z : World) => checkRead_c s q n c hb Z)
  rw [hr, if_pos rfl] at HC
  obtain ⟨a, f, m, ph, b, t⟩ := s
  unfold rdV at *
  dsimp only at *
  obtain ⟨w1, hw1⟩ : ∃ X : World, X = W.alloc (.cells #[.int .i64 a, .int .i64 f, .int .i64 m, .int .i64 ph, .int .u64 b, .slice q n c, .int .i64 t] 29) := ⟨_, rfl⟩
  have HB := Lib.hid (show Below W.heap.size W w1 by rw [hw1]; exact below1 _ _)
  have HW := Lib.hid hw1
  have HL := Lib.hid hl
  clear hb hr hw1 hl
  go_enter Try.func55, Try.ntmps55
  go_wp2_with fail
  rw [← HW.out]
  refine (HC.out w1).mono ?_
  rintro e w2 ⟨rfl, hb2⟩
  have HB2 := Lib.hid (below_then HB.out HB.out.size hb2)
  clear hb2 HW HB HC
  go_wp2
  go_loopw [16] (fun iv wr => ∃ i : Nat, i ≤ l.length ∧ iv = .int .i64 i ∧ RightTo l i ∧ Below W.heap.size W wr) (fun iv _ => l.length - (pIntOf iv).toNat)
  case atStart => exact ⟨0, Nat.zero_le _, rfl, rfl, HB2.out⟩
  case round =>
    obtain ⟨i, hi, rfl, hm, hB⟩ := hrel
    by_cases hlt : i < l.length
    · have hstep := rightTo_step hm hlt
      obtain ⟨bb, off, rfl, hSb, hcs⟩ := HL.out (by intro e; rw [e] at hlt; cases hlt)
      obtain ⟨⟨h0, h1, h2, h3, h4, h5⟩, hV⟩ := hcs i hlt
      have hbr := hrg l[i] (List.getElem_mem hlt)
      obtain ⟨⟨⟨xa, xf, xp, xb, xw⟩, xv, xs⟩, hx⟩ : ∃ x, x = l[i] := ⟨_, rfl⟩
      rw [← hx] at h0 h1 h2 h3 h4 h5 hstep hV hbr
      dsimp only at h0 h1 h2 h3 h4 h5 hstep hV hbr
      obtain ⟨xq, xc, rfl, -, -⟩ := hV
      have HCW := Lib.hid (fun (Z : World) => checkWrite_c ⟨xa, xf, xp, xb, xw⟩ xq xs.length xc hbr Z)
      have h0' := below_cell hB h0
      have h1' := below_cell hB h1
      have h2' := below_cell hB h2
      have h3' := below_cell hB h3
      have h4' := below_cell hB h4
      have h5' := below_cell hB h5
      have HST := Lib.hid hstep
      unfold wrV at HCW
      dsimp only at HCW
      clear hstep hx hm h0 h1 h2 h3 h4 h5 hcs hbr hSb
      go_wp2_with fail
      refine (HCW.out _).mono ?_
      rintro e w3 ⟨rfl, hb3⟩
      have hB3 := below_then (hB.alloc hB.size _) (by have := hB.size; simp; omega) hb3
      clear hb3 HCW h0' h1' h2' h3' h4' h5'
      rcases Bool.eq_false_or_eq_true (rightWB ⟨xa, xf, xp, xb, xw⟩ xs.length) with hb | hb
      · rw [hb, if_pos rfl]
        go_wp2
        go_roundw
        case rel => exact ⟨i + 1, by omega, by go_num, HST.out.1 hb, hB3⟩
        case measure => simp [pIntOf]; omega
      · rw [hb, if_neg (by decide)]
        have HFX := Lib.hid (HST.out.2 hb)
        have HB3 := Lib.hid hB3
        clear hB3 hb HST
        go_wp2
        go_ret
        exact ⟨by rw [HCODE.out, HFX.out, if_neg (by decide)]; rfl, HB3.out⟩
    · obtain rfl : i = l.length := by omega
      have HRE := Lib.hid (rightTo_end hm)
      have HB3 := Lib.hid hB
      clear hB hm
      go_wp2
      go_ret
      exact ⟨by rw [HCODE.out, HRE.out, if_pos rfl]; rfl, HB3.out⟩

end Go.Proofs.Ytaljpggajpoalaa
/-
  turn, of package seq: on to the first write that is neither over nor lost.
  Conditions: the row lies in memory.
-/
namespace Go.Proofs.Ytaljpggajpoalaa
open Go.RowKit Go.Shelf
attribute [local go_sem] Oper.semAt_some

/-- On to the first write that is neither over nor lost. -/
def turnM : WrX → List WrX → WrX × List WrX
  | x, [] => (x, [])
  | x, y :: t => if x.s.p = 4 ∨ x.s.p = 5 then turnM y t else (x, y :: t)
/-- Block r is a row of writes: the one that goes on, and those behind it. -/
structure RowAt (S : Nat → Prop) (W : World) (r q : Nat) (p : Option Addr) (cap : Nat) (x : WrX) (l : List WrX) : Prop where
  box : WBox W r 109 [.slice p l.length cap] x.s x.v q
  val : VV S W x.v x.vs
  left : WrsAt S W p l
  cap : l.length ≤ cap ∧ cap ≤ 9223372036854775807
def leftLen (r : Nat) (w : World) : Nat := match w.cell? ⟨r, 7, none⟩ with | some (.slice _ n _) => n | _ => 0
theorem WBox.ex {w : World} {z : Nat} {T : TypeId} {e : Value} {s : WrM} {v : Value} {q : Nat} (h : WBox w z T [e] s v q) : w.cell? ⟨z, 7, none⟩ = some e := by
  have h' : w.heap[z]? = _ := h
  simp [World.cell?, h']

theorem WBox.put {w : World} {r q : Nat} {s0 : WrM} {v0 e0 : Value} (h : WBox w r 109 [e0] s0 v0 q) (s : WrM) (v e : Value) :
    WBox (((((((w.setCell ⟨r, 0, none⟩ (.int .i64 s.a)).setCell ⟨r, 1, none⟩ (.int .i64 s.f)).setCell ⟨r, 2, none⟩ v).setCell ⟨r, 3, none⟩ (.int .i64 s.p)).setCell ⟨r, 4, none⟩ (.int .u64 s.b)).setCell ⟨r, 5, none⟩ (.int .i64 s.w)).setCell ⟨r, 7, none⟩ e) r 109 [e] s v q := by
  have h0 := heap_setCell_same w r 0 _ _ (.int .i64 s.a) h
  have h1 := heap_setCell_same _ r 1 _ _ (.int .i64 s.f) h0
  have h2 := heap_setCell_same _ r 2 _ _ v h1
  have h3 := heap_setCell_same _ r 3 _ _ (.int .i64 s.p) h2
  have h4 := heap_setCell_same _ r 4 _ _ (.int .u64 s.b) h3
  have h5 := heap_setCell_same _ r 5 _ _ (.int .i64 s.w) h4
  have h7 := heap_setCell_same _ r 7 _ _ e h5
  unfold WBox
  rw [h7]
  rfl
theorem WBox.putK (w : World) (r : Nat) (s : WrM) (v e : Value) : Keeps (fun k => k = r) w (((((((w.setCell ⟨r, 0, none⟩ (.int .i64 s.a)).setCell ⟨r, 1, none⟩ (.int .i64 s.f)).setCell ⟨r, 2, none⟩ v).setCell ⟨r, 3, none⟩ (.int .i64 s.p)).setCell ⟨r, 4, none⟩ (.int .u64 s.b)).setCell ⟨r, 5, none⟩ (.int .i64 s.w)).setCell ⟨r, 7, none⟩ e) :=
  ((((((Keeps.setCell w (S := (· = r)) (p := ⟨r, 0, none⟩) rfl _).trans (Keeps.setCell _ (S := (· = r)) (p := ⟨r, 1, none⟩) rfl _)).trans (Keeps.setCell _ (S := (· = r)) (p := ⟨r, 2, none⟩) rfl _)).trans (Keeps.setCell _ (S := (· = r)) (p := ⟨r, 3, none⟩) rfl _)).trans (Keeps.setCell _ (S := (· = r)) (p := ⟨r, 4, none⟩) rfl _)).trans (Keeps.setCell _ (S := (· = r)) (p := ⟨r, 5, none⟩) rfl _)).trans (Keeps.setCell _ (S := (· = r)) (p := ⟨r, 7, none⟩) rfl _)
theorem WrsAt.tail {S : Nat → Prop} {W : World} {b off : Nat} {x : WrX} {l : List WrX} (h : WrsAt S W (some ⟨b, off, none⟩) (x :: l)) : WrsAt S W (some ⟨b, off + 6, none⟩) l := by
  intro hne
  obtain ⟨b', off', e, hS, hcs⟩ := h (by simp)
  cases e
  refine ⟨b, off + 6, rfl, hS, fun i hi => ?_⟩
  obtain ⟨⟨c0, c1, c2, c3, c4, c5⟩, hv⟩ := hcs (i + 1) (by simp; omega)
  simp only [List.getElem_cons_succ] at c0 c1 c2 c3 c4 c5 hv
  rw [show off + (i + 1) * 6 = off + 6 + i * 6 by omega] at c0 c1 c2 c3 c4 c5
  exact ⟨⟨c0, c1, c2, c3, c4, c5⟩, hv⟩

set_option maxRecDepth 100000 in
set_option maxHeartbeats 4000000 in
theorem eturn_c (r q : Nat) (S : Nat → Prop) (p : Option Addr) (cap : Nat) (x : WrX) (l : List WrX) (W : World) (h : RowAt S W r q p cap x l) (hS : S r) :
    Calls Try.prog 57 #[.pointer (some ⟨r, 0, none⟩)] W fun e w' => e = .returned (.tuple #[]) ∧ (∃ p' cap', RowAt S w' r q p' cap' (turnM x l).1 (turnM x l).2) ∧ Keeps (fun k => k = r) W w' := by
  have H := Lib.hid h
  clear h
  go_enter Try.func57, Try.ntmps57
  go_wp2
  go_loopw [] (fun wr => ∃ (p' : Option Addr) (cap' : Nat) (y : WrX) (t : List WrX), RowAt S wr r q p' cap' y t ∧ turnM x l = turnM y t ∧ Keeps (fun k => k = r) W wr) (fun wr => leftLen r wr)
  case atStart => exact ⟨p, cap, x, l, H.out, rfl, Keeps.refl _ _⟩
  case round =>
    clear H
    obtain ⟨p', cap', ⟨⟨a, f, ph, b, w⟩, v, vs⟩, t, hr, hm, hk⟩ := hrel
    cases t with
    | nil =>
      obtain ⟨⟨-, -, -, c3⟩, -⟩ := hr.box.cells
      have c7 := hr.box.ex
      dsimp only [List.length_nil] at c3 c7
      have HR := Lib.hid hr
      have HM := Lib.hid hm
      have HK := Lib.hid hk
      clear hr hm hk
      go_wp2
      refine bodyPost_end (v := .tuple #[]) (by simp [results, Try.results57, go_sem]) rfl ⟨rfl, ?_, HK.out⟩
      rw [HM.out]
      exact ⟨p', cap', HR.out⟩
    | cons z t =>
      by_cases h4 : ph = 4
      · obtain rfl : ph = 4 := h4
        obtain ⟨bb, off, rfl, hSb, hcs⟩ := hr.left (by simp)
        obtain ⟨⟨x0, x1, x2, x3, x4, x5⟩, hzv⟩ := hcs 0 (by simp)
        simp only [List.getElem_cons_zero, Nat.zero_mul, Nat.add_zero] at x0 x1 x2 x3 x4 x5 hzv
        obtain ⟨⟨za, zf, zp, zb, zw⟩, zv, zs⟩ := z
        dsimp only at x0 x1 x2 x3 x4 x5 hzv
        obtain ⟨zq, zc, rfl, -, -⟩ := id hzv
        obtain ⟨N, hN⟩ : ∃ N, N = t.length := ⟨_, rfl⟩
        obtain ⟨zn, hzn⟩ : ∃ zn, zn = zs.length := ⟨_, rfl⟩
        have hlen : (⟨⟨za, zf, zp, zb, zw⟩, .slice zq zs.length zc, zs⟩ :: t : List WrX).length = N + 1 := by rw [hN]; rfl
        have HBX := Lib.hid hr.box
        have hcap := hr.cap
        rw [hlen] at HBX hcap
        rw [← hzn] at x2
        have HLEFT := Lib.hid hr.left.tail
        have HZV := Lib.hid hzv
        have HPUT := Lib.hid (HBX.out.put ⟨za, zf, zp, zb, zw⟩ (.slice zq zn zc) (.slice (if cap' = 1 then some ⟨bb, off, none⟩ else some ⟨bb, off + 6, none⟩) N (cap' - 1)))
        have HPK := Lib.hid (WBox.putK wr r ⟨za, zf, zp, zb, zw⟩ (.slice zq zn zc) (.slice (if cap' = 1 then some ⟨bb, off, none⟩ else some ⟨bb, off + 6, none⟩) N (cap' - 1)))
        obtain ⟨⟨c0, c1, c2, c3⟩, c4, c5, -⟩ := HBX.out.cells
        have c7 := HBX.out.ex
        have m0 := HBX.out.marks 0
        have m1 := HBX.out.marks 1
        have m2 := HBX.out.marks 2
        have m3 := HBX.out.marks 3
        have m4 := HBX.out.marks 4
        have m5 := HBX.out.marks 5
        have m7 := HBX.out.marks 7
        dsimp only at c0 c1 c2 c3 c4 c5 HPUT HPK
        have hbr : bb ≠ r := fun e => hSb (e ▸ hS)
        have HM := Lib.hid hm
        have HK := Lib.hid hk
        have HN := Lib.hid (And.intro hN hzn)
        have hc1 : 1 ≤ cap' := by omega
        have hc2 : cap' ≤ 9223372036854775807 := hcap.2
        have HCAP := Lib.hid hcap
        have HLL := Lib.hid (show leftLen r wr = N + 1 by unfold leftLen; rw [c7])
        skip
        clear hr hm hk hcs hzv hN hzn hlen hSb hcap
        go_upto_region 1 with fail
        go_big_region
        all_goals
          revert HPUT HPK
          generalize World.setCell _ ⟨r, 7, none⟩ _ = w5
          intro HPUT HPK
          clear c0 c1 c2 c3 c4 c5 c7 m0 m1 m2 m3 m4 m5 m7 x0 x1 x2 x3 x4 x5
          have HB5 : WBox w5.drew r 109 [.slice (if cap' = 1 then some ⟨bb, off, none⟩ else some ⟨bb, off + 6, none⟩) t.length (cap' - 1)] ⟨za, zf, zp, zb, zw⟩ (.slice zq zs.length zc) q := by rw [← HN.out.1, ← HN.out.2]; exact HPUT.out
          have HK5 := Lib.hid (HPK.out.drewN 1)
          have HR5 := Lib.hid (show RowAt S w5.drew r q (if cap' = 1 then some ⟨bb, off, none⟩ else some ⟨bb, off + 6, none⟩) (cap' - 1) ⟨⟨za, zf, zp, zb, zw⟩, .slice zq zs.length zc, zs⟩ t from ⟨HB5, HZV.out.keeps HK5.out (fun k e => e ▸ hS), by
            by_cases h1 : cap' = 1
            · intro hne
              exact absurd (List.eq_nil_of_length_eq_zero (by have := HCAP.out; have := HN.out; omega)) hne
            · rw [if_neg h1]
              exact HLEFT.out.keeps HK5.out (fun k e => e ▸ hS), by have := HCAP.out; have := HN.out; omega⟩)
          have HL5 := Lib.hid (show leftLen r w5.drew = N by rw [HN.out.1]; unfold leftLen; rw [HB5.ex])
          clear HB5
          go_wp2
          go_roundw
          case rel => exact ⟨_, _, _, t, HR5.out, by rw [HM.out]; show turnM _ (_ :: t) = _; rw [turnM, if_pos (Or.inl rfl)], HK.out.trans HK5.out⟩
          case measure => rw [HL5.out, HLL.out]; omega
      · by_cases h5 : ph = 5
        · obtain rfl : ph = 5 := h5
          obtain ⟨bb, off, rfl, hSb, hcs⟩ := hr.left (by simp)
          obtain ⟨⟨x0, x1, x2, x3, x4, x5⟩, hzv⟩ := hcs 0 (by simp)
          simp only [List.getElem_cons_zero, Nat.zero_mul, Nat.add_zero] at x0 x1 x2 x3 x4 x5 hzv
          obtain ⟨⟨za, zf, zp, zb, zw⟩, zv, zs⟩ := z
          dsimp only at x0 x1 x2 x3 x4 x5 hzv
          obtain ⟨zq, zc, rfl, -, -⟩ := id hzv
          obtain ⟨N, hN⟩ : ∃ N, N = t.length := ⟨_, rfl⟩
          obtain ⟨zn, hzn⟩ : ∃ zn, zn = zs.length := ⟨_, rfl⟩
          have hlen : (⟨⟨za, zf, zp, zb, zw⟩, .slice zq zs.length zc, zs⟩ :: t : List WrX).length = N + 1 := by rw [hN]; rfl
          have HBX := Lib.hid hr.box
          have hcap := hr.cap
          rw [hlen] at HBX hcap
          rw [← hzn] at x2
          have HLEFT := Lib.hid hr.left.tail
          have HZV := Lib.hid hzv
          have HPUT := Lib.hid (HBX.out.put ⟨za, zf, zp, zb, zw⟩ (.slice zq zn zc) (.slice (if cap' = 1 then some ⟨bb, off, none⟩ else some ⟨bb, off + 6, none⟩) N (cap' - 1)))
          have HPK := Lib.hid (WBox.putK wr r ⟨za, zf, zp, zb, zw⟩ (.slice zq zn zc) (.slice (if cap' = 1 then some ⟨bb, off, none⟩ else some ⟨bb, off + 6, none⟩) N (cap' - 1)))
          obtain ⟨⟨c0, c1, c2, c3⟩, c4, c5, -⟩ := HBX.out.cells
          have c7 := HBX.out.ex
          have m0 := HBX.out.marks 0
          have m1 := HBX.out.marks 1
          have m2 := HBX.out.marks 2
          have m3 := HBX.out.marks 3
          have m4 := HBX.out.marks 4
          have m5 := HBX.out.marks 5
          have m7 := HBX.out.marks 7
          dsimp only at c0 c1 c2 c3 c4 c5 HPUT HPK
          have hbr : bb ≠ r := fun e => hSb (e ▸ hS)
          have HM := Lib.hid hm
          have HK := Lib.hid hk
          have HN := Lib.hid (And.intro hN hzn)
          have hc1 : 1 ≤ cap' := by omega
          have hc2 : cap' ≤ 9223372036854775807 := hcap.2
          have HCAP := Lib.hid hcap
          have HLL := Lib.hid (show leftLen r wr = N + 1 by unfold leftLen; rw [c7])
          skip
          clear hr hm hk hcs hzv hN hzn hlen hSb hcap
          go_upto_region 1 with fail
          go_big_region
          all_goals
            revert HPUT HPK
            generalize World.setCell _ ⟨r, 7, none⟩ _ = w5
            intro HPUT HPK
            clear c0 c1 c2 c3 c4 c5 c7 m0 m1 m2 m3 m4 m5 m7 x0 x1 x2 x3 x4 x5
            have HB5 : WBox w5.drew r 109 [.slice (if cap' = 1 then some ⟨bb, off, none⟩ else some ⟨bb, off + 6, none⟩) t.length (cap' - 1)] ⟨za, zf, zp, zb, zw⟩ (.slice zq zs.length zc) q := by rw [← HN.out.1, ← HN.out.2]; exact HPUT.out
            have HK5 := Lib.hid (HPK.out.drewN 1)
            have HR5 := Lib.hid (show RowAt S w5.drew r q (if cap' = 1 then some ⟨bb, off, none⟩ else some ⟨bb, off + 6, none⟩) (cap' - 1) ⟨⟨za, zf, zp, zb, zw⟩, .slice zq zs.length zc, zs⟩ t from ⟨HB5, HZV.out.keeps HK5.out (fun k e => e ▸ hS), by
              by_cases h1 : cap' = 1
              · intro hne
                exact absurd (List.eq_nil_of_length_eq_zero (by have := HCAP.out; have := HN.out; omega)) hne
              · rw [if_neg h1]
                exact HLEFT.out.keeps HK5.out (fun k e => e ▸ hS), by have := HCAP.out; have := HN.out; omega⟩)
            have HL5 := Lib.hid (show leftLen r w5.drew = N by rw [HN.out.1]; unfold leftLen; rw [HB5.ex])
            clear HB5
            go_wp2
            go_roundw
            case rel => exact ⟨_, _, _, t, HR5.out, by rw [HM.out]; show turnM _ (_ :: t) = _; rw [turnM, if_pos (Or.inr rfl)], HK.out.trans HK5.out⟩
            case measure => rw [HL5.out, HLL.out]; omega
        · have h4' : (ph == 4) = false := by simpa using h4
          have h5' : (ph == 5) = false := by simpa using h5
          obtain ⟨⟨-, -, -, c3⟩, -⟩ := hr.box.cells
          have c7 := hr.box.ex
          dsimp only [List.length_cons] at c3 c7
          have HR := Lib.hid hr
          have HM := Lib.hid hm
          have HK := Lib.hid hk
          have HE := Lib.hid (show turnM ⟨⟨a, f, ph, b, w⟩, v, vs⟩ (z :: t) = (⟨⟨a, f, ph, b, w⟩, v, vs⟩, z :: t) by unfold turnM; rw [if_neg (by rintro (e | e); exact h4 e; exact h5 e)])
          clear hr hm hk
          go_wp2
          refine bodyPost_end (v := .tuple #[]) (by simp [results, Try.results57, go_sem]) rfl ⟨rfl, ?_, HK.out⟩
          rw [HM.out, HE.out]
          exact ⟨p', cap', HR.out⟩

end Go.Proofs.Ytaljpggajpoalaa
namespace Go.Proofs.Ytaljpggajpoalaa
open Go.RowKit Go.Shelf

theorem eacc_right {ws : List Int} {ls : List Bool} (h : rightB ws ls = true) (f : Bool) (k a o n : Int) : rightB (accM ws ls f k a o n).1 ls = true := by
  unfold accM
  split
  · rename_i hl
    split
    · exact h
    · split
      · exact rightB_set h hl n
      · exact h
  · exact h
theorem eset_range {us : List Int} (h : WRange us) (i : Nat) {n : Int} (hn : 0 ≤ n ∧ n ≤ 18446744073709551615) : WRange (us.set i n) := by
  intro x hx
  rcases List.mem_or_eq_of_mem_set hx with e | e
  · exact h x e
  · rw [e]; exact hn
theorem eacc_wrange {ws : List Int} {ls : List Bool} (h : WRange ws) (f : Bool) (k a o : Int) {n : Int} (hn : 0 ≤ n ∧ n ≤ 18446744073709551615) : WRange (accM ws ls f k a o n).1 := by
  unfold accM
  split
  · split
    · exact h
    · split
      · exact eset_range h _ hn
      · exact h
  · exact h
theorem u64wrap_range (n : Int) : 0 ≤ IntKind.u64.wrap n ∧ IntKind.u64.wrap n ≤ 18446744073709551615 := by
  have : IntKind.u64.wrap n = n % 18446744073709551616 := by simp [IntKind.wrap, IntKind.bits, IntKind.signed]
  omega
theorem stepW_mem {ms : List Bool} {us : List Int} {f : Bool} {s : WrM} {vs : List Int} (hr : rightB us ms = true) (hw : WRange us) (hv : WRange vs) : rightB (stepW ms us f s vs).1.1 ms = true ∧ WRange (stepW ms us f s vs).1.1 := by
  unfold stepW
  split
  · exact ⟨hr, hw⟩
  · dsimp only
    split
    · exact ⟨eacc_right hr _ _ _ _ _, eacc_wrange hw _ _ _ _ (by omega)⟩
    · refine ⟨eacc_right hr _ _ _ _ _, eacc_wrange hw _ _ _ _ ?_⟩
      split
      · exact u64wrap_range _
      · split
        · rw [List.getD_eq_getElem?_getD]
          cases e : vs[s.w.toNat]? with
          | none => simp
          | some x => exact hv x (List.mem_of_getElem? e)
        · exact u64wrap_range _

/-- A write that is over, lost, or may be; its Values are words. -/
def okX (x : WrX) : Prop := (x.s.p = 4 ∨ x.s.p = 5 ∨ rightWB x.s x.vs.length = true) ∧ WRange x.vs
def okL (l : List WrX) : Prop := ∀ x ∈ l, okX x
theorem turnM_ok : ∀ (x : WrX) (l : List WrX), okX x → okL l → okX (turnM x l).1 ∧ okL (turnM x l).2
  | x, [], hx, hl => ⟨hx, hl⟩
  | x, y :: t, hx, hl => by
    unfold turnM
    split
    · exact turnM_ok y t (hl y (by simp)) (fun z hz => hl z (by simp [hz]))
    · exact ⟨hx, hl⟩
theorem stepW_ok {ms : List Bool} {us : List Int} {f : Bool} {x : WrX} (h : okX x) : okX { x with s := (stepW ms us f x.s x.vs).2 } := by
  refine ⟨?_, h.2⟩
  rcases h.1 with e | e | e
  · left
    show (stepW ms us f x.s x.vs).2.p = 4
    unfold stepW; rw [if_pos (by omega)]; exact e
  · right; left
    show (stepW ms us f x.s x.vs).2.p = 5
    unfold stepW; rw [if_pos (by omega)]; exact e
  · exact .inr (.inr (stepW_right ms us f x.s x.vs e))

/-- Where a play is. -/
structure PlS where
  us : List Int
  u : Bool
  s : RdM
  vs : List Int
  x : WrX
  l : List WrX
/-- What a pick does. -/
def pickM (ms : List Bool) (st : PlS) (b : Bool) : PlS :=
  if b = true then let r := stepR ms st.us st.u st.s st.vs; { st with us := r.1.1, u := r.1.2, s := r.2.1, vs := r.2.2 }
  else let y := turnM st.x st.l; let r := stepW ms st.us st.u y.1.s y.1.vs; { st with us := r.1.1, u := r.1.2, x := { y.1 with s := r.2 }, l := y.2 }
def playM (ms : List Bool) (st : PlS) (bs : List Bool) : PlS := bs.foldl (pickM ms) st
/-- All may be. -/
structure PlOk (ms : List Bool) (st : PlS) : Prop where
  mem : rightB st.us ms = true
  rng : WRange st.us
  read : rightRB st.s st.vs.length = true
  x : okX st.x
  l : okL st.l
theorem pickM_ok {ms : List Bool} {st : PlS} (h : PlOk ms st) (b : Bool) : PlOk ms (pickM ms st b) := by
  unfold pickM
  split
  · exact ⟨by show rightB (stepR ms st.us st.u st.s st.vs).1.1 ms = true; rw [stepR_same]; exact h.mem, by show WRange (stepR ms st.us st.u st.s st.vs).1.1; rw [stepR_same]; exact h.rng, stepR_right ms st.us st.u st.s st.vs h.read, h.x, h.l⟩
  · have ht := turnM_ok st.x st.l h.x h.l
    have hm := stepW_mem (f := st.u) (s := (turnM st.x st.l).1.s) h.mem h.rng ht.1.2
    exact ⟨hm.1, hm.2, h.read, stepW_ok ht.1, ht.2⟩
theorem pickM_words (ms : List Bool) (st : PlS) (b : Bool) : (pickM ms st b).us.length = st.us.length := by
  unfold pickM
  split
  · exact stepR_words _ _ _ _ _
  · exact stepW_words _ _ _ _ _

/-- The blocks of a play that change. -/
def PlC (z gw r t : Nat) (k : Nat) : Prop := k = z ∨ k = gw ∨ k = r ∨ k = t
/-- How a play lies in memory. -/
structure PlAt (B q z gw gl cw cl r t mb mc : Nat) (ms : List Bool) (st : PlS) (W : World) : Prop where
  acc : AccF B q z gw gl cw cl st.us ms st.u W
  rd : ∃ v, RBox W r st.s v q ∧ VV (PlC z gw r t) W v st.vs
  row : ∃ p cap, RowAt (PlC z gw r t) W t q p cap st.x st.l
  m1 : W.heap[mb]? = some (rmap r)
  m2 : W.heap[mc]? = some (wmap t)
theorem PlAt.ne {B q z gw gl cw cl r t mb mc : Nat} {ms : List Bool} {st : PlS} {W : World} (h : PlAt B q z gw gl cw cl r t mb mc ms st W) : (r ≠ q ∧ r ≠ z ∧ r ≠ gw ∧ r ≠ gl) ∧ (t ≠ q ∧ t ≠ z ∧ t ≠ gw ∧ t ≠ gl) ∧ t ≠ r ∧ (mb ≠ z ∧ mb ≠ gw ∧ mb ≠ r ∧ mb ≠ t) ∧ (mc ≠ z ∧ mc ≠ gw ∧ mc ≠ r ∧ mc ≠ t) := by
  obtain ⟨v, hR, -⟩ := h.rd
  obtain ⟨p, cap, hW⟩ := h.row
  have hz : W.heap[z]? = _ := h.acc.box
  obtain ⟨c1, f1, h1⟩ := Lib.ownsRow_kind h.acc.words gw rfl
  have hr : W.heap[r]? = _ := hR
  have ht : W.heap[t]? = _ := hW.box
  have h3 := h.m1
  have h4 := h.m2
  refine ⟨h.acc.apart hR, h.acc.apartW hW.box (.inr rfl), ?_, ⟨?_, ?_, ?_, ?_⟩, ⟨?_, ?_, ?_, ?_⟩⟩ <;> rintro rfl <;> simp_all [rmap, wmap, map3, map4]
theorem PlAt.lt {B q z gw gl cw cl r t mb mc : Nat} {ms : List Bool} {st : PlS} {W : World} (h : PlAt B q z gw gl cw cl r t mb mc ms st W) : ∀ k, PlC z gw r t k → k < W.heap.size := by
  obtain ⟨v, hR, -⟩ := h.rd
  obtain ⟨p, cap, hW⟩ := h.row
  rintro k (rfl | rfl | rfl | rfl)
  · exact h.acc.box.lt
  · exact (row_lt h.acc.words).1
  · exact hR.lt
  · exact hW.box.lt
theorem RowAt.keeps {S T : Nat → Prop} {W W' : World} {r q : Nat} {p : Option Addr} {cap : Nat} {x : WrX} {l : List WrX} (h : RowAt S W r q p cap x l) (hk : Keeps T W W') (hT : ∀ k, T k → S k) (hr : ¬ T r) : RowAt S W' r q p cap x l :=
  ⟨h.box.keeps hk hr, h.val.keeps hk hT, h.left.keeps hk hT, h.cap⟩
theorem PlAt.below {B q z gw gl cw cl r t mb mc : Nat} {ms : List Bool} {st : PlS} {W W' : World} (h : PlAt B q z gw gl cw cl r t mb mc ms st W) (hb : Below W.heap.size W W') : PlAt B q z gw gl cw cl r t mb mc ms st W' := by
  obtain ⟨v, hR, hV⟩ := h.rd
  obtain ⟨p, cap, hW⟩ := h.row
  have hk : Keeps (fun _ => False) W W' := Keeps.of_below hb
  exact ⟨h.acc.below hb, ⟨v, hR.below hb, hV.keeps hk (fun _ e => e.elim)⟩, ⟨p, cap, hW.keeps hk (fun _ e => e.elim) (fun e => e)⟩, (hb.block mb (Array.getElem?_eq_some_iff.1 h.m1).1).trans h.m1, (hb.block mc (Array.getElem?_eq_some_iff.1 h.m2).1).trans h.m2⟩

/-- A pick of the read. -/
theorem pick_read (B q z gw gl cw cl r t mb mc : Nat) (ms : List Bool) (st : PlS) (W : World) (h : PlAt B q z gw gl cw cl r t mb mc ms st W) (ho : PlOk ms st) :
    Calls Try.prog 47 #[.pointer (some ⟨r, 3, none⟩), .map (some mb)] W fun e w' => e = .returned (.tuple #[]) ∧ PlAt B q z gw gl cw cl r t mb mc ms (pickM ms st true) w' ∧ Keeps (PlC z gw r t) W w' := by
  obtain ⟨⟨-, -, -, -⟩, ⟨tq, tz, tg, tl⟩, tr, ⟨b1, b2, b3, b4⟩, c1, c2, c3, c4⟩ := h.ne
  obtain ⟨v, hR, hV⟩ := h.rd
  obtain ⟨p, cap, hW⟩ := h.row
  have hT : ∀ k, (k = z ∨ k = gw ∨ k = r) → PlC z gw r t k := fun k e => by rcases e with e | e | e; exact .inl e; exact .inr (.inl e); exact .inr (.inr (.inl e))
  refine (rstep_c B q z gw gl cw cl r mb (PlC z gw r t) st.us ms st.u st.s st.vs W ⟨h.acc, v, hR, hV⟩ h.m1 ho.mem ho.rng ho.read hT h.lt).mono fun e w' h' => ?_
  obtain ⟨rfl, ⟨hA, hX⟩, hk⟩ := h'
  refine ⟨rfl, ⟨hA, hX, ⟨p, cap, hW.keeps hk hT (by rintro (e | e | e); exact tz e; exact tg e; exact tr e)⟩, ?_, ?_⟩, hk.sub fun k _ e => hT k e⟩
  · exact (hk.block mb (Array.getElem?_eq_some_iff.1 h.m1).1 (by rintro (e | e | e); exact b1 e; exact b2 e; exact b3 e)).trans h.m1
  · exact (hk.block mc (Array.getElem?_eq_some_iff.1 h.m2).1 (by rintro (e | e | e); exact c1 e; exact c2 e; exact c3 e)).trans h.m2
/-- On to the write that goes on. -/
theorem pick_turn (B q z gw gl cw cl r t mb mc : Nat) (ms : List Bool) (st : PlS) (W : World) (h : PlAt B q z gw gl cw cl r t mb mc ms st W) :
    Calls Try.prog 57 #[.pointer (some ⟨t, 0, none⟩)] W fun e w' => e = .returned (.tuple #[]) ∧ PlAt B q z gw gl cw cl r t mb mc ms { st with x := (turnM st.x st.l).1, l := (turnM st.x st.l).2 } w' ∧ Keeps (PlC z gw r t) W w' := by
  obtain ⟨⟨-, -, -, -⟩, ⟨tq, tz, tg, tl⟩, tr, ⟨b1, b2, b3, b4⟩, c1, c2, c3, c4⟩ := h.ne
  obtain ⟨v, hR, hV⟩ := h.rd
  obtain ⟨p, cap, hW⟩ := h.row
  have hT : ∀ k, k = t → PlC z gw r t k := fun k e => .inr (.inr (.inr e))
  refine (eturn_c t q (PlC z gw r t) p cap st.x st.l W hW (hT t rfl)).mono fun e w' h' => ?_
  obtain ⟨rfl, hX, hk⟩ := h'
  refine ⟨rfl, ⟨h.acc.keeps hk (fun e => tq e.symm) (fun e => tz e.symm) (fun e => tg e.symm) (fun e => tl e.symm), ⟨v, hR.keeps hk (fun e => tr e.symm), hV.keeps hk hT⟩, hX, ?_, ?_⟩, hk.sub fun k _ e => hT k e⟩
  · exact (hk.block mb (Array.getElem?_eq_some_iff.1 h.m1).1 b4).trans h.m1
  · exact (hk.block mc (Array.getElem?_eq_some_iff.1 h.m2).1 c4).trans h.m2
/-- A step of the write that goes on. -/
theorem pick_write (B q z gw gl cw cl r t mb mc : Nat) (ms : List Bool) (st : PlS) (W : World) (h : PlAt B q z gw gl cw cl r t mb mc ms st W) (hm : rightB st.us ms = true) (hw : WRange st.us) (hx : okX st.x) :
    Calls Try.prog 47 #[.pointer (some ⟨t, 3, none⟩), .map (some mc)] W fun e w' => e = .returned (.tuple #[]) ∧ PlAt B q z gw gl cw cl r t mb mc ms { st with us := (stepW ms st.us st.u st.x.s st.x.vs).1.1, u := (stepW ms st.us st.u st.x.s st.x.vs).1.2, x := { st.x with s := (stepW ms st.us st.u st.x.s st.x.vs).2 } } w' ∧ Keeps (PlC z gw r t) W w' := by
  obtain ⟨⟨rq, rz, rg, rl⟩, ⟨tq, tz, tg, tl⟩, tr, ⟨b1, b2, b3, b4⟩, c1, c2, c3, c4⟩ := h.ne
  obtain ⟨v, hR, hV⟩ := h.rd
  obtain ⟨p, cap, hW⟩ := h.row
  have hT : ∀ k, (k = z ∨ k = gw ∨ k = t) → PlC z gw r t k := fun k e => by rcases e with e | e | e; exact .inl e; exact .inr (.inl e); exact .inr (.inr (.inr e))
  have hc : Calls Try.prog 47 #[.pointer (some ⟨t, 3, none⟩), .map (some mc)] W fun e w' => e = .returned (.tuple #[]) ∧ WS B q z gw gl cw cl t 109 [.slice p st.l.length cap] (PlC z gw r t) ms st.x.v st.x.vs (stepW ms st.us st.u st.x.s st.x.vs) w' ∧ Keeps (fun k => k = z ∨ k = gw ∨ k = t) W w' := by
    have h0 : WS B q z gw gl cw cl t 109 [.slice p st.l.length cap] (PlC z gw r t) ms st.x.v st.x.vs ((st.us, st.u), st.x.s) W := ⟨h.acc, hW.box, hW.val⟩
    have hsame : (st.x.s.p = 4 ∨ st.x.s.p = 5) → stepW ms st.us st.u st.x.s st.x.vs = ((st.us, st.u), st.x.s) := fun e => by unfold stepW; rw [if_pos (by omega)]
    rcases hx.1 with e | e | e
    · rw [hsame (.inl e)]
      exact ws_nochange B q z gw gl cw cl t mc _ _ _ ms _ _ _ W h0 h.m2 (.inl e)
    · rw [hsame (.inr e)]
      exact ws_nochange B q z gw gl cw cl t mc _ _ _ ms _ _ _ W h0 h.m2 (.inr e)
    · exact wstep_c B q z gw gl cw cl t mc _ _ _ st.us ms st.u st.x.s st.x.v st.x.vs W h0 h.m2 (.inr rfl) hm hw e hT
  refine hc.mono fun e w' h' => ?_
  obtain ⟨rfl, ⟨hA, hB, hVV⟩, hk⟩ := h'
  refine ⟨rfl, ⟨hA, ⟨v, hR.keeps hk (by rintro (e | e | e); exact rz e; exact rg e; exact tr e.symm), hV.keeps hk hT⟩, ⟨p, cap, hB, hVV, hW.left.keeps hk hT, hW.cap⟩, ?_, ?_⟩, hk.sub fun k _ e => hT k e⟩
  · exact (hk.block mb (Array.getElem?_eq_some_iff.1 h.m1).1 (by rintro (e | e | e); exact b1 e; exact b2 e; exact b4 e)).trans h.m1
  · exact (hk.block mc (Array.getElem?_eq_some_iff.1 h.m2).1 (by rintro (e | e | e); exact c1 e; exact c2 e; exact c4 e)).trans h.m2

end Go.Proofs.Ytaljpggajpoalaa
