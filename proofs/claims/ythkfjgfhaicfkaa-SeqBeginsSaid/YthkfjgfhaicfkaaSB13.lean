/-
  begin, of a writer of package seq.
  Conditions: the memory may be, the write may be.
-/
import Derived.Test.YthkfjgfhaicfkaaSB12
import Derived.Test.YthkfjgfhaicfkaaSB6
/-
  close, of a reader of package seq.
  Conditions: the memory may be, the read may be.
-/
namespace Go.Proofs.Ythkfjgfhaicfkaa
open Go.RowKit Go.Shelf
attribute [local go_sem] Oper.semAt_some

set_option maxRecDepth 100000 in
set_option maxHeartbeats 4000000 in
theorem rclose_no (B q z gw gl cw cl r : Nat) (us : List Int) (ms : List Bool) (u : Bool) (a f m ph b t : Int) (v : Value) (W : World) (hF : AccF B q z gw gl cw cl us ms u W) (hR : RBox W r ⟨a, f, m, ph, b, t⟩ v q) (hr : rightB us ms = true) (ha : 0 ≤ a) (hm : a ≤ 4096) (us' : List Int) (u' : Bool) (h : Int)  (hacc : accM us ms u 1 (a) 0 0 = (us', u', h, false)) :
    Calls Try.prog 67 #[.pointer (some ⟨r, 0, none⟩)] W fun e w' => MDone B q z gw gl cw cl r us' ms u' false ⟨a, f, m, ph, b, t⟩ v W e w' := by
  obtain ⟨nq, nz, nw, nl⟩ := hF.apart hR
  have HC := Lib.hid (fun (Z : World) (hz : AccF B q z gw gl cw cl us ms u Z) => hacc ▸ qload_c B q z gw gl cw cl us ms u (a) Z hz hr (by omega) (by omega))
  have HF := Lib.hid hF
  have HR := Lib.hid hR
  obtain ⟨⟨h0, h1, h2, h3⟩, h4, h5, h6, h7⟩ := hR.cells
  dsimp only at h0 h1 h2 h3 h4 h6
  clear hF hR hr hacc h1 h2 h3 h4 h5 h6
  go_enter Try.func67, Try.ntmps67
  go_upto_region 1 with fail
  go_region_held3 (fun w' => w'.cell? ⟨r, 0, none⟩ = some (.int .i64 a) ∧ w'.cell? ⟨r, 7, none⟩ = some (accV q))
    (first
      | exact ⟨h0, h7⟩
      | go_keep
      | (go_split_ands; exact ⟨hk1.cell (by assumption) (by show ¬ (r = z ∨ r = gw); omega), hk1.cell (by assumption) (by show ¬ (r = z ∨ r = gw); omega)⟩))
    (first | (go_at_call 82; refine (HC.out _ HF.out.drew).mono ?_; rintro e w1 ⟨rfl, hF1, hk1⟩))
  all_goals
    have HF1 := Lib.hid hF1
    have HK1 := Lib.hid ((Keeps.drewN (Keeps.refl (fun k => k = z ∨ k = gw) W) 1).trans hk1)
    have HR1 := Lib.hid (HR.out.keeps HK1.out (by show ¬ (r = z ∨ r = gw); omega))
    clear hF1 hk1 HC HF HR h0 h7
    rename_i hHeld
    clear hHeld
    go_wp2
    exact bodyPost_ret (v := .bool false) (by simp [results, Try.results67, go_sem]) rfl ⟨rfl, HF1.out, HR1.out, HK1.out.sub fun k _ e => by rcases e with e | e; exact .inl e; exact .inr (.inl e)⟩
set_option maxRecDepth 100000 in
set_option maxHeartbeats 4000000 in
theorem rclose_eq (B q z gw gl cw cl r : Nat) (us : List Int) (ms : List Bool) (u : Bool) (a f m ph b t : Int) (v : Value) (W : World) (hF : AccF B q z gw gl cw cl us ms u W) (hR : RBox W r ⟨a, f, m, ph, b, t⟩ v q) (hr : rightB us ms = true) (ha : 0 ≤ a) (hm : a ≤ 4096) (us' : List Int) (u' : Bool) (h : Int) (hh : h = b) (hacc : accM us ms u 1 (a) 0 0 = (us', u', h, true)) :
    Calls Try.prog 67 #[.pointer (some ⟨r, 0, none⟩)] W fun e w' => MDone B q z gw gl cw cl r us' ms u' true ⟨a, f, m, 4, b, t⟩ v W e w' := by
  subst hh
  obtain ⟨nq, nz, nw, nl⟩ := hF.apart hR
  have HC := Lib.hid (fun (Z : World) (hz : AccF B q z gw gl cw cl us ms u Z) => hacc ▸ qload_c B q z gw gl cw cl us ms u (a) Z hz hr (by omega) (by omega))
  have HF := Lib.hid hF
  have HR := Lib.hid hR
  obtain ⟨⟨h0, h1, h2, h3⟩, h4, h5, h6, h7⟩ := hR.cells
  dsimp only at h0 h1 h2 h3 h4 h6
  clear hF hR hr hacc h1 h2 h3 h4 h5 h6
  go_enter Try.func67, Try.ntmps67
  go_upto_region 1 with fail
  go_region_held3 (fun w' => w'.cell? ⟨r, 0, none⟩ = some (.int .i64 a) ∧ w'.cell? ⟨r, 7, none⟩ = some (accV q))
    (first
      | exact ⟨h0, h7⟩
      | go_keep
      | (go_split_ands; exact ⟨hk1.cell (by assumption) (by show ¬ (r = z ∨ r = gw); omega), hk1.cell (by assumption) (by show ¬ (r = z ∨ r = gw); omega)⟩))
    (first | (go_at_call 82; refine (HC.out _ HF.out.drew).mono ?_; rintro e w1 ⟨rfl, hF1, hk1⟩))
  all_goals
    have HF1 := Lib.hid hF1
    have HK1 := Lib.hid ((Keeps.drewN (Keeps.refl (fun k => k = z ∨ k = gw) W) 1).trans hk1)
    have HR1 := Lib.hid (HR.out.keeps HK1.out (by show ¬ (r = z ∨ r = gw); omega))
    clear hF1 hk1 HC HF HR h0 h7
    rename_i hHeld
    clear hHeld
    obtain ⟨-, k4, -, k6, -⟩ := HR1.out.cells
    obtain ⟨⟨-, -, -, k3⟩, -⟩ := HR1.out.cells
    have m3 := HR1.out.marks 3
    have m6 := HR1.out.marks 6
    dsimp only at k3 k4 k6
    have HR2 := Lib.hid (HR1.out.setP 4)
    have hk2 := Keeps.setCell w1 (S := (· = r)) (p := ⟨r, 3, none⟩) rfl (.int .i64 4)
    have HF2 := Lib.hid (HF1.out.keeps hk2 (by show ¬ q = r; omega) (by show ¬ z = r; omega) (by show ¬ gw = r; omega) (by show ¬ gl = r; omega))
    have HK2 := Lib.hid ((HK1.out.sub (T := fun k => k = z ∨ k = gw ∨ k = r) fun k _ e => by rcases e with e | e; exact .inl e; exact .inr (.inl e)).trans (hk2.sub fun k _ e => .inr (.inr e)))
    clear hk2 HF1 HR1 HK1
    go_wp2
    exact bodyPost_ret (v := .bool true) (by simp [results, Try.results67, go_sem]) rfl ⟨rfl, HF2.out, HR2.out, HK2.out⟩
set_option maxRecDepth 100000 in
set_option maxHeartbeats 4000000 in
theorem rclose_lt (B q z gw gl cw cl r : Nat) (us : List Int) (ms : List Bool) (u : Bool) (a f m ph b t : Int) (v : Value) (W : World) (hF : AccF B q z gw gl cw cl us ms u W) (hR : RBox W r ⟨a, f, m, ph, b, t⟩ v q) (hr : rightB us ms = true) (ha : 0 ≤ a) (hm : a ≤ 4096) (ht0 : 0 ≤ t) (ht : t < 1073741823) (us' : List Int) (u' : Bool) (h : Int) (hh : h ≠ b) (hacc : accM us ms u 1 (a) 0 0 = (us', u', h, true)) :
    Calls Try.prog 67 #[.pointer (some ⟨r, 0, none⟩)] W fun e w' => MDone B q z gw gl cw cl r us' ms u' true ⟨a, f, m, 0, b, t + 1⟩ v W e w' := by
  have hhb : (h == b) = false := by simpa using hh
  obtain ⟨nq, nz, nw, nl⟩ := hF.apart hR
  have HC := Lib.hid (fun (Z : World) (hz : AccF B q z gw gl cw cl us ms u Z) => hacc ▸ qload_c B q z gw gl cw cl us ms u (a) Z hz hr (by omega) (by omega))
  have HF := Lib.hid hF
  have HR := Lib.hid hR
  obtain ⟨⟨h0, h1, h2, h3⟩, h4, h5, h6, h7⟩ := hR.cells
  dsimp only at h0 h1 h2 h3 h4 h6
  clear hF hR hr hacc h1 h2 h3 h4 h5 h6
  go_enter Try.func67, Try.ntmps67
  go_upto_region 1 with fail
  go_region_held3 (fun w' => w'.cell? ⟨r, 0, none⟩ = some (.int .i64 a) ∧ w'.cell? ⟨r, 7, none⟩ = some (accV q))
    (first
      | exact ⟨h0, h7⟩
      | go_keep
      | (go_split_ands; exact ⟨hk1.cell (by assumption) (by show ¬ (r = z ∨ r = gw); omega), hk1.cell (by assumption) (by show ¬ (r = z ∨ r = gw); omega)⟩))
    (first | (go_at_call 82; refine (HC.out _ HF.out.drew).mono ?_; rintro e w1 ⟨rfl, hF1, hk1⟩))
  all_goals
    have HF1 := Lib.hid hF1
    have HK1 := Lib.hid ((Keeps.drewN (Keeps.refl (fun k => k = z ∨ k = gw) W) 1).trans hk1)
    have HR1 := Lib.hid (HR.out.keeps HK1.out (by show ¬ (r = z ∨ r = gw); omega))
    clear hF1 hk1 HC HF HR h0 h7
    rename_i hHeld
    clear hHeld
    obtain ⟨-, k4, -, k6, -⟩ := HR1.out.cells
    obtain ⟨⟨-, -, -, k3⟩, -⟩ := HR1.out.cells
    have m3 := HR1.out.marks 3
    have m6 := HR1.out.marks 6
    dsimp only at k3 k4 k6
    have HR2 := Lib.hid ((HR1.out.setP 0).setT (t + 1))
    have hk2 := (Keeps.setCell w1 (S := (· = r)) (p := ⟨r, 3, none⟩) rfl (.int .i64 0)).trans (Keeps.setCell _ (S := (· = r)) (p := ⟨r, 6, none⟩) rfl (.int .i64 (t + 1)))
    have HF2 := Lib.hid (HF1.out.keeps hk2 (by show ¬ q = r; omega) (by show ¬ z = r; omega) (by show ¬ gw = r; omega) (by show ¬ gl = r; omega))
    have HK2 := Lib.hid ((HK1.out.sub (T := fun k => k = z ∨ k = gw ∨ k = r) fun k _ e => by rcases e with e | e; exact .inl e; exact .inr (.inl e)).trans (hk2.sub fun k _ e => .inr (.inr e)))
    clear hk2 HF1 HR1 HK1
    go_wp2
    exact bodyPost_ret (v := .bool true) (by simp [results, Try.results67, go_sem]) rfl ⟨rfl, HF2.out, HR2.out, HK2.out⟩
set_option maxRecDepth 100000 in
set_option maxHeartbeats 4000000 in
theorem rclose_at (B q z gw gl cw cl r : Nat) (us : List Int) (ms : List Bool) (u : Bool) (a f m ph b t : Int) (v : Value) (W : World) (hF : AccF B q z gw gl cw cl us ms u W) (hR : RBox W r ⟨a, f, m, ph, b, t⟩ v q) (hr : rightB us ms = true) (ha : 0 ≤ a) (hm : a ≤ 4096) (ht0 : 0 ≤ t) (ht : t = 1073741823) (us' : List Int) (u' : Bool) (h : Int) (hh : h ≠ b) (hacc : accM us ms u 1 (a) 0 0 = (us', u', h, true)) :
    Calls Try.prog 67 #[.pointer (some ⟨r, 0, none⟩)] W fun e w' => MDone B q z gw gl cw cl r us' ms u' true ⟨a, f, m, 0, b, 1073741824⟩ v W e w' := by
  subst ht
  have hhb : (h == b) = false := by simpa using hh
  obtain ⟨nq, nz, nw, nl⟩ := hF.apart hR
  have HC := Lib.hid (fun (Z : World) (hz : AccF B q z gw gl cw cl us ms u Z) => hacc ▸ qload_c B q z gw gl cw cl us ms u (a) Z hz hr (by omega) (by omega))
  have HF := Lib.hid hF
  have HR := Lib.hid hR
  obtain ⟨⟨h0, h1, h2, h3⟩, h4, h5, h6, h7⟩ := hR.cells
  dsimp only at h0 h1 h2 h3 h4 h6
  clear hF hR hr hacc h1 h2 h3 h4 h5 h6
  go_enter Try.func67, Try.ntmps67
  go_upto_region 1 with fail
  go_region_held3 (fun w' => w'.cell? ⟨r, 0, none⟩ = some (.int .i64 a) ∧ w'.cell? ⟨r, 7, none⟩ = some (accV q))
    (first
      | exact ⟨h0, h7⟩
      | go_keep
      | (go_split_ands; exact ⟨hk1.cell (by assumption) (by show ¬ (r = z ∨ r = gw); omega), hk1.cell (by assumption) (by show ¬ (r = z ∨ r = gw); omega)⟩))
    (first | (go_at_call 82; refine (HC.out _ HF.out.drew).mono ?_; rintro e w1 ⟨rfl, hF1, hk1⟩))
  all_goals
    have HF1 := Lib.hid hF1
    have HK1 := Lib.hid ((Keeps.drewN (Keeps.refl (fun k => k = z ∨ k = gw) W) 1).trans hk1)
    have HR1 := Lib.hid (HR.out.keeps HK1.out (by show ¬ (r = z ∨ r = gw); omega))
    clear hF1 hk1 HC HF HR h0 h7
    rename_i hHeld
    clear hHeld
    obtain ⟨-, k4, -, k6, -⟩ := HR1.out.cells
    obtain ⟨⟨-, -, -, k3⟩, -⟩ := HR1.out.cells
    have m3 := HR1.out.marks 3
    have m6 := HR1.out.marks 6
    dsimp only at k3 k4 k6
    have HR2 := Lib.hid ((HR1.out.setP 0).setT (1073741824))
    have hk2 := (Keeps.setCell w1 (S := (· = r)) (p := ⟨r, 3, none⟩) rfl (.int .i64 0)).trans (Keeps.setCell _ (S := (· = r)) (p := ⟨r, 6, none⟩) rfl (.int .i64 (1073741824)))
    have HF2 := Lib.hid (HF1.out.keeps hk2 (by show ¬ q = r; omega) (by show ¬ z = r; omega) (by show ¬ gw = r; omega) (by show ¬ gl = r; omega))
    have HK2 := Lib.hid ((HK1.out.sub (T := fun k => k = z ∨ k = gw ∨ k = r) fun k _ e => by rcases e with e | e; exact .inl e; exact .inr (.inl e)).trans (hk2.sub fun k _ e => .inr (.inr e)))
    clear hk2 HF1 HR1 HK1
    go_wp2
    exact bodyPost_ret (v := .bool true) (by simp [results, Try.results67, go_sem]) rfl ⟨rfl, HF2.out, HR2.out, HK2.out⟩
set_option maxRecDepth 100000 in
set_option maxHeartbeats 4000000 in
theorem rclose_ge (B q z gw gl cw cl r : Nat) (us : List Int) (ms : List Bool) (u : Bool) (a f m ph b t : Int) (v : Value) (W : World) (hF : AccF B q z gw gl cw cl us ms u W) (hR : RBox W r ⟨a, f, m, ph, b, t⟩ v q) (hr : rightB us ms = true) (ha : 0 ≤ a) (hm : a ≤ 4096) (ht0 : 0 ≤ t) (ht : t = 1073741824) (us' : List Int) (u' : Bool) (h : Int) (hh : h ≠ b) (hacc : accM us ms u 1 (a) 0 0 = (us', u', h, true)) :
    Calls Try.prog 67 #[.pointer (some ⟨r, 0, none⟩)] W fun e w' => MDone B q z gw gl cw cl r us' ms u' true ⟨a, f, m, 0, b, 1073741824⟩ v W e w' := by
  subst ht
  have hhb : (h == b) = false := by simpa using hh
  obtain ⟨nq, nz, nw, nl⟩ := hF.apart hR
  have HC := Lib.hid (fun (Z : World) (hz : AccF B q z gw gl cw cl us ms u Z) => hacc ▸ qload_c B q z gw gl cw cl us ms u (a) Z hz hr (by omega) (by omega))
  have HF := Lib.hid hF
  have HR := Lib.hid hR
  obtain ⟨⟨h0, h1, h2, h3⟩, h4, h5, h6, h7⟩ := hR.cells
  dsimp only at h0 h1 h2 h3 h4 h6
  clear hF hR hr hacc h1 h2 h3 h4 h5 h6
  go_enter Try.func67, Try.ntmps67
  go_upto_region 1 with fail
  go_region_held3 (fun w' => w'.cell? ⟨r, 0, none⟩ = some (.int .i64 a) ∧ w'.cell? ⟨r, 7, none⟩ = some (accV q))
    (first
      | exact ⟨h0, h7⟩
      | go_keep
      | (go_split_ands; exact ⟨hk1.cell (by assumption) (by show ¬ (r = z ∨ r = gw); omega), hk1.cell (by assumption) (by show ¬ (r = z ∨ r = gw); omega)⟩))
    (first | (go_at_call 82; refine (HC.out _ HF.out.drew).mono ?_; rintro e w1 ⟨rfl, hF1, hk1⟩))
  all_goals
    have HF1 := Lib.hid hF1
    have HK1 := Lib.hid ((Keeps.drewN (Keeps.refl (fun k => k = z ∨ k = gw) W) 1).trans hk1)
    have HR1 := Lib.hid (HR.out.keeps HK1.out (by show ¬ (r = z ∨ r = gw); omega))
    clear hF1 hk1 HC HF HR h0 h7
    rename_i hHeld
    clear hHeld
    obtain ⟨-, k4, -, k6, -⟩ := HR1.out.cells
    obtain ⟨⟨-, -, -, k3⟩, -⟩ := HR1.out.cells
    have m3 := HR1.out.marks 3
    have m6 := HR1.out.marks 6
    dsimp only at k3 k4 k6
    have HR2 := Lib.hid ((HR1.out.setP 0).setT (1073741824))
    have hk2 := (Keeps.setCell w1 (S := (· = r)) (p := ⟨r, 3, none⟩) rfl (.int .i64 0)).trans (Keeps.setCell _ (S := (· = r)) (p := ⟨r, 6, none⟩) rfl (.int .i64 (1073741824)))
    have HF2 := Lib.hid (HF1.out.keeps hk2 (by show ¬ q = r; omega) (by show ¬ z = r; omega) (by show ¬ gw = r; omega) (by show ¬ gl = r; omega))
    have HK2 := Lib.hid ((HK1.out.sub (T := fun k => k = z ∨ k = gw ∨ k = r) fun k _ e => by rcases e with e | e; exact .inl e; exact .inr (.inl e)).trans (hk2.sub fun k _ e => .inr (.inr e)))
    clear hk2 HF1 HR1 HK1
    go_wp2
    exact bodyPost_ret (v := .bool true) (by simp [results, Try.results67, go_sem]) rfl ⟨rfl, HF2.out, HR2.out, HK2.out⟩

end Go.Proofs.Ythkfjgfhaicfkaa
/-
  step, of package seq: what stands in a map at a phase is done.
  Conditions: what is done has its contract.
-/
namespace Go.Proofs.Ythkfjgfhaicfkaa
open Go.RowKit Go.Shelf
attribute [local go_sem] Oper.semAt_some

set_option maxRecDepth 100000 in
set_option maxHeartbeats 4000000 in
theorem step_miss (r mb : Nat) (p : Int) (es : Array MapEntry) (clock : Nat) (W : World) (hc : W.cell? ⟨r, 3, none⟩ = some (.int .i64 p)) (hb : W.heap[mb]? = some (.map es clock)) (hf : Instr.findNow (.int .i64) (.int .i64 p) es.toList 0 = some none) :
    Calls Try.prog 47 #[.pointer (some ⟨r, 3, none⟩), .map (some mb)] W fun e w' => e = .returned (.tuple #[]) ∧ w' = W := by
  have hl := emap_miss W mb clock p es hb hf
  clear hb hf
  go_enter Try.func47, Try.ntmps47
  go_wp2
  exact bodyPost_end (v := .tuple #[]) (by simp [results, Try.results47, go_sem]) rfl ⟨rfl, rfl⟩

-- methods
set_option maxRecDepth 100000 in
set_option maxHeartbeats 4000000 in
theorem step_rbegin (r mb : Nat) (p : Int) (es : Array MapEntry) (clock i : Nat) (R : Bool → World → Prop) (W : World) (hc : W.cell? ⟨r, 3, none⟩ = some (.int .i64 p)) (hb : W.heap[mb]? = some (.map es clock)) (hf : Instr.findNow (.int .i64) (.int .i64 p) es.toList 0 = some (some (i, .func (.func 65) #[.pointer (some ⟨r, 0, none⟩)] #[])))
    (hC : Calls Try.prog 65 #[.pointer (some ⟨r, 0, none⟩)] W fun e w' => ∃ d, e = .returned (.bool d) ∧ R d w') (hR : ∀ w', R false w' → ∃ c, w'.cell? ⟨r, 3, none⟩ = some c ∧ w'.frozen? ⟨r, 3, none⟩ = false) :
    Calls Try.prog 47 #[.pointer (some ⟨r, 3, none⟩), .map (some mb)] W fun e w' => e = .returned (.tuple #[]) ∧ ∃ w1, (R true w1 ∧ w' = w1) ∨ (R false w1 ∧ w' = w1.setCell ⟨r, 3, none⟩ (.int .i64 5)) := by
  have hl := emap_get W mb clock p es _ i hb hf
  have HC := Lib.hid hC
  clear hb hf hC
  go_enter Try.func47, Try.ntmps47
  go_wp2_with fail
  refine HC.out.mono ?_
  rintro e w1 ⟨d, rfl, h1⟩
  clear HC
  cases d with
  | true =>
    have H1 := Lib.hid h1
    clear h1
    go_wp2
    exact bodyPost_end (v := .tuple #[]) (by simp [results, Try.results47, go_sem]) rfl ⟨rfl, w1, .inl ⟨H1.out, rfl⟩⟩
  | false =>
    obtain ⟨c, k3, m3⟩ := hR w1 h1
    have H1 := Lib.hid h1
    clear h1
    go_wp2
    exact bodyPost_end (v := .tuple #[]) (by simp [results, Try.results47, go_sem]) rfl ⟨rfl, w1, .inr ⟨H1.out, rfl⟩⟩
set_option maxRecDepth 100000 in
set_option maxHeartbeats 4000000 in
theorem step_rnext (r mb : Nat) (p : Int) (es : Array MapEntry) (clock i : Nat) (R : Bool → World → Prop) (W : World) (hc : W.cell? ⟨r, 3, none⟩ = some (.int .i64 p)) (hb : W.heap[mb]? = some (.map es clock)) (hf : Instr.findNow (.int .i64) (.int .i64 p) es.toList 0 = some (some (i, .func (.func 66) #[.pointer (some ⟨r, 0, none⟩)] #[])))
    (hC : Calls Try.prog 66 #[.pointer (some ⟨r, 0, none⟩)] W fun e w' => ∃ d, e = .returned (.bool d) ∧ R d w') (hR : ∀ w', R false w' → ∃ c, w'.cell? ⟨r, 3, none⟩ = some c ∧ w'.frozen? ⟨r, 3, none⟩ = false) :
    Calls Try.prog 47 #[.pointer (some ⟨r, 3, none⟩), .map (some mb)] W fun e w' => e = .returned (.tuple #[]) ∧ ∃ w1, (R true w1 ∧ w' = w1) ∨ (R false w1 ∧ w' = w1.setCell ⟨r, 3, none⟩ (.int .i64 5)) := by
  have hl := emap_get W mb clock p es _ i hb hf
  have HC := Lib.hid hC
  clear hb hf hC
  go_enter Try.func47, Try.ntmps47
  go_wp2_with fail
  refine HC.out.mono ?_
  rintro e w1 ⟨d, rfl, h1⟩
  clear HC
  cases d with
  | true =>
    have H1 := Lib.hid h1
    clear h1
    go_wp2
    exact bodyPost_end (v := .tuple #[]) (by simp [results, Try.results47, go_sem]) rfl ⟨rfl, w1, .inl ⟨H1.out, rfl⟩⟩
  | false =>
    obtain ⟨c, k3, m3⟩ := hR w1 h1
    have H1 := Lib.hid h1
    clear h1
    go_wp2
    exact bodyPost_end (v := .tuple #[]) (by simp [results, Try.results47, go_sem]) rfl ⟨rfl, w1, .inr ⟨H1.out, rfl⟩⟩
set_option maxRecDepth 100000 in
set_option maxHeartbeats 4000000 in
theorem step_rclose (r mb : Nat) (p : Int) (es : Array MapEntry) (clock i : Nat) (R : Bool → World → Prop) (W : World) (hc : W.cell? ⟨r, 3, none⟩ = some (.int .i64 p)) (hb : W.heap[mb]? = some (.map es clock)) (hf : Instr.findNow (.int .i64) (.int .i64 p) es.toList 0 = some (some (i, .func (.func 67) #[.pointer (some ⟨r, 0, none⟩)] #[])))
    (hC : Calls Try.prog 67 #[.pointer (some ⟨r, 0, none⟩)] W fun e w' => ∃ d, e = .returned (.bool d) ∧ R d w') (hR : ∀ w', R false w' → ∃ c, w'.cell? ⟨r, 3, none⟩ = some c ∧ w'.frozen? ⟨r, 3, none⟩ = false) :
    Calls Try.prog 47 #[.pointer (some ⟨r, 3, none⟩), .map (some mb)] W fun e w' => e = .returned (.tuple #[]) ∧ ∃ w1, (R true w1 ∧ w' = w1) ∨ (R false w1 ∧ w' = w1.setCell ⟨r, 3, none⟩ (.int .i64 5)) := by
  have hl := emap_get W mb clock p es _ i hb hf
  have HC := Lib.hid hC
  clear hb hf hC
  go_enter Try.func47, Try.ntmps47
  go_wp2_with fail
  refine HC.out.mono ?_
  rintro e w1 ⟨d, rfl, h1⟩
  clear HC
  cases d with
  | true =>
    have H1 := Lib.hid h1
    clear h1
    go_wp2
    exact bodyPost_end (v := .tuple #[]) (by simp [results, Try.results47, go_sem]) rfl ⟨rfl, w1, .inl ⟨H1.out, rfl⟩⟩
  | false =>
    obtain ⟨c, k3, m3⟩ := hR w1 h1
    have H1 := Lib.hid h1
    clear h1
    go_wp2
    exact bodyPost_end (v := .tuple #[]) (by simp [results, Try.results47, go_sem]) rfl ⟨rfl, w1, .inr ⟨H1.out, rfl⟩⟩
set_option maxRecDepth 100000 in
set_option maxHeartbeats 4000000 in
theorem step_wbegin (r mb : Nat) (p : Int) (es : Array MapEntry) (clock i : Nat) (R : Bool → World → Prop) (W : World) (hc : W.cell? ⟨r, 3, none⟩ = some (.int .i64 p)) (hb : W.heap[mb]? = some (.map es clock)) (hf : Instr.findNow (.int .i64) (.int .i64 p) es.toList 0 = some (some (i, .func (.func 69) #[.pointer (some ⟨r, 0, none⟩)] #[])))
    (hC : Calls Try.prog 69 #[.pointer (some ⟨r, 0, none⟩)] W fun e w' => ∃ d, e = .returned (.bool d) ∧ R d w') (hR : ∀ w', R false w' → ∃ c, w'.cell? ⟨r, 3, none⟩ = some c ∧ w'.frozen? ⟨r, 3, none⟩ = false) :
    Calls Try.prog 47 #[.pointer (some ⟨r, 3, none⟩), .map (some mb)] W fun e w' => e = .returned (.tuple #[]) ∧ ∃ w1, (R true w1 ∧ w' = w1) ∨ (R false w1 ∧ w' = w1.setCell ⟨r, 3, none⟩ (.int .i64 5)) := by
  have hl := emap_get W mb clock p es _ i hb hf
  have HC := Lib.hid hC
  clear hb hf hC
  go_enter Try.func47, Try.ntmps47
  go_wp2_with fail
  refine HC.out.mono ?_
  rintro e w1 ⟨d, rfl, h1⟩
  clear HC
  cases d with
  | true =>
    have H1 := Lib.hid h1
    clear h1
    go_wp2
    exact bodyPost_end (v := .tuple #[]) (by simp [results, Try.results47, go_sem]) rfl ⟨rfl, w1, .inl ⟨H1.out, rfl⟩⟩
  | false =>
    obtain ⟨c, k3, m3⟩ := hR w1 h1
    have H1 := Lib.hid h1
    clear h1
    go_wp2
    exact bodyPost_end (v := .tuple #[]) (by simp [results, Try.results47, go_sem]) rfl ⟨rfl, w1, .inr ⟨H1.out, rfl⟩⟩
set_option maxRecDepth 100000 in
set_option maxHeartbeats 4000000 in
theorem step_wopen (r mb : Nat) (p : Int) (es : Array MapEntry) (clock i : Nat) (R : Bool → World → Prop) (W : World) (hc : W.cell? ⟨r, 3, none⟩ = some (.int .i64 p)) (hb : W.heap[mb]? = some (.map es clock)) (hf : Instr.findNow (.int .i64) (.int .i64 p) es.toList 0 = some (some (i, .func (.func 70) #[.pointer (some ⟨r, 0, none⟩)] #[])))
    (hC : Calls Try.prog 70 #[.pointer (some ⟨r, 0, none⟩)] W fun e w' => ∃ d, e = .returned (.bool d) ∧ R d w') (hR : ∀ w', R false w' → ∃ c, w'.cell? ⟨r, 3, none⟩ = some c ∧ w'.frozen? ⟨r, 3, none⟩ = false) :
    Calls Try.prog 47 #[.pointer (some ⟨r, 3, none⟩), .map (some mb)] W fun e w' => e = .returned (.tuple #[]) ∧ ∃ w1, (R true w1 ∧ w' = w1) ∨ (R false w1 ∧ w' = w1.setCell ⟨r, 3, none⟩ (.int .i64 5)) := by
  have hl := emap_get W mb clock p es _ i hb hf
  have HC := Lib.hid hC
  clear hb hf hC
  go_enter Try.func47, Try.ntmps47
  go_wp2_with fail
  refine HC.out.mono ?_
  rintro e w1 ⟨d, rfl, h1⟩
  clear HC
  cases d with
  | true =>
    have H1 := Lib.hid h1
    clear h1
    go_wp2
    exact bodyPost_end (v := .tuple #[]) (by simp [results, Try.results47, go_sem]) rfl ⟨rfl, w1, .inl ⟨H1.out, rfl⟩⟩
  | false =>
    obtain ⟨c, k3, m3⟩ := hR w1 h1
    have H1 := Lib.hid h1
    clear h1
    go_wp2
    exact bodyPost_end (v := .tuple #[]) (by simp [results, Try.results47, go_sem]) rfl ⟨rfl, w1, .inr ⟨H1.out, rfl⟩⟩
set_option maxRecDepth 100000 in
set_option maxHeartbeats 4000000 in
theorem step_wnext (r mb : Nat) (p : Int) (es : Array MapEntry) (clock i : Nat) (R : Bool → World → Prop) (W : World) (hc : W.cell? ⟨r, 3, none⟩ = some (.int .i64 p)) (hb : W.heap[mb]? = some (.map es clock)) (hf : Instr.findNow (.int .i64) (.int .i64 p) es.toList 0 = some (some (i, .func (.func 71) #[.pointer (some ⟨r, 0, none⟩)] #[])))
    (hC : Calls Try.prog 71 #[.pointer (some ⟨r, 0, none⟩)] W fun e w' => ∃ d, e = .returned (.bool d) ∧ R d w') (hR : ∀ w', R false w' → ∃ c, w'.cell? ⟨r, 3, none⟩ = some c ∧ w'.frozen? ⟨r, 3, none⟩ = false) :
    Calls Try.prog 47 #[.pointer (some ⟨r, 3, none⟩), .map (some mb)] W fun e w' => e = .returned (.tuple #[]) ∧ ∃ w1, (R true w1 ∧ w' = w1) ∨ (R false w1 ∧ w' = w1.setCell ⟨r, 3, none⟩ (.int .i64 5)) := by
  have hl := emap_get W mb clock p es _ i hb hf
  have HC := Lib.hid hC
  clear hb hf hC
  go_enter Try.func47, Try.ntmps47
  go_wp2_with fail
  refine HC.out.mono ?_
  rintro e w1 ⟨d, rfl, h1⟩
  clear HC
  cases d with
  | true =>
    have H1 := Lib.hid h1
    clear h1
    go_wp2
    exact bodyPost_end (v := .tuple #[]) (by simp [results, Try.results47, go_sem]) rfl ⟨rfl, w1, .inl ⟨H1.out, rfl⟩⟩
  | false =>
    obtain ⟨c, k3, m3⟩ := hR w1 h1
    have H1 := Lib.hid h1
    clear h1
    go_wp2
    exact bodyPost_end (v := .tuple #[]) (by simp [results, Try.results47, go_sem]) rfl ⟨rfl, w1, .inr ⟨H1.out, rfl⟩⟩
set_option maxRecDepth 100000 in
set_option maxHeartbeats 4000000 in
theorem step_wclose (r mb : Nat) (p : Int) (es : Array MapEntry) (clock i : Nat) (R : Bool → World → Prop) (W : World) (hc : W.cell? ⟨r, 3, none⟩ = some (.int .i64 p)) (hb : W.heap[mb]? = some (.map es clock)) (hf : Instr.findNow (.int .i64) (.int .i64 p) es.toList 0 = some (some (i, .func (.func 72) #[.pointer (some ⟨r, 0, none⟩)] #[])))
    (hC : Calls Try.prog 72 #[.pointer (some ⟨r, 0, none⟩)] W fun e w' => ∃ d, e = .returned (.bool d) ∧ R d w') (hR : ∀ w', R false w' → ∃ c, w'.cell? ⟨r, 3, none⟩ = some c ∧ w'.frozen? ⟨r, 3, none⟩ = false) :
    Calls Try.prog 47 #[.pointer (some ⟨r, 3, none⟩), .map (some mb)] W fun e w' => e = .returned (.tuple #[]) ∧ ∃ w1, (R true w1 ∧ w' = w1) ∨ (R false w1 ∧ w' = w1.setCell ⟨r, 3, none⟩ (.int .i64 5)) := by
  have hl := emap_get W mb clock p es _ i hb hf
  have HC := Lib.hid hC
  clear hb hf hC
  go_enter Try.func47, Try.ntmps47
  go_wp2_with fail
  refine HC.out.mono ?_
  rintro e w1 ⟨d, rfl, h1⟩
  clear HC
  cases d with
  | true =>
    have H1 := Lib.hid h1
    clear h1
    go_wp2
    exact bodyPost_end (v := .tuple #[]) (by simp [results, Try.results47, go_sem]) rfl ⟨rfl, w1, .inl ⟨H1.out, rfl⟩⟩
  | false =>
    obtain ⟨c, k3, m3⟩ := hR w1 h1
    have H1 := Lib.hid h1
    clear h1
    go_wp2
    exact bodyPost_end (v := .tuple #[]) (by simp [results, Try.results47, go_sem]) rfl ⟨rfl, w1, .inr ⟨H1.out, rfl⟩⟩

end Go.Proofs.Ythkfjgfhaicfkaa
/-
  A step of a reader of package seq, as plain mathematics says it.
  Conditions: the memory may be, the read may be.
-/
namespace Go.Proofs.Ythkfjgfhaicfkaa
open Go.RowKit Go.Shelf

/-- A method value of a pointer. -/
def bmV (f : FuncId) (r : Nat) : Value := .func (.func f) #[.pointer (some ⟨r, 0, none⟩)] #[]
def rmap (r : Nat) : Obj := map3 (bmV 65 r) (bmV 66 r) (bmV 67 r)
/-- A memory's words, its fault, a read, and what it has read, as they lie. -/
def RS (B q z gw gl cw cl r : Nat) (S : Nat → Prop) (ms : List Bool) (x : (List Int × Bool) × RdM × List Int) (w : World) : Prop :=
  AccF B q z gw gl cw cl x.1.1 ms x.1.2 w ∧ ∃ v, RBox w r x.2.1 v q ∧ VV S w v x.2.2
theorem RS.put5 {B q z gw gl cw cl r : Nat} {S : Nat → Prop} {ms : List Bool} {x : (List Int × Bool) × RdM × List Int} {w : World} (h : RS B q z gw gl cw cl r S ms x w) (hS : S r) :
    RS B q z gw gl cw cl r S ms (x.1, { x.2.1 with p := 5 }, x.2.2) (w.setCell ⟨r, 3, none⟩ (.int .i64 5)) ∧ Keeps (fun k => k = r) w (w.setCell ⟨r, 3, none⟩ (.int .i64 5)) := by
  obtain ⟨hF, v, hR, hV⟩ := h
  obtain ⟨nq, nz, nw, nl⟩ := hF.apart hR
  have hk : Keeps (fun k => k = r) w (w.setCell ⟨r, 3, none⟩ (.int .i64 5)) := Keeps.setCell w (S := (· = r)) (p := ⟨r, 3, none⟩) rfl _
  exact ⟨⟨hF.keeps hk (fun e => nq e.symm) (fun e => nz e.symm) (fun e => nw e.symm) (fun e => nl e.symm), v, hR.setP 5, hV.keeps hk (fun k e => e ▸ hS)⟩, hk⟩
theorem RS.cell {B q z gw gl cw cl r : Nat} {S : Nat → Prop} {ms : List Bool} {x : (List Int × Bool) × RdM × List Int} {w : World} (h : RS B q z gw gl cw cl r S ms x w) : w.cell? ⟨r, 3, none⟩ = some (.int .i64 x.2.1.p) ∧ w.frozen? ⟨r, 3, none⟩ = false := by
  obtain ⟨hF, v, hR, hV⟩ := h
  exact ⟨hR.cells.1.2.2.2, hR.marks 3⟩
theorem acc_range {us us' : List Int} {ms : List Bool} {u u' d : Bool} {k a o n h : Int} (hw : WRange us) (ha : accM us ms u k a o n = (us', u', h, d)) : 0 ≤ h ∧ h ≤ 18446744073709551615 := by
  have hg : ∀ i, 0 ≤ us.getD i 0 ∧ us.getD i 0 ≤ 18446744073709551615 := by
    intro i
    rw [List.getD_eq_getElem?_getD]
    cases e : us[i]? with
    | none => simp
    | some x => exact hw x (List.mem_of_getElem? e)
  have e : h = (accM us ms u k a o n).2.2.1 := by rw [ha]
  rw [e]
  unfold accM
  split
  · split
    · exact hg _
    · split <;> exact hg _
  · simp
theorem rs_begin_t (B q z gw gl cw cl r mb : Nat) (S : Nat → Prop) (ms : List Bool) (x : (List Int × Bool) × RdM × List Int) (W : World) (hc : W.cell? ⟨r, 3, none⟩ = some (.int .i64 0)) (hM : W.heap[mb]? = some (rmap r))
    (hC : Calls Try.prog 65 #[.pointer (some ⟨r, 0, none⟩)] W fun e w' => e = .returned (.bool true) ∧ RS B q z gw gl cw cl r S ms x w' ∧ Keeps (fun k => k = z ∨ k = gw ∨ k = r) W w') :
    Calls Try.prog 47 #[.pointer (some ⟨r, 3, none⟩), .map (some mb)] W fun e w' => e = .returned (.tuple #[]) ∧ RS B q z gw gl cw cl r S ms x w' ∧ Keeps (fun k => k = z ∨ k = gw ∨ k = r) W w' :=
  (step_rbegin r mb 0 _ 3 0 (fun d w' => d = true ∧ RS B q z gw gl cw cl r S ms x w' ∧ Keeps (fun k => k = z ∨ k = gw ∨ k = r) W w') W hc hM rfl (hC.mono fun e w' h => ⟨true, h.1, rfl, h.2⟩) (fun w' h => by cases h.1)).mono fun e w' h => by
    obtain ⟨rfl, w1, ⟨h1, rfl⟩ | ⟨h1, _⟩⟩ := h
    · exact ⟨rfl, h1.2⟩
    · cases h1.1
theorem rs_begin_f (B q z gw gl cw cl r mb : Nat) (S : Nat → Prop) (ms : List Bool) (x : (List Int × Bool) × RdM × List Int) (W : World) (hS : S r) (hc : W.cell? ⟨r, 3, none⟩ = some (.int .i64 0)) (hM : W.heap[mb]? = some (rmap r))
    (hC : Calls Try.prog 65 #[.pointer (some ⟨r, 0, none⟩)] W fun e w' => e = .returned (.bool false) ∧ RS B q z gw gl cw cl r S ms x w' ∧ Keeps (fun k => k = z ∨ k = gw ∨ k = r) W w') :
    Calls Try.prog 47 #[.pointer (some ⟨r, 3, none⟩), .map (some mb)] W fun e w' => e = .returned (.tuple #[]) ∧ RS B q z gw gl cw cl r S ms (x.1, { x.2.1 with p := 5 }, x.2.2) w' ∧ Keeps (fun k => k = z ∨ k = gw ∨ k = r) W w' :=
  (step_rbegin r mb 0 _ 3 0 (fun d w' => d = false ∧ RS B q z gw gl cw cl r S ms x w' ∧ Keeps (fun k => k = z ∨ k = gw ∨ k = r) W w') W hc hM rfl (hC.mono fun e w' h => ⟨false, h.1, rfl, h.2⟩) (fun w' h => ⟨_, h.2.1.cell.1, h.2.1.cell.2⟩)).mono fun e w' h => by
    obtain ⟨rfl, w1, ⟨h1, rfl⟩ | ⟨h1, rfl⟩⟩ := h
    · cases h1.1
    · have hp := h1.2.1.put5 hS
      exact ⟨rfl, hp.1, h1.2.2.trans (hp.2.sub fun k _ e => .inr (.inr e))⟩
theorem rs_next_t (B q z gw gl cw cl r mb : Nat) (S : Nat → Prop) (ms : List Bool) (x : (List Int × Bool) × RdM × List Int) (W : World) (hc : W.cell? ⟨r, 3, none⟩ = some (.int .i64 2)) (hM : W.heap[mb]? = some (rmap r))
    (hC : Calls Try.prog 66 #[.pointer (some ⟨r, 0, none⟩)] W fun e w' => e = .returned (.bool true) ∧ RS B q z gw gl cw cl r S ms x w' ∧ Keeps (fun k => k = z ∨ k = gw ∨ k = r) W w') :
    Calls Try.prog 47 #[.pointer (some ⟨r, 3, none⟩), .map (some mb)] W fun e w' => e = .returned (.tuple #[]) ∧ RS B q z gw gl cw cl r S ms x w' ∧ Keeps (fun k => k = z ∨ k = gw ∨ k = r) W w' :=
  (step_rnext r mb 2 _ 3 1 (fun d w' => d = true ∧ RS B q z gw gl cw cl r S ms x w' ∧ Keeps (fun k => k = z ∨ k = gw ∨ k = r) W w') W hc hM rfl (hC.mono fun e w' h => ⟨true, h.1, rfl, h.2⟩) (fun w' h => by cases h.1)).mono fun e w' h => by
    obtain ⟨rfl, w1, ⟨h1, rfl⟩ | ⟨h1, _⟩⟩ := h
    · exact ⟨rfl, h1.2⟩
    · cases h1.1
theorem rs_next_f (B q z gw gl cw cl r mb : Nat) (S : Nat → Prop) (ms : List Bool) (x : (List Int × Bool) × RdM × List Int) (W : World) (hS : S r) (hc : W.cell? ⟨r, 3, none⟩ = some (.int .i64 2)) (hM : W.heap[mb]? = some (rmap r))
    (hC : Calls Try.prog 66 #[.pointer (some ⟨r, 0, none⟩)] W fun e w' => e = .returned (.bool false) ∧ RS B q z gw gl cw cl r S ms x w' ∧ Keeps (fun k => k = z ∨ k = gw ∨ k = r) W w') :
    Calls Try.prog 47 #[.pointer (some ⟨r, 3, none⟩), .map (some mb)] W fun e w' => e = .returned (.tuple #[]) ∧ RS B q z gw gl cw cl r S ms (x.1, { x.2.1 with p := 5 }, x.2.2) w' ∧ Keeps (fun k => k = z ∨ k = gw ∨ k = r) W w' :=
  (step_rnext r mb 2 _ 3 1 (fun d w' => d = false ∧ RS B q z gw gl cw cl r S ms x w' ∧ Keeps (fun k => k = z ∨ k = gw ∨ k = r) W w') W hc hM rfl (hC.mono fun e w' h => ⟨false, h.1, rfl, h.2⟩) (fun w' h => ⟨_, h.2.1.cell.1, h.2.1.cell.2⟩)).mono fun e w' h => by
    obtain ⟨rfl, w1, ⟨h1, rfl⟩ | ⟨h1, rfl⟩⟩ := h
    · cases h1.1
    · have hp := h1.2.1.put5 hS
      exact ⟨rfl, hp.1, h1.2.2.trans (hp.2.sub fun k _ e => .inr (.inr e))⟩
theorem rs_close_t (B q z gw gl cw cl r mb : Nat) (S : Nat → Prop) (ms : List Bool) (x : (List Int × Bool) × RdM × List Int) (W : World) (hc : W.cell? ⟨r, 3, none⟩ = some (.int .i64 3)) (hM : W.heap[mb]? = some (rmap r))
    (hC : Calls Try.prog 67 #[.pointer (some ⟨r, 0, none⟩)] W fun e w' => e = .returned (.bool true) ∧ RS B q z gw gl cw cl r S ms x w' ∧ Keeps (fun k => k = z ∨ k = gw ∨ k = r) W w') :
    Calls Try.prog 47 #[.pointer (some ⟨r, 3, none⟩), .map (some mb)] W fun e w' => e = .returned (.tuple #[]) ∧ RS B q z gw gl cw cl r S ms x w' ∧ Keeps (fun k => k = z ∨ k = gw ∨ k = r) W w' :=
  (step_rclose r mb 3 _ 3 2 (fun d w' => d = true ∧ RS B q z gw gl cw cl r S ms x w' ∧ Keeps (fun k => k = z ∨ k = gw ∨ k = r) W w') W hc hM rfl (hC.mono fun e w' h => ⟨true, h.1, rfl, h.2⟩) (fun w' h => by cases h.1)).mono fun e w' h => by
    obtain ⟨rfl, w1, ⟨h1, rfl⟩ | ⟨h1, _⟩⟩ := h
    · exact ⟨rfl, h1.2⟩
    · cases h1.1
theorem rs_close_f (B q z gw gl cw cl r mb : Nat) (S : Nat → Prop) (ms : List Bool) (x : (List Int × Bool) × RdM × List Int) (W : World) (hS : S r) (hc : W.cell? ⟨r, 3, none⟩ = some (.int .i64 3)) (hM : W.heap[mb]? = some (rmap r))
    (hC : Calls Try.prog 67 #[.pointer (some ⟨r, 0, none⟩)] W fun e w' => e = .returned (.bool false) ∧ RS B q z gw gl cw cl r S ms x w' ∧ Keeps (fun k => k = z ∨ k = gw ∨ k = r) W w') :
    Calls Try.prog 47 #[.pointer (some ⟨r, 3, none⟩), .map (some mb)] W fun e w' => e = .returned (.tuple #[]) ∧ RS B q z gw gl cw cl r S ms (x.1, { x.2.1 with p := 5 }, x.2.2) w' ∧ Keeps (fun k => k = z ∨ k = gw ∨ k = r) W w' :=
  (step_rclose r mb 3 _ 3 2 (fun d w' => d = false ∧ RS B q z gw gl cw cl r S ms x w' ∧ Keeps (fun k => k = z ∨ k = gw ∨ k = r) W w') W hc hM rfl (hC.mono fun e w' h => ⟨false, h.1, rfl, h.2⟩) (fun w' h => ⟨_, h.2.1.cell.1, h.2.1.cell.2⟩)).mono fun e w' h => by
    obtain ⟨rfl, w1, ⟨h1, rfl⟩ | ⟨h1, rfl⟩⟩ := h
    · cases h1.1
    · have hp := h1.2.1.put5 hS
      exact ⟨rfl, hp.1, h1.2.2.trans (hp.2.sub fun k _ e => .inr (.inr e))⟩

theorem rs_nochange (B q z gw gl cw cl r mb : Nat) (S : Nat → Prop) (ms : List Bool) (x : (List Int × Bool) × RdM × List Int) (W : World) (h : RS B q z gw gl cw cl r S ms x W) (hM : W.heap[mb]? = some (rmap r)) (hp : x.2.1.p = 4 ∨ x.2.1.p = 5) :
    Calls Try.prog 47 #[.pointer (some ⟨r, 3, none⟩), .map (some mb)] W fun e w' => e = .returned (.tuple #[]) ∧ RS B q z gw gl cw cl r S ms x w' ∧ Keeps (fun k => k = z ∨ k = gw ∨ k = r) W w' := by
  refine (step_miss r mb x.2.1.p _ 3 W h.cell.1 hM ?_).mono fun e w' h' => ?_
  · rcases hp with e | e <;> rw [e] <;> rfl
  · obtain ⟨rfl, rfl⟩ := h'
    exact ⟨rfl, h, Keeps.refl _ _⟩
theorem mdone_rs {B q z gw gl cw cl r : Nat} {S : Nat → Prop} {us : List Int} {ms : List Bool} {u d : Bool} {s : RdM} {v : Value} {vs : List Int} {W : World} (hV : ∀ w', Keeps (fun k => k = z ∨ k = gw ∨ k = r) W w' → VV S w' v vs) {e : Ending} {w' : World} (h : MDone B q z gw gl cw cl r us ms u d s v W e w') :
    e = .returned (.bool d) ∧ RS B q z gw gl cw cl r S ms ((us, u), s, vs) w' ∧ Keeps (fun k => k = z ∨ k = gw ∨ k = r) W w' :=
  ⟨h.1, ⟨h.2.1, v, h.2.2.1, hV w' h.2.2.2⟩, h.2.2.2⟩
theorem rstep_c (B q z gw gl cw cl r mb : Nat) (S : Nat → Prop) (us : List Int) (ms : List Bool) (u : Bool) (s : RdM) (vs : List Int) (W : World) (h : RS B q z gw gl cw cl r S ms ((us, u), s, vs) W) (hM : W.heap[mb]? = some (rmap r)) (hr : rightB us ms = true) (hw : WRange us) (hR : rightRB s vs.length = true) (hS : ∀ k, (k = z ∨ k = gw ∨ k = r) → S k) (hSW : ∀ k, S k → k < W.heap.size) :
    Calls Try.prog 47 #[.pointer (some ⟨r, 3, none⟩), .map (some mb)] W fun e w' => e = .returned (.tuple #[]) ∧ RS B q z gw gl cw cl r S ms (stepR ms us u s vs) w' ∧ Keeps (fun k => k = z ∨ k = gw ∨ k = r) W w' := by
  obtain ⟨⟨hm0, hm1⟩, hb, ht, hF⟩ := rightRB_parts hR
  obtain ⟨hl, h2, h3, hp⟩ := fits_le hm0 hF
  obtain ⟨ha0, ha1, hf0, hf1⟩ : 0 ≤ s.a ∧ s.a ≤ 4096 ∧ 0 ≤ s.f ∧ s.f ≤ 4096 := by
    unfold rightRB apartB at hR
    simp only [Bool.and_eq_true, decide_eq_true_eq] at hR
    obtain ⟨⟨⟨⟨⟨⟨-, -⟩, ⟨⟨⟨g1, g2⟩, g3⟩, g4⟩, -⟩, -⟩, -⟩, -⟩, -⟩ := hR
    exact ⟨g1, g2, g3, g4⟩
  by_cases h4 : 4 ≤ s.p
  · have e : stepR ms us u s vs = ((us, u), s, vs) := by unfold stepR; rw [if_pos h4]
    rw [e]
    exact rs_nochange B q z gw gl cw cl r mb S ms _ W h hM (by show s.p = 4 ∨ s.p = 5; omega)
  · have hcell := h.cell.1
    obtain ⟨hA, v, hX, hV⟩ := h
    obtain ⟨⟨us', u', hh, d⟩, hq⟩ : ∃ x, x = accM us ms u 1 (if s.p = 2 then s.f + (vs.length : Int) else s.a) 0 0 := ⟨_, rfl⟩
    have hst : stepR ms us u s vs = ((us', u'), if d = false then ({ s with p := 5 }, vs)
        else if s.p = 0 then (if hh % 2 = 0 then ({ s with b := hh, p := phR s.m 0 }, []) else (s, vs))
        else if s.p = 2 then ({ s with p := phR s.m (vs.length + 1) }, vs ++ [hh])
        else if hh = s.b then ({ s with p := 4 }, vs)
        else ({ s with p := 0, t := if s.t < 1073741824 then s.t + 1 else s.t }, vs)) := by
      unfold stepR
      rw [if_neg h4, ← hq]
    rw [hst]
    clear hst
    have hrg := acc_range hw hq.symm
    have HV : ∀ w', Keeps (fun k => k = z ∨ k = gw ∨ k = r) W w' → VV S w' v vs := fun w' hk => hV.keeps hk hS
    obtain ⟨a, f, m, p, b, t⟩ := s
    dsimp only at *
    have hSr := hS r (.inr (.inr rfl))
    have hp3 : p = 0 ∨ p = 2 ∨ p = 3 := by omega
    clear h4 hp
    rcases hp3 with rfl | rfl | rfl
    · rw [if_neg (by omega)] at hq
      cases d with
      | false =>
        rw [if_pos rfl]
        exact rs_begin_f B q z gw gl cw cl r mb S ms ((us', u'), ⟨a, f, m, 0, b, t⟩, vs) W hSr hcell hM ((rbegin_no B q z gw gl cw cl r us ms u a f m 0 b t v W hA hX hr ha0 ha1 us' u' hh hq.symm).mono fun e w' h => mdone_rs HV h)
      | true =>
        rw [if_neg (by decide), if_pos rfl]
        by_cases ho : hh % 2 = 0
        · rw [if_pos ho]
          exact rs_begin_t B q z gw gl cw cl r mb S ms _ W hcell hM ((rbegin_even B q z gw gl cw cl r us ms u a f m 0 b t v W hA hX hr ha0 ha1 us' u' hh hrg ho hq.symm).mono fun e w' h => mdone_rs (fun w' _ => VV.nil S w') h)
        · rw [if_neg ho]
          exact rs_begin_t B q z gw gl cw cl r mb S ms _ W hcell hM ((rbegin_odd B q z gw gl cw cl r us ms u a f m 0 b t v W hA hX hr ha0 ha1 us' u' hh hrg (by omega) hq.symm).mono fun e w' h => mdone_rs HV h)
    · rw [if_pos rfl] at hq
      have hln := h2 rfl
      cases d with
      | false =>
        rw [if_pos rfl]
        exact rs_next_f B q z gw gl cw cl r mb S ms ((us', u'), ⟨a, f, m, 2, b, t⟩, vs) W hSr hcell hM ((rnext_no B q z gw gl cw cl r us ms u a f m 2 b t v S vs W hA hX hr hV (by omega) hf0 hf1 us' u' hh hq.symm).mono fun e w' h => ⟨h.1, ⟨h.2.1, v, h.2.2.1, HV w' h.2.2.2⟩, h.2.2.2⟩)
      | true =>
        rw [if_neg (by decide), if_neg (by omega), if_pos rfl]
        exact rs_next_t B q z gw gl cw cl r mb S ms _ W hcell hM ((rnext_yes B q z gw gl cw cl r us ms u a f m 2 b t v S vs W hA hX hr hS hSW hV (by omega) hf0 hf1 us' u' hh hq.symm).mono fun e w' h => ⟨h.1, ⟨h.2.1, h.2.2.1⟩, h.2.2.2⟩)
    · rw [if_neg (by omega)] at hq
      cases d with
      | false =>
        rw [if_pos rfl]
        exact rs_close_f B q z gw gl cw cl r mb S ms ((us', u'), ⟨a, f, m, 3, b, t⟩, vs) W hSr hcell hM ((rclose_no B q z gw gl cw cl r us ms u a f m 3 b t v W hA hX hr ha0 ha1 us' u' hh hq.symm).mono fun e w' h => mdone_rs HV h)
      | true =>
        rw [if_neg (by decide), if_neg (by omega), if_neg (by omega)]
        by_cases ho : hh = b
        · rw [if_pos ho]
          exact rs_close_t B q z gw gl cw cl r mb S ms _ W hcell hM ((rclose_eq B q z gw gl cw cl r us ms u a f m 3 b t v W hA hX hr ha0 ha1 us' u' hh ho hq.symm).mono fun e w' h => mdone_rs HV h)
        · rw [if_neg ho]
          rcases (show t < 1073741823 ∨ t = 1073741823 ∨ t = 1073741824 by omega) with g | g | g
          · rw [if_pos (by omega)]
            exact rs_close_t B q z gw gl cw cl r mb S ms _ W hcell hM ((rclose_lt B q z gw gl cw cl r us ms u a f m 3 b t v W hA hX hr ha0 ha1 ht.1 g us' u' hh ho hq.symm).mono fun e w' h => mdone_rs HV h)
          · rw [if_pos (by omega), show t + 1 = 1073741824 by omega]
            exact rs_close_t B q z gw gl cw cl r mb S ms _ W hcell hM ((rclose_at B q z gw gl cw cl r us ms u a f m 3 b t v W hA hX hr ha0 ha1 ht.1 g us' u' hh ho hq.symm).mono fun e w' h => mdone_rs HV h)
          · rw [if_neg (by omega)]
            have hg := g
            subst hg
            exact rs_close_t B q z gw gl cw cl r mb S ms _ W hcell hM ((rclose_ge B q z gw gl cw cl r us ms u a f m 3 b _ v W hA hX hr ha0 ha1 ht.1 rfl us' u' hh ho hq.symm).mono fun e w' h => mdone_rs HV h)

end Go.Proofs.Ythkfjgfhaicfkaa
namespace Go.Proofs.Ythkfjgfhaicfkaa
open Go.RowKit Go.Shelf
attribute [local go_sem] Oper.semAt_some

/-- Block r begins with a writer. -/
def WBox (W : World) (r : Nat) (T : TypeId) (ex : List Value) (s : WrM) (v : Value) (q : Nat) : Prop := W.heap[r]? = some (.cells (.int .i64 s.a :: .int .i64 s.f :: v :: .int .i64 s.p :: .int .u64 s.b :: .int .i64 s.w :: accV q :: ex).toArray T (0, 0))
theorem WBox.lt {w : World} {z : Nat} {T : TypeId} {ex : List Value} {s : WrM} {v : Value} {q : Nat} (h : WBox w z T ex s v q) : z < w.heap.size := (Array.getElem?_eq_some_iff.1 h).1
theorem WBox.keeps {S : Nat → Prop} {w w' : World} {z : Nat} {T : TypeId} {ex : List Value} {s : WrM} {v : Value} {q : Nat} (h : WBox w z T ex s v q) (hk : Keeps S w w') (hz : ¬ S z) : WBox w' z T ex s v q := (hk.block z h.lt hz).trans h
theorem WBox.below {w w' : World} {z : Nat} {T : TypeId} {ex : List Value} {s : WrM} {v : Value} {q : Nat} (h : WBox w z T ex s v q) (hb : Below w.heap.size w w') : WBox w' z T ex s v q := (hb.block z h.lt).trans h
theorem WBox.cells {w : World} {z : Nat} {T : TypeId} {ex : List Value} {s : WrM} {v : Value} {q : Nat} (h : WBox w z T ex s v q) : (w.cell? ⟨z, 0, none⟩ = some (.int .i64 s.a) ∧ w.cell? ⟨z, 1, none⟩ = some (.int .i64 s.f) ∧ w.cell? ⟨z, 2, none⟩ = some v ∧ w.cell? ⟨z, 3, none⟩ = some (.int .i64 s.p)) ∧ w.cell? ⟨z, 4, none⟩ = some (.int .u64 s.b) ∧ w.cell? ⟨z, 5, none⟩ = some (.int .i64 s.w) ∧ w.cell? ⟨z, 6, none⟩ = some (accV q) := by
  have h' : w.heap[z]? = _ := h
  simp [World.cell?, h']
theorem WBox.marks {w : World} {z : Nat} {T : TypeId} {ex : List Value} {s : WrM} {v : Value} {q : Nat} (h : WBox w z T ex s v q) (i : Nat) : w.frozen? ⟨z, i, none⟩ = false := by
  have h' : w.heap[z]? = _ := h
  simp [World.frozen?, h']
theorem WBox.setP {w : World} {z : Nat} {T : TypeId} {ex : List Value} {s : WrM} {v : Value} {q : Nat} (h : WBox w z T ex s v q) (p : Int) : WBox (w.setCell ⟨z, 3, none⟩ (.int .i64 p)) z T ex { s with p := p } v q := by
  have h' : w.heap[z]? = _ := h
  simp [WBox, World.setCell, Array.getElem?_modify, h']
theorem WBox.setW {w : World} {z : Nat} {T : TypeId} {ex : List Value} {s : WrM} {v : Value} {q : Nat} (h : WBox w z T ex s v q) (p : Int) : WBox (w.setCell ⟨z, 5, none⟩ (.int .i64 p)) z T ex { s with w := p } v q := by
  have h' : w.heap[z]? = _ := h
  simp [WBox, World.setCell, Array.getElem?_modify, h']
theorem WBox.setB {w : World} {z : Nat} {T : TypeId} {ex : List Value} {s : WrM} {v : Value} {q : Nat} (h : WBox w z T ex s v q) (p : Int) : WBox (w.setCell ⟨z, 4, none⟩ (.int .u64 p)) z T ex { s with b := p } v q := by
  have h' : w.heap[z]? = _ := h
  simp [WBox, World.setCell, Array.getElem?_modify, h']
def wkind (T : TypeId) : Prop := T = 102 ∨ T = 109
theorem AccF.apartW {B q z gw gl cw cl r : Nat} {us : List Int} {ms : List Bool} {u : Bool} {W : World} {T : TypeId} {ex : List Value} {s : WrM} {v : Value} (h : AccF B q z gw gl cw cl us ms u W) (hR : WBox W r T ex s v q) (hT : wkind T) : r ≠ q ∧ r ≠ z ∧ r ≠ gw ∧ r ≠ gl := by
  have hq : W.heap[q]? = _ := h.x
  have hz : W.heap[z]? = _ := h.box
  have hr : W.heap[r]? = _ := hR
  obtain ⟨c1, f1, h1⟩ := Lib.ownsRow_kind h.words gw rfl
  obtain ⟨c2, f2, h2⟩ := Lib.ownsRow_kind h.lives gl rfl
  rcases hT with rfl | rfl <;> refine ⟨?_, ?_, ?_, ?_⟩ <;> rintro rfl <;> simp_all
/-- What a method of a writer leaves. -/
def WDone (B q z gw gl cw cl r : Nat) (T : TypeId) (ex : List Value) (us : List Int) (ms : List Bool) (u d : Bool) (s : WrM) (v : Value) (W : World) (e : Ending) (w' : World) : Prop :=
  e = .returned (.bool d) ∧ AccF B q z gw gl cw cl us ms u w' ∧ WBox w' r T ex s v q ∧ Keeps (fun k => k = z ∨ k = gw ∨ k = r) W w'
set_option maxRecDepth 100000 in
set_option maxHeartbeats 4000000 in
theorem wbegin_no (B q z gw gl cw cl r : Nat) (T : TypeId) (ex : List Value) (us : List Int) (ms : List Bool) (u : Bool) (a f ph b wr : Int) (v : Value) (W : World) (hF : AccF B q z gw gl cw cl us ms u W) (hR : WBox W r T ex ⟨a, f, ph, b, wr⟩ v q) (hT : wkind T) (hr : rightB us ms = true) (ha : 0 ≤ a) (hm : a ≤ 4096) (us' : List Int) (u' : Bool) (h : Int)  (hacc : accM us ms u 1 a 0 0 = (us', u', h, false)) :
    Calls Try.prog 69 #[.pointer (some ⟨r, 0, none⟩)] W fun e w' => WDone B q z gw gl cw cl r T ex us' ms u' false ⟨a, f, ph, b, wr⟩ v W e w' := by
  obtain ⟨nq, nz, nw, nl⟩ := hF.apartW hR hT
  have HC := Lib.hid (fun (Z : World) (hz : AccF B q z gw gl cw cl us ms u Z) => hacc ▸ qload_c B q z gw gl cw cl us ms u a Z hz hr ha (by omega))
  have HF := Lib.hid hF
  have HR := Lib.hid hR
  obtain ⟨⟨h0, h1, h2, h3⟩, h4, h5, h6⟩ := hR.cells
  dsimp only at h0 h1 h3 h4 h5
  clear hF hR hr hacc ha hm h1 h2 h3 h4 h5
  go_enter Try.func69, Try.ntmps69
  go_upto_region 1 with fail
  go_region_held3 (fun w' => w'.cell? ⟨r, 0, none⟩ = some (.int .i64 a) ∧ w'.cell? ⟨r, 6, none⟩ = some (accV q))
    (first
      | exact ⟨h0, h6⟩
      | go_keep
      | (go_split_ands; exact ⟨hk1.cell (by assumption) (by show ¬ (r = z ∨ r = gw); omega), hk1.cell (by assumption) (by show ¬ (r = z ∨ r = gw); omega)⟩))
    (first | (go_at_call 82; refine (HC.out _ HF.out.drew).mono ?_; rintro e w1 ⟨rfl, hF1, hk1⟩))
  all_goals
    have HF1 := Lib.hid hF1
    have HK1 := Lib.hid ((Keeps.drewN (Keeps.refl (fun k => k = z ∨ k = gw) W) 1).trans hk1)
    have HR1 := Lib.hid (HR.out.keeps HK1.out (by show ¬ (r = z ∨ r = gw); omega))
    clear hF1 hk1 HC HF HR h0 h6 
    rename_i hHeld
    clear hHeld
    go_wp2
    exact bodyPost_ret (v := .bool false) (by simp [results, Try.results69, go_sem]) rfl ⟨rfl, HF1.out, HR1.out, HK1.out.sub fun k _ e => by rcases e with e | e; exact .inl e; exact .inr (.inl e)⟩
set_option maxRecDepth 100000 in
set_option maxHeartbeats 4000000 in
theorem wbegin_odd (B q z gw gl cw cl r : Nat) (T : TypeId) (ex : List Value) (us : List Int) (ms : List Bool) (u : Bool) (a f ph b wr : Int) (v : Value) (W : World) (hF : AccF B q z gw gl cw cl us ms u W) (hR : WBox W r T ex ⟨a, f, ph, b, wr⟩ v q) (hT : wkind T) (hr : rightB us ms = true) (ha : 0 ≤ a) (hm : a ≤ 4096) (us' : List Int) (u' : Bool) (h : Int) (hh : 0 ≤ h ∧ h ≤ 18446744073709551615) (ho : h % 2 = 1) (hacc : accM us ms u 1 a 0 0 = (us', u', h, true)) :
    Calls Try.prog 69 #[.pointer (some ⟨r, 0, none⟩)] W fun e w' => WDone B q z gw gl cw cl r T ex us' ms u' true ⟨a, f, ph, b, wr⟩ v W e w' := by
  obtain ⟨nq, nz, nw, nl⟩ := hF.apartW hR hT
  have HC := Lib.hid (fun (Z : World) (hz : AccF B q z gw gl cw cl us ms u Z) => hacc ▸ qload_c B q z gw gl cw cl us ms u a Z hz hr ha (by omega))
  have HF := Lib.hid hF
  have HR := Lib.hid hR
  obtain ⟨⟨h0, h1, h2, h3⟩, h4, h5, h6⟩ := hR.cells
  dsimp only at h0 h1 h3 h4 h5
  have HH := Lib.hid hh
  clear hF hR hr hacc ha hm h1 h2 h3 h4 h5
  go_enter Try.func69, Try.ntmps69
  go_upto_region 1 with fail
  go_region_held3 (fun w' => w'.cell? ⟨r, 0, none⟩ = some (.int .i64 a) ∧ w'.cell? ⟨r, 6, none⟩ = some (accV q))
    (first
      | exact ⟨h0, h6⟩
      | go_keep
      | (go_split_ands; exact ⟨hk1.cell (by assumption) (by show ¬ (r = z ∨ r = gw); omega), hk1.cell (by assumption) (by show ¬ (r = z ∨ r = gw); omega)⟩))
    (first | (go_at_call 82; refine (HC.out _ HF.out.drew).mono ?_; rintro e w1 ⟨rfl, hF1, hk1⟩))
  all_goals
    have HF1 := Lib.hid hF1
    have HK1 := Lib.hid ((Keeps.drewN (Keeps.refl (fun k => k = z ∨ k = gw) W) 1).trans hk1)
    have HR1 := Lib.hid (HR.out.keeps HK1.out (by show ¬ (r = z ∨ r = gw); omega))
    clear hF1 hk1 HC HF HR h0 h6 
    rename_i hHeld
    clear hHeld
    go_wp2_with fail
    refine (odd_c h HH.out w1).mono ?_
    rintro e w2 ⟨rfl, hb2⟩
    rw [show decide (h % 2 = 0) = false by rw [ho]; decide]
    have HF2 := Lib.hid (HF1.out.below hb2)
    have hR2 := HR1.out.below hb2
    have HK2 := Lib.hid (HK1.out.trans (Keeps.of_below hb2))
    have HR2 := Lib.hid hR2
    clear hb2 HF1 HR1 HK1 hR2
    go_wp2
    exact bodyPost_ret (v := .bool true) (by simp [results, Try.results69, go_sem]) rfl ⟨rfl, HF2.out, HR2.out, HK2.out.sub fun k _ e => by rcases e with e | e; exact .inl e; exact .inr (.inl e)⟩
set_option maxRecDepth 100000 in
set_option maxHeartbeats 4000000 in
theorem wbegin_even (B q z gw gl cw cl r : Nat) (T : TypeId) (ex : List Value) (us : List Int) (ms : List Bool) (u : Bool) (a f ph b wr : Int) (v : Value) (W : World) (hF : AccF B q z gw gl cw cl us ms u W) (hR : WBox W r T ex ⟨a, f, ph, b, wr⟩ v q) (hT : wkind T) (hr : rightB us ms = true) (ha : 0 ≤ a) (hm : a ≤ 4096) (us' : List Int) (u' : Bool) (h : Int) (hh : 0 ≤ h ∧ h ≤ 18446744073709551615) (ho : h % 2 = 0) (hacc : accM us ms u 1 a 0 0 = (us', u', h, true)) :
    Calls Try.prog 69 #[.pointer (some ⟨r, 0, none⟩)] W fun e w' => WDone B q z gw gl cw cl r T ex us' ms u' true ⟨a, f, 1, h, wr⟩ v W e w' := by
  obtain ⟨nq, nz, nw, nl⟩ := hF.apartW hR hT
  have HC := Lib.hid (fun (Z : World) (hz : AccF B q z gw gl cw cl us ms u Z) => hacc ▸ qload_c B q z gw gl cw cl us ms u a Z hz hr ha (by omega))
  have HF := Lib.hid hF
  have HR := Lib.hid hR
  obtain ⟨⟨h0, h1, h2, h3⟩, h4, h5, h6⟩ := hR.cells
  dsimp only at h0 h1 h3 h4 h5
  have HH := Lib.hid hh
  clear hF hR hr hacc ha hm h1 h2 h3 h4 h5
  go_enter Try.func69, Try.ntmps69
  go_upto_region 1 with fail
  go_region_held3 (fun w' => w'.cell? ⟨r, 0, none⟩ = some (.int .i64 a) ∧ w'.cell? ⟨r, 6, none⟩ = some (accV q))
    (first
      | exact ⟨h0, h6⟩
      | go_keep
      | (go_split_ands; exact ⟨hk1.cell (by assumption) (by show ¬ (r = z ∨ r = gw); omega), hk1.cell (by assumption) (by show ¬ (r = z ∨ r = gw); omega)⟩))
    (first | (go_at_call 82; refine (HC.out _ HF.out.drew).mono ?_; rintro e w1 ⟨rfl, hF1, hk1⟩))
  all_goals
    have HF1 := Lib.hid hF1
    have HK1 := Lib.hid ((Keeps.drewN (Keeps.refl (fun k => k = z ∨ k = gw) W) 1).trans hk1)
    have HR1 := Lib.hid (HR.out.keeps HK1.out (by show ¬ (r = z ∨ r = gw); omega))
    clear hF1 hk1 HC HF HR h0 h6 
    rename_i hHeld
    clear hHeld
    go_wp2_with fail
    refine (odd_c h HH.out w1).mono ?_
    rintro e w2 ⟨rfl, hb2⟩
    rw [show decide (h % 2 = 0) = true by rw [ho]; decide]
    have HF2 := Lib.hid (HF1.out.below hb2)
    have hR2 := HR1.out.below hb2
    have HK2 := Lib.hid (HK1.out.trans (Keeps.of_below hb2))
    obtain ⟨⟨-, -, -, k3⟩, k4, -, -⟩ := hR2.cells
    have m3 := hR2.marks 3
    have m4 := hR2.marks 4
    have HR3 := Lib.hid ((hR2.setB h).setP 1)
    have hk3 := (Keeps.setCell w2 (S := (· = r)) (p := ⟨r, 4, none⟩) rfl (.int .u64 h)).trans (Keeps.setCell _ (S := (· = r)) (p := ⟨r, 3, none⟩) rfl (.int .i64 1))
    have HF3 := Lib.hid (HF2.out.keeps hk3 (by show ¬ q = r; omega) (by show ¬ z = r; omega) (by show ¬ gw = r; omega) (by show ¬ gl = r; omega))
    have HK3 := Lib.hid ((HK2.out.sub (T := fun k => k = z ∨ k = gw ∨ k = r) fun k _ e => by rcases e with e | e; exact .inl e; exact .inr (.inl e)).trans (hk3.sub fun k _ e => .inr (.inr e)))
    clear hb2 HF1 HR1 HK1 hR2 hk3 HF2 HK2
    dsimp only at k3 k4
    go_wp2
    exact bodyPost_ret (v := .bool true) (by simp [results, Try.results69, go_sem]) rfl ⟨rfl, HF3.out, HR3.out, HK3.out⟩

end Go.Proofs.Ythkfjgfhaicfkaa
