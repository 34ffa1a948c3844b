/-
  sorted, of the reference of layer 4: the row, falling.
  Conditions: the row reads as a list of at most 2 to the power 32.
-/
import Derived.Test.YtmmeiclclapmfaaDApp
namespace Go.Proofs.Ytmmeiclclapmfaa
open Go.RowKit Go.Shelf Go

set_option maxRecDepth 100000 in
set_option maxHeartbeats 4000000 in
theorem sorted_c (p : Option Addr) (n d : Nat) (l : List Int) (W : World) (h : RI W p n d l) (hl : n ≤ 4294967296) :
    Calls Try.prog 41 #[.slice p n d] W fun e w' => (∃ ys : List Int, ys.Perm l ∧ ys.Pairwise (· ≥ ·) ∧ GivesRow W.heap.size ys e w') ∧ Below W.heap.size W w' := by
  have HN := Lib.hid h.len
  have hcells := h.cells
  clear h
  go_enter Try.func41, Try.ntmps41
  go_wp2
  go_loopw [3, 9] (fun ov iv wr => ∃ (i : Nat) (q : Option Addr) (r : Nat) (ys : List Int), i ≤ n ∧ iv = .int .i64 i ∧ ov = .slice q i r ∧ Hid (ys.Perm (l.take i)) ∧ Hid (ys.Pairwise (· ≥ ·)) ∧ Hid (wr.ownsRow W.heap.size 3 1 (.slice q i r) i (ys.map (Value.int .i64))) ∧ Below W.heap.size W wr) (fun _ iv _ => n - (intOf iv).toNat)
  case atStart => exact ⟨0, none, 0, [], Nat.zero_le _, rfl, rfl, List.Perm.refl _, List.Pairwise.nil, World.ownsRow_nil _ _ _ _, Below.refl _ _⟩
  case round =>
    obtain ⟨i, q, r, ys, hi, rfl, rfl, HPM, HPW, HO, hB⟩ := hrel
    by_cases hlt : i < n
    · obtain ⟨b, off, rfl, hcs⟩ := hcells (by omega)
      have hil : i < l.length := by have := HN.out; omega
      have hx := below_cell hB (hcs i hil)
      have htk := List.take_succ_eq_append_getElem hil
      obtain ⟨x, hxe⟩ : ∃ x, x = l[i] := ⟨_, rfl⟩
      rw [← hxe] at hx htk
      have HT := Lib.hid htk
      have RO := RI.of_owns HO.out
      have hroom := RO.room
      clear hcs htk hxe
      go_wp2
      go_loop [6] (fun kv => ∃ k : Nat, k ≤ i ∧ kv = .int .i64 k ∧ Hid (∀ j (h : j < ys.length), j < k → x ≤ ys[j])) (fun kv => i - (intOf kv).toNat)
      case atStart => exact ⟨0, Nat.zero_le _, rfl, Lib.hid (fun j _ hj => absurd hj (Nat.not_lt_zero _))⟩
      case round =>
        obtain ⟨k, hk, rfl, HK⟩ := hrel
        have main : (∀ h : k < ys.length, ys[k] < x) → True := fun _ => trivial
        by_cases hki : k < i
        · obtain ⟨bo, oo, rfl, hco⟩ := RO.cells (by omega)
          have hky : k < ys.length := by rw [← RO.len]; exact hki
          have hy := hco k hky
          obtain ⟨y, hye⟩ : ∃ y, y = ys[k] := ⟨_, rfl⟩
          rw [← hye] at hy
          have HYE := Lib.hid hye
          clear hco hye main
          by_cases hyx : x ≤ y
          · go_wp2
            go_round
            case rel => exact ⟨k + 1, by omega, by go_num, Lib.hid (fun j hj hjk => by
              by_cases e : j = k
              · subst e; rw [← HYE.out]; exact hyx
              · exact HK.out j hj (by omega))⟩
            case measure => simp [intOf]; omega
          · have HD := Lib.hid (ins_desc HPW.out HK.out (fun _ => by rw [← HYE.out]; omega))
            go_upto_region 8 with (fail)
            have hT := run_cutI (some ⟨bo, oo, none⟩ : Option Addr) i r k (by omega)
            obtain ⟨q2, hq2⟩ : ∃ q2 : Option Addr, q2 = (if r = k then (some ⟨bo, oo, none⟩ : Option Addr) else Option.map (·.add k) (some ⟨bo, oo, none⟩ : Option Addr)) := ⟨_, rfl⟩
            have hrest := seq_rest (some ⟨bo, oo, none⟩ : Option Addr) i r k (by omega)
            have RT := RO.take k (by omega)
            have RD := RO.drop k (by omega)
            rw [← hq2] at hrest RD
            obtain ⟨k2, hk2⟩ : ∃ k2, k2 = i - k := ⟨_, rfl⟩
            obtain ⟨r2, hr2⟩ : ∃ r2, r2 = r - k := ⟨_, rfl⟩
            rw [← hk2, ← hr2] at hrest RD
            have HK2 := Lib.hid hk2
            clear hq2 hr2 hx hk2
            refine wpTwo_begin (T := fun _ => True) (S := fun _ => True) (late := fun _ => false) (by kernel_rfl) ?_
            obtain ⟨X0, hX0⟩ : ∃ X : World, X = wr.drew := ⟨_, rfl⟩
            have hb0 : Below wr.heap.size wr X0 := by rw [hX0]; exact (Below.refl _ _).drew
            rw [← hX0]
            clear hX0
            refine wpTwo_takeT (i := 1) (v := .slice (some ⟨bo, oo, none⟩ : Option Addr) i r) rfl (by kernel_rfl) (by kernel_rfl) (by kernel_rfl) (fun _ _ _ h => h) ⟨by rfl, ?_⟩ trivial ?_
            · intro w _
              go_simp
            (try simp only [Act.put, List.getElem_toArray, List.getElem_cons_succ, List.getElem_cons_zero, List.setIfInBounds_toArray, List.set_cons_succ, List.set_cons_zero])
            refine wpTwo_takeT (i := 2) (v := .int .i64 (k : Int)) rfl (by kernel_rfl) (by kernel_rfl) (by kernel_rfl) (fun _ _ _ h => h) ⟨by rfl, ?_⟩ trivial ?_
            · intro w _
              go_simp
            (try simp only [Act.put, List.getElem_toArray, List.getElem_cons_succ, List.getElem_cons_zero, List.setIfInBounds_toArray, List.set_cons_succ, List.set_cons_zero])
            refine wpTwo_takeT (i := 3) (v := .slice (some ⟨bo, oo, none⟩ : Option Addr) k r) rfl (by kernel_rfl) (by kernel_rfl) (by kernel_rfl) (fun _ _ _ h => h) ⟨by rfl, ?_⟩ trivial ?_
            · intro w _
              go_simp
            (try simp only [Act.put, List.getElem_toArray, List.getElem_cons_succ, List.getElem_cons_zero, List.setIfInBounds_toArray, List.set_cons_succ, List.set_cons_zero])
            refine wpTwo_takeT (i := 5) (v := .int .i64 x) rfl (by kernel_rfl) (by kernel_rfl) (by kernel_rfl) (fun _ _ _ h => h) ⟨by rfl, ?_⟩ trivial ?_
            · intro w _
              go_simp
            (try simp only [Act.put, List.getElem_toArray, List.getElem_cons_succ, List.getElem_cons_zero, List.setIfInBounds_toArray, List.set_cons_succ, List.set_cons_zero])
            refine wpTwo_takeT (i := 8) (v := .slice (some ⟨bo, oo, none⟩ : Option Addr) i r) rfl (by kernel_rfl) (by kernel_rfl) (by kernel_rfl) (fun _ _ _ h => h) ⟨by rfl, ?_⟩ trivial ?_
            · intro w _
              go_simp
            (try simp only [Act.put, List.getElem_toArray, List.getElem_cons_succ, List.getElem_cons_zero, List.setIfInBounds_toArray, List.set_cons_succ, List.set_cons_zero])
            refine wpTwo_takeT (i := 9) (v := .int .i64 (k : Int)) rfl (by kernel_rfl) (by kernel_rfl) (by kernel_rfl) (fun _ _ _ h => h) ⟨by rfl, ?_⟩ trivial ?_
            · intro w _
              go_simp
            (try simp only [Act.put, List.getElem_toArray, List.getElem_cons_succ, List.getElem_cons_zero, List.setIfInBounds_toArray, List.set_cons_succ, List.set_cons_zero])
            refine wpTwo_takeT (i := 10) (v := .slice q2 k2 r2) rfl (by kernel_rfl) (by kernel_rfl) (by kernel_rfl) (fun _ _ _ h => h) ⟨by rfl, ?_⟩ trivial ?_
            · intro w _
              go_simp
            (try simp only [Act.put, List.getElem_toArray, List.getElem_cons_succ, List.getElem_cons_zero, List.setIfInBounds_toArray, List.set_cons_succ, List.set_cons_zero])
            refine wpTwo_ready (rs := [0, 6]) (by kernel_rfl) (by simp) ?_
            refine (AllTwo.cons rfl (fun K hK => ?_) (AllTwo.cons rfl (fun K hK => ?_) AllTwo.nil))
            · go_simp
              obtain ⟨Xa, hXa⟩ : ∃ X : World, X = X0.alloc (.cells #[] 3) := ⟨_, rfl⟩
              rw [← hXa]
              have hOXa := Lib.hid (show Xa.ownsRow wr.heap.size 3 1 (.slice (some ⟨X0.heap.size, 0, none⟩) 0 0) 0 (([] : List Int).map (Value.int .i64)) by rw [hXa]; exact own_lit hb0.size)
              have hbXa : Below wr.heap.size wr Xa := by rw [hXa]; exact hb0.alloc hb0.size _
              refine hK.out _ _ ⟨trivial, fun _ _ => trivial⟩ ?_
              have hszXa : X0.heap.size < Xa.heap.size := by rw [hXa]; simp
              clear hK K hXa hb0
              (try simp only [Act.put, List.getElem_toArray, List.getElem_cons_succ, List.getElem_cons_zero, List.setIfInBounds_toArray, List.set_cons_succ, List.set_cons_zero])
              refine wpTwo_ready (rs := [4, 6]) (by kernel_rfl) (by simp) ?_
              refine (AllTwo.cons rfl (fun K hK => ?_) (AllTwo.cons rfl (fun K hK => ?_) AllTwo.nil))
              · refine step_appI (by rfl) _ _ (by rfl) (by rfl) hOXa.out (by rfl) (RT.below hbXa) hbXa.size (by have := HK2.out; omega) (k) (by have := HK2.out; omega) ?_
                intro qXb rXb Xb hown hbel hgr
                have hOXb := Lib.hid hown
                have hbXb := hbXa.trans hbel
                refine hK.out _ _ ⟨trivial, fun _ _ => trivial⟩ ?_
                clear hK K hown hgr hbel hOXa hbXa
                (try simp only [Act.put, List.getElem_toArray, List.getElem_cons_succ, List.getElem_cons_zero, List.setIfInBounds_toArray, List.set_cons_succ, List.set_cons_zero])
                refine wpTwo_ready (rs := [6]) (by kernel_rfl) (by simp) ?_
                refine (AllTwo.cons rfl (fun K hK => ?_) AllTwo.nil)
                go_simp
                obtain ⟨Xc, hXc⟩ : ∃ X : World, X = Xb.alloc (.cells #[.int .i64 x] 3) := ⟨_, rfl⟩
                rw [← hXc]
                have RCXc : RI Xc (some ⟨Xb.heap.size, 0, none⟩) 1 1 [x] := by rw [hXc]; exact RI.lit Xb [x] rfl
                have hbXc : Below wr.heap.size wr Xc := by rw [hXc]; exact hbXb.alloc hbXb.size _
                have hOXc := Lib.hid (owns_below hOXb.out (show Below Xb.heap.size Xb Xc by rw [hXc]; exact (Below.refl _ _).alloc (Nat.le_refl _) _))
                clear hOXb
                refine hK.out _ _ ⟨trivial, fun _ _ => trivial⟩ ?_
                have hszXc : Xb.heap.size < Xc.heap.size := by rw [hXc]; simp
                clear hK K hXc hbXb
                (try simp only [Act.put, List.getElem_toArray, List.getElem_cons_succ, List.getElem_cons_zero, List.setIfInBounds_toArray, List.set_cons_succ, List.set_cons_zero])
                refine wpTwo_ready (rs := [7]) (by kernel_rfl) (by simp) ?_
                refine (AllTwo.cons rfl (fun K hK => ?_) AllTwo.nil)
                refine step_appI (by rfl) _ _ (by rfl) (by rfl) hOXc.out (by rfl) (RCXc) hbXc.size (by have := HK2.out; omega) (k + 1) (by have := HK2.out; omega) ?_
                intro qXd rXd Xd hown hbel hgr
                have hOXd := Lib.hid hown
                have hbXd := hbXc.trans hbel
                refine hK.out _ _ ⟨trivial, fun _ _ => trivial⟩ ?_
                clear hK K hown hgr hbel hOXc hbXc
                (try simp only [Act.put, List.getElem_toArray, List.getElem_cons_succ, List.getElem_cons_zero, List.setIfInBounds_toArray, List.set_cons_succ, List.set_cons_zero])
                refine wpTwo_ready (rs := [11]) (by kernel_rfl) (by simp) ?_
                refine (AllTwo.cons rfl (fun K hK => ?_) AllTwo.nil)
                refine step_appI (by rfl) _ _ (by rfl) (by rfl) hOXd.out (by rfl) (RD.below hbXd) hbXd.size (by have := HK2.out; omega) (i + 1) (by have := HK2.out; omega) ?_
                intro qXe rXe Xe hown hbel hgr
                have hOXe := Lib.hid hown
                have hbXe := hbXd.trans hbel
                refine hK.out _ _ ⟨trivial, fun _ _ => trivial⟩ ?_
                clear hK K hown hgr hbel hOXd hbXd
                (try simp only [Act.put, List.getElem_toArray, List.getElem_cons_succ, List.getElem_cons_zero, List.setIfInBounds_toArray, List.set_cons_succ, List.set_cons_zero])
                refine wpTwo_takeT (i := 12) (v := .slice qXe (i + 1) rXe) rfl (by kernel_rfl) (by kernel_rfl) (by kernel_rfl) (fun _ _ _ h => h) ⟨by rfl, ?_⟩ trivial ?_
                · intro w _
                  go_simp
                (try simp only [Act.put, List.getElem_toArray, List.getElem_cons_succ, List.getElem_cons_zero, List.setIfInBounds_toArray, List.set_cons_succ, List.set_cons_zero])
                refine wpTwo_end (by kernel_rfl) ?_ _
                have hE := Lib.hid (show Xe.ownsRow W.heap.size 3 1 (.slice qXe (i + 1) rXe) (i + 1) ((ys.take k ++ [x] ++ ys.drop k).map (Value.int .i64)) by have := hOXe.out.mono hB.size; rw [List.nil_append] at this; exact this)
                have hBE := below_then hB hB.size hbXe
                clear hOXe hbXe hB
                go_wp2
                go_roundw
                case rel => exact ⟨i + 1, qXe, rXe, ys.take k ++ [x] ++ ys.drop k, by omega, by go_num, rfl, Lib.hid (by rw [HT.out]; exact ins_perm HPM.out), HD, hE, hBE⟩
                case measure => simp [intOf]; omega
              · go_simp
                obtain ⟨Xc, hXc⟩ : ∃ X : World, X = Xa.alloc (.cells #[.int .i64 x] 3) := ⟨_, rfl⟩
                rw [← hXc]
                have RCXc : RI Xc (some ⟨Xa.heap.size, 0, none⟩) 1 1 [x] := by rw [hXc]; exact RI.lit Xa [x] rfl
                have hbXc : Below wr.heap.size wr Xc := by rw [hXc]; exact hbXa.alloc hbXa.size _
                have hOXc := Lib.hid (owns_below hOXa.out (show Below Xa.heap.size Xa Xc by rw [hXc]; exact (Below.refl _ _).alloc (Nat.le_refl _) _))
                clear hOXa
                refine hK.out _ _ ⟨trivial, fun _ _ => trivial⟩ ?_
                have hszXc : Xa.heap.size < Xc.heap.size := by rw [hXc]; simp
                clear hK K hXc hbXa
                (try simp only [Act.put, List.getElem_toArray, List.getElem_cons_succ, List.getElem_cons_zero, List.setIfInBounds_toArray, List.set_cons_succ, List.set_cons_zero])
                refine wpTwo_ready (rs := [4]) (by kernel_rfl) (by simp) ?_
                refine (AllTwo.cons rfl (fun K hK => ?_) AllTwo.nil)
                refine step_appI (by rfl) _ _ (by rfl) (by rfl) hOXc.out (by rfl) (RT.below hbXc) hbXc.size (by have := HK2.out; omega) (k) (by have := HK2.out; omega) ?_
                intro qXb rXb Xb hown hbel hgr
                have hOXb := Lib.hid hown
                have hbXb := hbXc.trans hbel
                have RCXcXb := RCXc.grown hgr (by simp [Value.ownBlock]; omega)
                clear RCXc
                refine hK.out _ _ ⟨trivial, fun _ _ => trivial⟩ ?_
                clear hK K hown hgr hbel hOXc hbXc
                (try simp only [Act.put, List.getElem_toArray, List.getElem_cons_succ, List.getElem_cons_zero, List.setIfInBounds_toArray, List.set_cons_succ, List.set_cons_zero])
                refine wpTwo_ready (rs := [7]) (by kernel_rfl) (by simp) ?_
                refine (AllTwo.cons rfl (fun K hK => ?_) AllTwo.nil)
                refine step_appI (by rfl) _ _ (by rfl) (by rfl) hOXb.out (by rfl) (RCXcXb) hbXb.size (by have := HK2.out; omega) (k + 1) (by have := HK2.out; omega) ?_
                intro qXd rXd Xd hown hbel hgr
                have hOXd := Lib.hid hown
                have hbXd := hbXb.trans hbel
                refine hK.out _ _ ⟨trivial, fun _ _ => trivial⟩ ?_
                clear hK K hown hgr hbel hOXb hbXb
                (try simp only [Act.put, List.getElem_toArray, List.getElem_cons_succ, List.getElem_cons_zero, List.setIfInBounds_toArray, List.set_cons_succ, List.set_cons_zero])
                refine wpTwo_ready (rs := [11]) (by kernel_rfl) (by simp) ?_
                refine (AllTwo.cons rfl (fun K hK => ?_) AllTwo.nil)
                refine step_appI (by rfl) _ _ (by rfl) (by rfl) hOXd.out (by rfl) (RD.below hbXd) hbXd.size (by have := HK2.out; omega) (i + 1) (by have := HK2.out; omega) ?_
                intro qXe rXe Xe hown hbel hgr
                have hOXe := Lib.hid hown
                have hbXe := hbXd.trans hbel
                refine hK.out _ _ ⟨trivial, fun _ _ => trivial⟩ ?_
                clear hK K hown hgr hbel hOXd hbXd
                (try simp only [Act.put, List.getElem_toArray, List.getElem_cons_succ, List.getElem_cons_zero, List.setIfInBounds_toArray, List.set_cons_succ, List.set_cons_zero])
                refine wpTwo_takeT (i := 12) (v := .slice qXe (i + 1) rXe) rfl (by kernel_rfl) (by kernel_rfl) (by kernel_rfl) (fun _ _ _ h => h) ⟨by rfl, ?_⟩ trivial ?_
                · intro w _
                  go_simp
                (try simp only [Act.put, List.getElem_toArray, List.getElem_cons_succ, List.getElem_cons_zero, List.setIfInBounds_toArray, List.set_cons_succ, List.set_cons_zero])
                refine wpTwo_end (by kernel_rfl) ?_ _
                have hE := Lib.hid (show Xe.ownsRow W.heap.size 3 1 (.slice qXe (i + 1) rXe) (i + 1) ((ys.take k ++ [x] ++ ys.drop k).map (Value.int .i64)) by have := hOXe.out.mono hB.size; rw [List.nil_append] at this; exact this)
                have hBE := below_then hB hB.size hbXe
                clear hOXe hbXe hB
                go_wp2
                go_roundw
                case rel => exact ⟨i + 1, qXe, rXe, ys.take k ++ [x] ++ ys.drop k, by omega, by go_num, rfl, Lib.hid (by rw [HT.out]; exact ins_perm HPM.out), HD, hE, hBE⟩
                case measure => simp [intOf]; omega
            · go_simp
              obtain ⟨Xc, hXc⟩ : ∃ X : World, X = X0.alloc (.cells #[.int .i64 x] 3) := ⟨_, rfl⟩
              rw [← hXc]
              have RCXc : RI Xc (some ⟨X0.heap.size, 0, none⟩) 1 1 [x] := by rw [hXc]; exact RI.lit X0 [x] rfl
              have hbXc : Below wr.heap.size wr Xc := by rw [hXc]; exact hb0.alloc hb0.size _
              refine hK.out _ _ ⟨trivial, fun _ _ => trivial⟩ ?_
              have hszXc : X0.heap.size < Xc.heap.size := by rw [hXc]; simp
              clear hK K hXc hb0
              (try simp only [Act.put, List.getElem_toArray, List.getElem_cons_succ, List.getElem_cons_zero, List.setIfInBounds_toArray, List.set_cons_succ, List.set_cons_zero])
              refine wpTwo_ready (rs := [0]) (by kernel_rfl) (by simp) ?_
              refine (AllTwo.cons rfl (fun K hK => ?_) AllTwo.nil)
              go_simp
              obtain ⟨Xa, hXa⟩ : ∃ X : World, X = Xc.alloc (.cells #[] 3) := ⟨_, rfl⟩
              rw [← hXa]
              have hOXa := Lib.hid (show Xa.ownsRow wr.heap.size 3 1 (.slice (some ⟨Xc.heap.size, 0, none⟩) 0 0) 0 (([] : List Int).map (Value.int .i64)) by rw [hXa]; exact own_lit hbXc.size)
              have hbXa : Below wr.heap.size wr Xa := by rw [hXa]; exact hbXc.alloc hbXc.size _
              have RCXcXa := RCXc.below (show Below Xc.heap.size Xc Xa by rw [hXa]; exact (Below.refl _ _).alloc (Nat.le_refl _) _)
              clear RCXc
              refine hK.out _ _ ⟨trivial, fun _ _ => trivial⟩ ?_
              have hszXa : Xc.heap.size < Xa.heap.size := by rw [hXa]; simp
              clear hK K hXa hbXc
              (try simp only [Act.put, List.getElem_toArray, List.getElem_cons_succ, List.getElem_cons_zero, List.setIfInBounds_toArray, List.set_cons_succ, List.set_cons_zero])
              refine wpTwo_ready (rs := [4]) (by kernel_rfl) (by simp) ?_
              refine (AllTwo.cons rfl (fun K hK => ?_) AllTwo.nil)
              refine step_appI (by rfl) _ _ (by rfl) (by rfl) hOXa.out (by rfl) (RT.below hbXa) hbXa.size (by have := HK2.out; omega) (k) (by have := HK2.out; omega) ?_
              intro qXb rXb Xb hown hbel hgr
              have hOXb := Lib.hid hown
              have hbXb := hbXa.trans hbel
              have RCXcXaXb := RCXcXa.grown hgr (by simp [Value.ownBlock]; omega)
              clear RCXcXa
              refine hK.out _ _ ⟨trivial, fun _ _ => trivial⟩ ?_
              clear hK K hown hgr hbel hOXa hbXa
              (try simp only [Act.put, List.getElem_toArray, List.getElem_cons_succ, List.getElem_cons_zero, List.setIfInBounds_toArray, List.set_cons_succ, List.set_cons_zero])
              refine wpTwo_ready (rs := [7]) (by kernel_rfl) (by simp) ?_
              refine (AllTwo.cons rfl (fun K hK => ?_) AllTwo.nil)
              refine step_appI (by rfl) _ _ (by rfl) (by rfl) hOXb.out (by rfl) (RCXcXaXb) hbXb.size (by have := HK2.out; omega) (k + 1) (by have := HK2.out; omega) ?_
              intro qXd rXd Xd hown hbel hgr
              have hOXd := Lib.hid hown
              have hbXd := hbXb.trans hbel
              refine hK.out _ _ ⟨trivial, fun _ _ => trivial⟩ ?_
              clear hK K hown hgr hbel hOXb hbXb
              (try simp only [Act.put, List.getElem_toArray, List.getElem_cons_succ, List.getElem_cons_zero, List.setIfInBounds_toArray, List.set_cons_succ, List.set_cons_zero])
              refine wpTwo_ready (rs := [11]) (by kernel_rfl) (by simp) ?_
              refine (AllTwo.cons rfl (fun K hK => ?_) AllTwo.nil)
              refine step_appI (by rfl) _ _ (by rfl) (by rfl) hOXd.out (by rfl) (RD.below hbXd) hbXd.size (by have := HK2.out; omega) (i + 1) (by have := HK2.out; omega) ?_
              intro qXe rXe Xe hown hbel hgr
              have hOXe := Lib.hid hown
              have hbXe := hbXd.trans hbel
              refine hK.out _ _ ⟨trivial, fun _ _ => trivial⟩ ?_
              clear hK K hown hgr hbel hOXd hbXd
              (try simp only [Act.put, List.getElem_toArray, List.getElem_cons_succ, List.getElem_cons_zero, List.setIfInBounds_toArray, List.set_cons_succ, List.set_cons_zero])
              refine wpTwo_takeT (i := 12) (v := .slice qXe (i + 1) rXe) rfl (by kernel_rfl) (by kernel_rfl) (by kernel_rfl) (fun _ _ _ h => h) ⟨by rfl, ?_⟩ trivial ?_
              · intro w _
                go_simp
              (try simp only [Act.put, List.getElem_toArray, List.getElem_cons_succ, List.getElem_cons_zero, List.setIfInBounds_toArray, List.set_cons_succ, List.set_cons_zero])
              refine wpTwo_end (by kernel_rfl) ?_ _
              have hE := Lib.hid (show Xe.ownsRow W.heap.size 3 1 (.slice qXe (i + 1) rXe) (i + 1) ((ys.take k ++ [x] ++ ys.drop k).map (Value.int .i64)) by have := hOXe.out.mono hB.size; rw [List.nil_append] at this; exact this)
              have hBE := below_then hB hB.size hbXe
              clear hOXe hbXe hB
              go_wp2
              go_roundw
              case rel => exact ⟨i + 1, qXe, rXe, ys.take k ++ [x] ++ ys.drop k, by omega, by go_num, rfl, Lib.hid (by rw [HT.out]; exact ins_perm HPM.out), HD, hE, hBE⟩
              case measure => simp [intOf]; omega
        · obtain rfl : i = k := by omega
          have HD := Lib.hid (ins_desc HPW.out HK.out (fun h => absurd h (by have := RO.len; omega)))
          clear main hki
          go_upto_region 8 with (fail)
          have hT := run_cutI q i r i (by omega)
          obtain ⟨q2, hq2⟩ : ∃ q2 : Option Addr, q2 = (if r = i then q else Option.map (·.add i) q) := ⟨_, rfl⟩
          have hrest := seq_rest q i r i (by omega)
          have RT := RO.take i (by omega)
          have RD := RO.drop i (by omega)
          rw [← hq2] at hrest RD
          obtain ⟨k2, hk2⟩ : ∃ k2, k2 = i - i := ⟨_, rfl⟩
          obtain ⟨r2, hr2⟩ : ∃ r2, r2 = r - i := ⟨_, rfl⟩
          rw [← hk2, ← hr2] at hrest RD
          have HK2 := Lib.hid hk2
          clear hq2 hr2 hx hk2
          refine wpTwo_begin (T := fun _ => True) (S := fun _ => True) (late := fun _ => false) (by kernel_rfl) ?_
          obtain ⟨X0, hX0⟩ : ∃ X : World, X = wr.drew := ⟨_, rfl⟩
          have hb0 : Below wr.heap.size wr X0 := by rw [hX0]; exact (Below.refl _ _).drew
          rw [← hX0]
          clear hX0
          refine wpTwo_takeT (i := 1) (v := .slice q i r) rfl (by kernel_rfl) (by kernel_rfl) (by kernel_rfl) (fun _ _ _ h => h) ⟨by rfl, ?_⟩ trivial ?_
          · intro w _
            go_simp
          (try simp only [Act.put, List.getElem_toArray, List.getElem_cons_succ, List.getElem_cons_zero, List.setIfInBounds_toArray, List.set_cons_succ, List.set_cons_zero])
          refine wpTwo_takeT (i := 2) (v := .int .i64 (i : Int)) rfl (by kernel_rfl) (by kernel_rfl) (by kernel_rfl) (fun _ _ _ h => h) ⟨by rfl, ?_⟩ trivial ?_
          · intro w _
            go_simp
          (try simp only [Act.put, List.getElem_toArray, List.getElem_cons_succ, List.getElem_cons_zero, List.setIfInBounds_toArray, List.set_cons_succ, List.set_cons_zero])
          refine wpTwo_takeT (i := 3) (v := .slice q i r) rfl (by kernel_rfl) (by kernel_rfl) (by kernel_rfl) (fun _ _ _ h => h) ⟨by rfl, ?_⟩ trivial ?_
          · intro w _
            go_simp
          (try simp only [Act.put, List.getElem_toArray, List.getElem_cons_succ, List.getElem_cons_zero, List.setIfInBounds_toArray, List.set_cons_succ, List.set_cons_zero])
          refine wpTwo_takeT (i := 5) (v := .int .i64 x) rfl (by kernel_rfl) (by kernel_rfl) (by kernel_rfl) (fun _ _ _ h => h) ⟨by rfl, ?_⟩ trivial ?_
          · intro w _
            go_simp
          (try simp only [Act.put, List.getElem_toArray, List.getElem_cons_succ, List.getElem_cons_zero, List.setIfInBounds_toArray, List.set_cons_succ, List.set_cons_zero])
          refine wpTwo_takeT (i := 8) (v := .slice q i r) rfl (by kernel_rfl) (by kernel_rfl) (by kernel_rfl) (fun _ _ _ h => h) ⟨by rfl, ?_⟩ trivial ?_
          · intro w _
            go_simp
          (try simp only [Act.put, List.getElem_toArray, List.getElem_cons_succ, List.getElem_cons_zero, List.setIfInBounds_toArray, List.set_cons_succ, List.set_cons_zero])
          refine wpTwo_takeT (i := 9) (v := .int .i64 (i : Int)) rfl (by kernel_rfl) (by kernel_rfl) (by kernel_rfl) (fun _ _ _ h => h) ⟨by rfl, ?_⟩ trivial ?_
          · intro w _
            go_simp
          (try simp only [Act.put, List.getElem_toArray, List.getElem_cons_succ, List.getElem_cons_zero, List.setIfInBounds_toArray, List.set_cons_succ, List.set_cons_zero])
          refine wpTwo_takeT (i := 10) (v := .slice q2 k2 r2) rfl (by kernel_rfl) (by kernel_rfl) (by kernel_rfl) (fun _ _ _ h => h) ⟨by rfl, ?_⟩ trivial ?_
          · intro w _
            go_simp
          (try simp only [Act.put, List.getElem_toArray, List.getElem_cons_succ, List.getElem_cons_zero, List.setIfInBounds_toArray, List.set_cons_succ, List.set_cons_zero])
          refine wpTwo_ready (rs := [0, 6]) (by kernel_rfl) (by simp) ?_
          refine (AllTwo.cons rfl (fun K hK => ?_) (AllTwo.cons rfl (fun K hK => ?_) AllTwo.nil))
          · go_simp
            obtain ⟨Xa, hXa⟩ : ∃ X : World, X = X0.alloc (.cells #[] 3) := ⟨_, rfl⟩
            rw [← hXa]
            have hOXa := Lib.hid (show Xa.ownsRow wr.heap.size 3 1 (.slice (some ⟨X0.heap.size, 0, none⟩) 0 0) 0 (([] : List Int).map (Value.int .i64)) by rw [hXa]; exact own_lit hb0.size)
            have hbXa : Below wr.heap.size wr Xa := by rw [hXa]; exact hb0.alloc hb0.size _
            refine hK.out _ _ ⟨trivial, fun _ _ => trivial⟩ ?_
            have hszXa : X0.heap.size < Xa.heap.size := by rw [hXa]; simp
            clear hK K hXa hb0
            (try simp only [Act.put, List.getElem_toArray, List.getElem_cons_succ, List.getElem_cons_zero, List.setIfInBounds_toArray, List.set_cons_succ, List.set_cons_zero])
            refine wpTwo_ready (rs := [4, 6]) (by kernel_rfl) (by simp) ?_
            refine (AllTwo.cons rfl (fun K hK => ?_) (AllTwo.cons rfl (fun K hK => ?_) AllTwo.nil))
            · refine step_appI (by rfl) _ _ (by rfl) (by rfl) hOXa.out (by rfl) (RT.below hbXa) hbXa.size (by have := HK2.out; omega) (i) (by have := HK2.out; omega) ?_
              intro qXb rXb Xb hown hbel hgr
              have hOXb := Lib.hid hown
              have hbXb := hbXa.trans hbel
              refine hK.out _ _ ⟨trivial, fun _ _ => trivial⟩ ?_
              clear hK K hown hgr hbel hOXa hbXa
              (try simp only [Act.put, List.getElem_toArray, List.getElem_cons_succ, List.getElem_cons_zero, List.setIfInBounds_toArray, List.set_cons_succ, List.set_cons_zero])
              refine wpTwo_ready (rs := [6]) (by kernel_rfl) (by simp) ?_
              refine (AllTwo.cons rfl (fun K hK => ?_) AllTwo.nil)
              go_simp
              obtain ⟨Xc, hXc⟩ : ∃ X : World, X = Xb.alloc (.cells #[.int .i64 x] 3) := ⟨_, rfl⟩
              rw [← hXc]
              have RCXc : RI Xc (some ⟨Xb.heap.size, 0, none⟩) 1 1 [x] := by rw [hXc]; exact RI.lit Xb [x] rfl
              have hbXc : Below wr.heap.size wr Xc := by rw [hXc]; exact hbXb.alloc hbXb.size _
              have hOXc := Lib.hid (owns_below hOXb.out (show Below Xb.heap.size Xb Xc by rw [hXc]; exact (Below.refl _ _).alloc (Nat.le_refl _) _))
              clear hOXb
              refine hK.out _ _ ⟨trivial, fun _ _ => trivial⟩ ?_
              have hszXc : Xb.heap.size < Xc.heap.size := by rw [hXc]; simp
              clear hK K hXc hbXb
              (try simp only [Act.put, List.getElem_toArray, List.getElem_cons_succ, List.getElem_cons_zero, List.setIfInBounds_toArray, List.set_cons_succ, List.set_cons_zero])
              refine wpTwo_ready (rs := [7]) (by kernel_rfl) (by simp) ?_
              refine (AllTwo.cons rfl (fun K hK => ?_) AllTwo.nil)
              refine step_appI (by rfl) _ _ (by rfl) (by rfl) hOXc.out (by rfl) (RCXc) hbXc.size (by have := HK2.out; omega) (i + 1) (by have := HK2.out; omega) ?_
              intro qXd rXd Xd hown hbel hgr
              have hOXd := Lib.hid hown
              have hbXd := hbXc.trans hbel
              refine hK.out _ _ ⟨trivial, fun _ _ => trivial⟩ ?_
              clear hK K hown hgr hbel hOXc hbXc
              (try simp only [Act.put, List.getElem_toArray, List.getElem_cons_succ, List.getElem_cons_zero, List.setIfInBounds_toArray, List.set_cons_succ, List.set_cons_zero])
              refine wpTwo_ready (rs := [11]) (by kernel_rfl) (by simp) ?_
              refine (AllTwo.cons rfl (fun K hK => ?_) AllTwo.nil)
              refine step_appI (by rfl) _ _ (by rfl) (by rfl) hOXd.out (by rfl) (RD.below hbXd) hbXd.size (by have := HK2.out; omega) (i + 1) (by have := HK2.out; omega) ?_
              intro qXe rXe Xe hown hbel hgr
              have hOXe := Lib.hid hown
              have hbXe := hbXd.trans hbel
              refine hK.out _ _ ⟨trivial, fun _ _ => trivial⟩ ?_
              clear hK K hown hgr hbel hOXd hbXd
              (try simp only [Act.put, List.getElem_toArray, List.getElem_cons_succ, List.getElem_cons_zero, List.setIfInBounds_toArray, List.set_cons_succ, List.set_cons_zero])
              refine wpTwo_takeT (i := 12) (v := .slice qXe (i + 1) rXe) rfl (by kernel_rfl) (by kernel_rfl) (by kernel_rfl) (fun _ _ _ h => h) ⟨by rfl, ?_⟩ trivial ?_
              · intro w _
                go_simp
              (try simp only [Act.put, List.getElem_toArray, List.getElem_cons_succ, List.getElem_cons_zero, List.setIfInBounds_toArray, List.set_cons_succ, List.set_cons_zero])
              refine wpTwo_end (by kernel_rfl) ?_ _
              have hE := Lib.hid (show Xe.ownsRow W.heap.size 3 1 (.slice qXe (i + 1) rXe) (i + 1) ((ys.take i ++ [x] ++ ys.drop i).map (Value.int .i64)) by have := hOXe.out.mono hB.size; rw [List.nil_append] at this; exact this)
              have hBE := below_then hB hB.size hbXe
              clear hOXe hbXe hB
              go_wp2
              go_roundw
              case rel => exact ⟨i + 1, qXe, rXe, ys.take i ++ [x] ++ ys.drop i, by omega, by go_num, rfl, Lib.hid (by rw [HT.out]; exact ins_perm HPM.out), HD, hE, hBE⟩
              case measure => simp [intOf]; omega
            · go_simp
              obtain ⟨Xc, hXc⟩ : ∃ X : World, X = Xa.alloc (.cells #[.int .i64 x] 3) := ⟨_, rfl⟩
              rw [← hXc]
              have RCXc : RI Xc (some ⟨Xa.heap.size, 0, none⟩) 1 1 [x] := by rw [hXc]; exact RI.lit Xa [x] rfl
              have hbXc : Below wr.heap.size wr Xc := by rw [hXc]; exact hbXa.alloc hbXa.size _
              have hOXc := Lib.hid (owns_below hOXa.out (show Below Xa.heap.size Xa Xc by rw [hXc]; exact (Below.refl _ _).alloc (Nat.le_refl _) _))
              clear hOXa
              refine hK.out _ _ ⟨trivial, fun _ _ => trivial⟩ ?_
              have hszXc : Xa.heap.size < Xc.heap.size := by rw [hXc]; simp
              clear hK K hXc hbXa
              (try simp only [Act.put, List.getElem_toArray, List.getElem_cons_succ, List.getElem_cons_zero, List.setIfInBounds_toArray, List.set_cons_succ, List.set_cons_zero])
              refine wpTwo_ready (rs := [4]) (by kernel_rfl) (by simp) ?_
              refine (AllTwo.cons rfl (fun K hK => ?_) AllTwo.nil)
              refine step_appI (by rfl) _ _ (by rfl) (by rfl) hOXc.out (by rfl) (RT.below hbXc) hbXc.size (by have := HK2.out; omega) (i) (by have := HK2.out; omega) ?_
              intro qXb rXb Xb hown hbel hgr
              have hOXb := Lib.hid hown
              have hbXb := hbXc.trans hbel
              have RCXcXb := RCXc.grown hgr (by simp [Value.ownBlock]; omega)
              clear RCXc
              refine hK.out _ _ ⟨trivial, fun _ _ => trivial⟩ ?_
              clear hK K hown hgr hbel hOXc hbXc
              (try simp only [Act.put, List.getElem_toArray, List.getElem_cons_succ, List.getElem_cons_zero, List.setIfInBounds_toArray, List.set_cons_succ, List.set_cons_zero])
              refine wpTwo_ready (rs := [7]) (by kernel_rfl) (by simp) ?_
              refine (AllTwo.cons rfl (fun K hK => ?_) AllTwo.nil)
              refine step_appI (by rfl) _ _ (by rfl) (by rfl) hOXb.out (by rfl) (RCXcXb) hbXb.size (by have := HK2.out; omega) (i + 1) (by have := HK2.out; omega) ?_
              intro qXd rXd Xd hown hbel hgr
              have hOXd := Lib.hid hown
              have hbXd := hbXb.trans hbel
              refine hK.out _ _ ⟨trivial, fun _ _ => trivial⟩ ?_
              clear hK K hown hgr hbel hOXb hbXb
              (try simp only [Act.put, List.getElem_toArray, List.getElem_cons_succ, List.getElem_cons_zero, List.setIfInBounds_toArray, List.set_cons_succ, List.set_cons_zero])
              refine wpTwo_ready (rs := [11]) (by kernel_rfl) (by simp) ?_
              refine (AllTwo.cons rfl (fun K hK => ?_) AllTwo.nil)
              refine step_appI (by rfl) _ _ (by rfl) (by rfl) hOXd.out (by rfl) (RD.below hbXd) hbXd.size (by have := HK2.out; omega) (i + 1) (by have := HK2.out; omega) ?_
              intro qXe rXe Xe hown hbel hgr
              have hOXe := Lib.hid hown
              have hbXe := hbXd.trans hbel
              refine hK.out _ _ ⟨trivial, fun _ _ => trivial⟩ ?_
              clear hK K hown hgr hbel hOXd hbXd
              (try simp only [Act.put, List.getElem_toArray, List.getElem_cons_succ, List.getElem_cons_zero, List.setIfInBounds_toArray, List.set_cons_succ, List.set_cons_zero])
              refine wpTwo_takeT (i := 12) (v := .slice qXe (i + 1) rXe) rfl (by kernel_rfl) (by kernel_rfl) (by kernel_rfl) (fun _ _ _ h => h) ⟨by rfl, ?_⟩ trivial ?_
              · intro w _
                go_simp
              (try simp only [Act.put, List.getElem_toArray, List.getElem_cons_succ, List.getElem_cons_zero, List.setIfInBounds_toArray, List.set_cons_succ, List.set_cons_zero])
              refine wpTwo_end (by kernel_rfl) ?_ _
              have hE := Lib.hid (show Xe.ownsRow W.heap.size 3 1 (.slice qXe (i + 1) rXe) (i + 1) ((ys.take i ++ [x] ++ ys.drop i).map (Value.int .i64)) by have := hOXe.out.mono hB.size; rw [List.nil_append] at this; exact this)
              have hBE := below_then hB hB.size hbXe
              clear hOXe hbXe hB
              go_wp2
              go_roundw
              case rel => exact ⟨i + 1, qXe, rXe, ys.take i ++ [x] ++ ys.drop i, by omega, by go_num, rfl, Lib.hid (by rw [HT.out]; exact ins_perm HPM.out), HD, hE, hBE⟩
              case measure => simp [intOf]; omega
          · go_simp
            obtain ⟨Xc, hXc⟩ : ∃ X : World, X = X0.alloc (.cells #[.int .i64 x] 3) := ⟨_, rfl⟩
            rw [← hXc]
            have RCXc : RI Xc (some ⟨X0.heap.size, 0, none⟩) 1 1 [x] := by rw [hXc]; exact RI.lit X0 [x] rfl
            have hbXc : Below wr.heap.size wr Xc := by rw [hXc]; exact hb0.alloc hb0.size _
            refine hK.out _ _ ⟨trivial, fun _ _ => trivial⟩ ?_
            have hszXc : X0.heap.size < Xc.heap.size := by rw [hXc]; simp
            clear hK K hXc hb0
            (try simp only [Act.put, List.getElem_toArray, List.getElem_cons_succ, List.getElem_cons_zero, List.setIfInBounds_toArray, List.set_cons_succ, List.set_cons_zero])
            refine wpTwo_ready (rs := [0]) (by kernel_rfl) (by simp) ?_
            refine (AllTwo.cons rfl (fun K hK => ?_) AllTwo.nil)
            go_simp
            obtain ⟨Xa, hXa⟩ : ∃ X : World, X = Xc.alloc (.cells #[] 3) := ⟨_, rfl⟩
            rw [← hXa]
            have hOXa := Lib.hid (show Xa.ownsRow wr.heap.size 3 1 (.slice (some ⟨Xc.heap.size, 0, none⟩) 0 0) 0 (([] : List Int).map (Value.int .i64)) by rw [hXa]; exact own_lit hbXc.size)
            have hbXa : Below wr.heap.size wr Xa := by rw [hXa]; exact hbXc.alloc hbXc.size _
            have RCXcXa := RCXc.below (show Below Xc.heap.size Xc Xa by rw [hXa]; exact (Below.refl _ _).alloc (Nat.le_refl _) _)
            clear RCXc
            refine hK.out _ _ ⟨trivial, fun _ _ => trivial⟩ ?_
            have hszXa : Xc.heap.size < Xa.heap.size := by rw [hXa]; simp
            clear hK K hXa hbXc
            (try simp only [Act.put, List.getElem_toArray, List.getElem_cons_succ, List.getElem_cons_zero, List.setIfInBounds_toArray, List.set_cons_succ, List.set_cons_zero])
            refine wpTwo_ready (rs := [4]) (by kernel_rfl) (by simp) ?_
            refine (AllTwo.cons rfl (fun K hK => ?_) AllTwo.nil)
            refine step_appI (by rfl) _ _ (by rfl) (by rfl) hOXa.out (by rfl) (RT.below hbXa) hbXa.size (by have := HK2.out; omega) (i) (by have := HK2.out; omega) ?_
            intro qXb rXb Xb hown hbel hgr
            have hOXb := Lib.hid hown
            have hbXb := hbXa.trans hbel
            have RCXcXaXb := RCXcXa.grown hgr (by simp [Value.ownBlock]; omega)
            clear RCXcXa
            refine hK.out _ _ ⟨trivial, fun _ _ => trivial⟩ ?_
            clear hK K hown hgr hbel hOXa hbXa
            (try simp only [Act.put, List.getElem_toArray, List.getElem_cons_succ, List.getElem_cons_zero, List.setIfInBounds_toArray, List.set_cons_succ, List.set_cons_zero])
            refine wpTwo_ready (rs := [7]) (by kernel_rfl) (by simp) ?_
            refine (AllTwo.cons rfl (fun K hK => ?_) AllTwo.nil)
            refine step_appI (by rfl) _ _ (by rfl) (by rfl) hOXb.out (by rfl) (RCXcXaXb) hbXb.size (by have := HK2.out; omega) (i + 1) (by have := HK2.out; omega) ?_
            intro qXd rXd Xd hown hbel hgr
            have hOXd := Lib.hid hown
            have hbXd := hbXb.trans hbel
            refine hK.out _ _ ⟨trivial, fun _ _ => trivial⟩ ?_
            clear hK K hown hgr hbel hOXb hbXb
            (try simp only [Act.put, List.getElem_toArray, List.getElem_cons_succ, List.getElem_cons_zero, List.setIfInBounds_toArray, List.set_cons_succ, List.set_cons_zero])
            refine wpTwo_ready (rs := [11]) (by kernel_rfl) (by simp) ?_
            refine (AllTwo.cons rfl (fun K hK => ?_) AllTwo.nil)
            refine step_appI (by rfl) _ _ (by rfl) (by rfl) hOXd.out (by rfl) (RD.below hbXd) hbXd.size (by have := HK2.out; omega) (i + 1) (by have := HK2.out; omega) ?_
            intro qXe rXe Xe hown hbel hgr
            have hOXe := Lib.hid hown
            have hbXe := hbXd.trans hbel
            refine hK.out _ _ ⟨trivial, fun _ _ => trivial⟩ ?_
            clear hK K hown hgr hbel hOXd hbXd
            (try simp only [Act.put, List.getElem_toArray, List.getElem_cons_succ, List.getElem_cons_zero, List.setIfInBounds_toArray, List.set_cons_succ, List.set_cons_zero])
            refine wpTwo_takeT (i := 12) (v := .slice qXe (i + 1) rXe) rfl (by kernel_rfl) (by kernel_rfl) (by kernel_rfl) (fun _ _ _ h => h) ⟨by rfl, ?_⟩ trivial ?_
            · intro w _
              go_simp
            (try simp only [Act.put, List.getElem_toArray, List.getElem_cons_succ, List.getElem_cons_zero, List.setIfInBounds_toArray, List.set_cons_succ, List.set_cons_zero])
            refine wpTwo_end (by kernel_rfl) ?_ _
            have hE := Lib.hid (show Xe.ownsRow W.heap.size 3 1 (.slice qXe (i + 1) rXe) (i + 1) ((ys.take i ++ [x] ++ ys.drop i).map (Value.int .i64)) by have := hOXe.out.mono hB.size; rw [List.nil_append] at this; exact this)
            have hBE := below_then hB hB.size hbXe
            clear hOXe hbXe hB
            go_wp2
            go_roundw
            case rel => exact ⟨i + 1, qXe, rXe, ys.take i ++ [x] ++ ys.drop i, by omega, by go_num, rfl, Lib.hid (by rw [HT.out]; exact ins_perm HPM.out), HD, hE, hBE⟩
            case measure => simp [intOf]; omega
    · obtain rfl : n = i := by omega
      have hpm := HPM.out
      rw [List.take_of_length_le (by have := HN.out; omega)] at hpm
      have HPM2 := Lib.hid hpm
      have HG : Hid (GivesRow W.heap.size ys (.returned (.slice q n r)) wr) := Lib.hid (by
        have hyl : n = ys.length := by have := HO.out.1; simpa using this.symm
        subst hyl
        exact ⟨q, r, rfl, HO.out⟩)
      clear hpm HPM HO
      go_wp2
      go_ret
      exact ⟨⟨ys, HPM2.out, HPW.out, HG.out⟩, hB⟩

end Go.Proofs.Ytmmeiclclapmfaa
