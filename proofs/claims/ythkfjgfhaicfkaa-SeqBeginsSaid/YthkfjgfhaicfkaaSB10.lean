/-
  spoil, of the statements of layer 2: it writes over the two rows of a memory, and over nothing else.
  Conditions: the memory has rows of its own.
-/
import Derived.Test.YthkfjgfhaicfkaaSB9
import Derived.RegionTactic
/-
  with, of the document's answers of layer 2: the memory in memory of its own, with one word holding something, and live, or free; what was in memory stays.
  Conditions: the memory has as many words as truth values, at most 4096.
-/
namespace Go.Proofs.Ythkfjgfhaicfkaa
open Go.RowKit Go.Shelf

theorem appW_info : (Try.prog.info? 27).map (fun i => (i.zero, i.size, i.bytes)) = some (some (.int .u64 0), 1, 8) := by kernel_rfl
theorem appB_info : (Try.prog.info? 4).map (fun i => (i.zero, i.size, i.bytes)) = some (some (.bool false), 1, 1) := by kernel_rfl

set_option maxRecDepth 100000 in
set_option maxHeartbeats 4000000 in
theorem with_c (v : Value) (ws : List Int) (ls : List Bool) (f : Bool) (x : Nat) (u : Int) (d : Bool) (W : World) (hv : MemAt W v ws ls f) (hlen : ls.length = ws.length) (hn : ws.length ≤ 4096) :
    Calls Try.prog 84 #[v, .int .i64 (x : Int), .int .u64 u, .bool d] W fun e w' => GivesMem W.heap.size (ws.set x u) (ls.set x d) f e w' ∧ Below W.heap.size W w' := by
  have hm := hv
  obtain ⟨vw0, vl0, rfl, ⟨p0, c0, rfl, hw0⟩, q0, d0, rfl, hl0⟩ := hv
  obtain ⟨iw, hiw, hzw0, hzw1, hzw2⟩ := info_parts appW_info
  obtain ⟨il, hil, hzl0, hzl1, hzl2⟩ := info_parts appB_info
  obtain ⟨z, hz⟩ : ∃ z, z = W.heap.size + 1 + 1 := ⟨_, rfl⟩
  obtain ⟨wo, hwo⟩ : ∃ wo : World, wo = ((W.alloc (.cells #[.slice p0 ws.length c0, .slice q0 ls.length d0, .bool f] 44)).alloc (.cells #[.slice none 0 0, .slice none 0 0, .bool false] 44)).alloc (.cells #[.slice none 0 0, .slice none 0 0, .bool f] 44) := ⟨_, rfl⟩
  have hB : Below W.heap.size W wo := by rw [hwo]; exact (((Below.refl _ _).alloc (Nat.le_refl _) _).alloc (by simp) _).alloc (by simp; omega) _
  have HB := Lib.hid hB
  have HMB := Lib.hid (show MBox wo W.heap.size (.slice p0 ws.length c0) (.slice q0 ls.length d0) f by rw [hwo]; exact ((MBox.new _ _ _ _).alloc _).alloc _)
  have HRB := Lib.hid (show MBox wo (W.heap.size + 1) (.slice none 0 0) (.slice none 0 0) false by
    have := MBox.new (W.alloc (.cells #[.slice p0 ws.length c0, .slice q0 ls.length d0, .bool f] 44)) (.slice none 0 0) (.slice none 0 0) false
    rw [World.size_alloc] at this
    rw [hwo]; exact this.alloc _)
  have hZB : MBox wo z (.slice none 0 0) (.slice none 0 0) f := by
    have := MBox.new ((W.alloc (.cells #[.slice p0 ws.length c0, .slice q0 ls.length d0, .bool f] 44)).alloc (.cells #[.slice none 0 0, .slice none 0 0, .bool false] 44)) (.slice none 0 0) (.slice none 0 0) f
    rw [World.size_alloc, World.size_alloc] at this
    rw [hwo, hz]; exact this
  have HINV := Lib.hid (show WInv wo z (.slice none 0 0) (.slice none 0 0) f 0 (.slice none 0 0) [] 0 (.slice none 0 0) [] wo from ⟨hZB, World.ownsRow_nil _ _ _ _, World.ownsRow_nil _ _ _ _, hZB.lt, Keeps.refl _ _⟩)
  have HHZ := Lib.hid (show W.heap.size + 2 = z by rw [hz])
  have HLEN := Lib.hid hlen
  have HWC := Lib.hid (show NumsAt W .u64 (.slice p0 ws.length c0) ws from ⟨_, _, rfl, hw0⟩)
  have HLC := Lib.hid (show BoolsAt W (.slice q0 ls.length d0) ls from ⟨_, _, rfl, hl0⟩)
  have HBND := Lib.hid (show ∀ i, (h : i < ws.length) → (ws.set x u)[i]'(by simpa using h) = if x = i then u else ws[i] from fun i h => by rw [List.getElem_set])
  have HBNL := Lib.hid (show ∀ i, (h : i < ls.length) → (ls.set x d)[i]'(by simpa using h) = if x = i then d else ls[i] from fun i h => by rw [List.getElem_set])
  clear hm hlen hB hZB hw0 hl0
  go_enter Try.func84, Try.ntmps84
  go_wp2
  rw [← hwo]
  clear hwo
  rw [← hz]
  clear hz
  go_loopw [17] (fun iv wr => ∃ i : Nat, ∃ vw vl : Value, i ≤ ws.length ∧ iv = .int .i64 i ∧ WInv wo z vw vl f i vw (((ws.set x u).take i).map (Value.int .u64)) i vl (((ls.set x d).take i).map Value.bool) wr) (fun iv _ => ws.length - (intOf iv).toNat)
  case atStart => exact ⟨0, _, _, Nat.zero_le _, rfl, HINV.out⟩
  case round =>
    obtain ⟨i, vw, vl, hi, rfl, hinv⟩ := hrel
    have HR := Lib.hid hinv
    clear hinv HINV
    by_cases hlt : i < ws.length
    · have HSW := Lib.hid (take_map_snoc (Value.int .u64) (ws.set x u) i (by simpa using hlt))
      have HSL := Lib.hid (take_map_snoc Value.bool (ls.set x d) i (by have := HLEN.out; simp; omega))
      have HVW := Lib.hid (HBND.out i hlt)
      have HVL := Lib.hid (HBNL.out i (by have := HLEN.out; omega))
      by_cases hix : i = x
      · have HVW' := Lib.hid (HVW.out.trans (if_pos hix.symm))
        have HVL' := Lib.hid (HVL.out.trans (if_pos hix.symm))
        have hd : ((i : Int) == (x : Int)) = true := by simp [hix]
        clear hix HVW HVL
        go_wp2
        refine wpTwo_begin (T := fun w' => Keeps (fun q => q = z) wo w') (S := fun w' => w'.cell? ⟨z, 0, none⟩ = some vw ∧ w'.cell? ⟨z, 1, none⟩ = some vl) (late := fun j => [10, 11, 12, 13].contains j) (by kernel_rfl) ?_
        obtain ⟨X0, hX0⟩ : ∃ X : World, X = wr.drew := ⟨_, rfl⟩
        rw [← hX0]
        have HI := Lib.hid (show WInv wo z vw vl f i vw _ i vl _ X0 by rw [hX0]; exact HR.out.drew)
        clear hX0 HR
        refine wpTwo_takeT (i := 0) (v := (.pointer (some ⟨z, 0, none⟩))) rfl (by kernel_rfl) (by kernel_rfl) (by kernel_rfl) (fun _ _ _ h => h) ⟨by rfl, ?_⟩ HI.out.keeps ?_
        · intro w _
          go_simp
        (try simp only [Act.put, List.getElem_toArray, List.getElem_cons_zero, List.setIfInBounds_toArray, List.set_cons_succ, List.set_cons_zero])
        refine wpTwo_takeS (i := 1) (v := vw) (waits_all (by kernel_rfl)) rfl (by kernel_rfl) (by kernel_rfl) (by kernel_rfl) (fun _ _ _ h => h) ⟨by rfl, ?_⟩ ⟨HI.out.keeps, (mbox_cells HI.out.box).1.1, (mbox_cells HI.out.box).1.2.1⟩ ?_
        · rintro w ⟨-, hS0, hS1⟩
          go_simp
        (try simp only [Act.put, List.getElem_toArray, List.getElem_cons_succ, List.getElem_cons_zero, List.setIfInBounds_toArray, List.set_cons_succ, List.set_cons_zero])
        refine wpTwo_takeT (i := 2) (v := (.int .u64 u)) rfl (by kernel_rfl) (by kernel_rfl) (by kernel_rfl) (fun _ _ _ h => h) ⟨by rfl, ?_⟩ HI.out.keeps ?_
        · intro w _
          go_simp
        (try simp only [Act.put, List.getElem_toArray, List.getElem_cons_succ, List.getElem_cons_zero, List.setIfInBounds_toArray, List.set_cons_succ, List.set_cons_zero])
        refine wpTwo_takeT (i := 5) (v := (.pointer (some ⟨z, 1, none⟩))) rfl (by kernel_rfl) (by kernel_rfl) (by kernel_rfl) (fun _ _ _ h => h) ⟨by rfl, ?_⟩ HI.out.keeps ?_
        · intro w _
          go_simp
        (try simp only [Act.put, List.getElem_toArray, List.getElem_cons_succ, List.getElem_cons_zero, List.setIfInBounds_toArray, List.set_cons_succ, List.set_cons_zero])
        refine wpTwo_takeS (i := 6) (v := vl) (waits_all (by kernel_rfl)) rfl (by kernel_rfl) (by kernel_rfl) (by kernel_rfl) (fun _ _ _ h => h) ⟨by rfl, ?_⟩ ⟨HI.out.keeps, (mbox_cells HI.out.box).1.1, (mbox_cells HI.out.box).1.2.1⟩ ?_
        · rintro w ⟨-, hS0, hS1⟩
          go_simp
        (try simp only [Act.put, List.getElem_toArray, List.getElem_cons_succ, List.getElem_cons_zero, List.setIfInBounds_toArray, List.set_cons_succ, List.set_cons_zero])
        refine wpTwo_takeT (i := 7) (v := (.bool d)) rfl (by kernel_rfl) (by kernel_rfl) (by kernel_rfl) (fun _ _ _ h => h) ⟨by rfl, ?_⟩ HI.out.keeps ?_
        · intro w _
          go_simp
        (try simp only [Act.put, List.getElem_toArray, List.getElem_cons_succ, List.getElem_cons_zero, List.setIfInBounds_toArray, List.set_cons_succ, List.set_cons_zero])
        refine wpTwo_ready (rs := [3, 8]) (by kernel_rfl) (by simp) ?_
        refine (AllTwo.cons rfl (fun K hK => ?_) (AllTwo.cons rfl (fun K hK => ?_) AllTwo.nil))
        · go_simp
          obtain ⟨X1, hX1⟩ : ∃ X : World, X = X0.alloc (.cells #[.int .u64 u] 27) := ⟨_, rfl⟩
          rw [← hX1]
          have HI' := Lib.hid (show WInv wo z vw vl f i vw _ i vl _ X1 by rw [hX1]; exact HI.out.alloc _)
          refine hK.out _ _ ⟨HI'.out.keeps, fun _ _ => ⟨(mbox_cells HI'.out.box).1.1, (mbox_cells HI'.out.box).1.2.1⟩⟩ ?_
          clear hK K
          (try simp only [Act.put, List.getElem_toArray, List.getElem_cons_succ, List.getElem_cons_zero, List.setIfInBounds_toArray, List.set_cons_succ, List.set_cons_zero])
          have HNW := Lib.hid (show X1.heap[X0.heap.size]? = some (.cells #[.int .u64 u] 27 (0, 0)) by rw [hX1]; exact World.alloc_heap_new _ _)
          have HNWN := Lib.hid (show some X0.heap.size ≠ Value.ownBlock vl from HI.out.newL (Nat.le_refl _))
          clear hX1 HI
          have HI := HI'
          clear HI'
          refine wpTwo_ready (rs := [4, 8]) (by kernel_rfl) (by simp) ?_
          refine (AllTwo.cons rfl (fun K hK => ?_) (AllTwo.cons rfl (fun K hK => ?_) AllTwo.nil))
          · refine step_append_lies _ (by rfl) _ _ _ (by rfl) wo.heap.size 27 iw (.int .u64 0) 1 8 Try.underlying24 hiw hzw0 hzw1 hzw2 rfl (by decide) vw i _ (by rfl) HI.out.words ⟨X0.heap.size, 0, none⟩ 1 1 [.int .u64 u] (by rfl) (by rfl) (World.news_of_block HNW.out) (by simp [Value.oneCell']) (by decide) (by unfold maxLen; omega) (by omega) HI.out.base _ rfl ?_
            intro gw capw X2 hown hgrow hat hlt
            have HI' := Lib.hid (HI.out.growW hgrow hown)
            refine hK.out _ _ ⟨HI'.out.keeps, fun _ _ => ⟨(mbox_cells HI'.out.box).1.1, (mbox_cells HI'.out.box).1.2.1⟩⟩ ?_
            clear hK K
            (try simp only [Act.put, List.getElem_toArray, List.getElem_cons_succ, List.getElem_cons_zero, List.setIfInBounds_toArray, List.set_cons_succ, List.set_cons_zero])
            clear hown hgrow hat hlt HI
            have HI := HI'
            clear HI'
            refine wpTwo_takeT (i := 10) (v := (.pointer (some ⟨z, 0, none⟩))) rfl (by kernel_rfl) (by kernel_rfl) (by kernel_rfl) (fun _ _ _ h => h) ⟨by rfl, ?_⟩ HI.out.keeps ?_
            · intro w _
              go_simp
            (try simp only [Act.put, List.getElem_toArray, List.getElem_cons_succ, List.getElem_cons_zero, List.setIfInBounds_toArray, List.set_cons_succ, List.set_cons_zero])
            refine wpTwo_ready (rs := [8]) (by kernel_rfl) (by simp) ?_
            refine (AllTwo.cons rfl (fun K hK => ?_) AllTwo.nil)
            go_simp
            obtain ⟨X3, hX3⟩ : ∃ X : World, X = X2.alloc (.cells #[.bool d] 4) := ⟨_, rfl⟩
            rw [← hX3]
            have HI' := Lib.hid (show WInv wo z vw vl f (i + 1) (.slice (some ⟨gw, 0, none⟩) (i + 1) capw) _ i vl _ X3 by rw [hX3]; exact HI.out.alloc _)
            refine hK.out _ _ ⟨HI'.out.keeps, fun _ _ => ⟨(mbox_cells HI'.out.box).1.1, (mbox_cells HI'.out.box).1.2.1⟩⟩ ?_
            clear hK K
            (try simp only [Act.put, List.getElem_toArray, List.getElem_cons_succ, List.getElem_cons_zero, List.setIfInBounds_toArray, List.set_cons_succ, List.set_cons_zero])
            have HNL := Lib.hid (show X3.heap[X2.heap.size]? = some (.cells #[.bool d] 4 (0, 0)) by rw [hX3]; exact World.alloc_heap_new _ _)
            have HNLN := Lib.hid (show some X2.heap.size ≠ Value.ownBlock (.slice (some ⟨gw, 0, none⟩) (i + 1) capw) from HI.out.newW (Nat.le_refl _))
            clear hX3 HI
            have HI := HI'
            clear HI'
            refine wpTwo_ready (rs := [9]) (by kernel_rfl) (by simp) ?_
            refine (AllTwo.cons rfl (fun K hK => ?_) AllTwo.nil)
            refine step_append_lies _ (by rfl) _ _ _ (by rfl) wo.heap.size 4 il (.bool false) 1 1 Try.underlying42 hil hzl0 hzl1 hzl2 rfl (by decide) vl i _ (by rfl) HI.out.lives ⟨X2.heap.size, 0, none⟩ 1 1 [.bool d] (by rfl) (by rfl) (World.news_of_block HNL.out) (by simp [Value.oneCell']) (by decide) (by unfold maxLen; omega) (by omega) HI.out.base _ rfl ?_
            intro gl capl X4 hown hgrow hat hlt
            have HI' := Lib.hid (HI.out.growL hgrow hown)
            refine hK.out _ _ ⟨HI'.out.keeps, fun _ _ => ⟨(mbox_cells HI'.out.box).1.1, (mbox_cells HI'.out.box).1.2.1⟩⟩ ?_
            clear hK K
            (try simp only [Act.put, List.getElem_toArray, List.getElem_cons_succ, List.getElem_cons_zero, List.setIfInBounds_toArray, List.set_cons_succ, List.set_cons_zero])
            clear hown hgrow hat hlt HI
            have HI := HI'
            clear HI'
            refine wpTwo_ready (rs := [11]) (by kernel_rfl) (by simp) ?_
            refine (AllTwo.cons rfl (fun K hK => ?_) AllTwo.nil)
            obtain ⟨⟨hz0, hz1, _⟩, hf0, hf1, _⟩ := mbox_cells HI.out.box
            go_simp
            refine hK.out _ _ ⟨HI.out.keeps.trans (Keeps.setCell _ (S := fun q => q = z) (p := ⟨z, 0, none⟩) rfl _), fun h _ => absurd h (by decide)⟩ ?_
            clear hK K
            (try simp only [Act.put, List.getElem_toArray, List.getElem_cons_succ, List.getElem_cons_zero, List.setIfInBounds_toArray, List.set_cons_succ, List.set_cons_zero])
            refine wpTwo_ready (rs := [12]) (by kernel_rfl) (by simp) ?_
            refine (AllTwo.cons rfl (fun K hK => ?_) AllTwo.nil)
            go_simp
            refine hK.out _ _ ⟨HI.out.keeps.trans (Keeps.setCell _ (S := fun q => q = z) (p := ⟨z, 0, none⟩) rfl _), fun h _ => absurd h (by decide)⟩ ?_
            clear hK K
            (try simp only [Act.put, List.getElem_toArray, List.getElem_cons_succ, List.getElem_cons_zero, List.setIfInBounds_toArray, List.set_cons_succ, List.set_cons_zero])
            refine wpTwo_ready (rs := [13]) (by kernel_rfl) (by simp) ?_
            refine (AllTwo.cons rfl (fun K hK => ?_) AllTwo.nil)
            go_simp
            refine hK.out _ _ ⟨(HI.out.keeps.trans (Keeps.setCell _ (S := fun q => q = z) (p := ⟨z, 0, none⟩) rfl _)).trans (Keeps.setCell _ (S := fun q => q = z) (p := ⟨z, 1, none⟩) rfl _), fun h _ => absurd h (by decide)⟩ ?_
            clear hK K
            (try simp only [Act.put, List.getElem_toArray, List.getElem_cons_succ, List.getElem_cons_zero, List.setIfInBounds_toArray, List.set_cons_succ, List.set_cons_zero])
            refine wpTwo_end (by kernel_rfl) ?_ _
            have HE := Lib.hid (HI.out.store (.slice (some ⟨gw, 0, none⟩) (i + 1) capw) (.slice (some ⟨gl, 0, none⟩) (i + 1) capl))
            clear hz0 hz1 hf0 hf1 HI
            go_wp2
            go_roundw
            case rel => exact ⟨i + 1, _, _, by omega, by go_num, by rw [← HSW.out, ← HSL.out, HVW'.out, HVL'.out]; exact HE.out⟩
            case measure => simp [intOf]; omega
          · go_simp
            obtain ⟨X2, hX2⟩ : ∃ X : World, X = X1.alloc (.cells #[.bool d] 4) := ⟨_, rfl⟩
            rw [← hX2]
            have HI' := Lib.hid (show WInv wo z vw vl f i vw _ i vl _ X2 by rw [hX2]; exact HI.out.alloc _)
            refine hK.out _ _ ⟨HI'.out.keeps, fun _ _ => ⟨(mbox_cells HI'.out.box).1.1, (mbox_cells HI'.out.box).1.2.1⟩⟩ ?_
            clear hK K
            (try simp only [Act.put, List.getElem_toArray, List.getElem_cons_succ, List.getElem_cons_zero, List.setIfInBounds_toArray, List.set_cons_succ, List.set_cons_zero])
            have HNL := Lib.hid (show X2.heap[X1.heap.size]? = some (.cells #[.bool d] 4 (0, 0)) by rw [hX2]; exact World.alloc_heap_new _ _)
            have HNLN := Lib.hid (show some X1.heap.size ≠ Value.ownBlock vw from HI.out.newW (Nat.le_refl _))
            have HNW' := Lib.hid (show X2.heap[X0.heap.size]? = some _ by rw [hX2]; exact heap_alloc HNW.out _)
            clear HNW
            have HNW := HNW'
            clear HNW'
            clear hX2 HI
            have HI := HI'
            clear HI'
            refine wpTwo_ready (rs := [4]) (by kernel_rfl) (by simp) ?_
            refine (AllTwo.cons rfl (fun K hK => ?_) AllTwo.nil)
            refine step_append_lies _ (by rfl) _ _ _ (by rfl) wo.heap.size 27 iw (.int .u64 0) 1 8 Try.underlying24 hiw hzw0 hzw1 hzw2 rfl (by decide) vw i _ (by rfl) HI.out.words ⟨X0.heap.size, 0, none⟩ 1 1 [.int .u64 u] (by rfl) (by rfl) (World.news_of_block HNW.out) (by simp [Value.oneCell']) (by decide) (by unfold maxLen; omega) (by omega) HI.out.base _ rfl ?_
            intro gw capw X3 hown hgrow hat hlt
            have HI' := Lib.hid (HI.out.growW hgrow hown)
            refine hK.out _ _ ⟨HI'.out.keeps, fun _ _ => ⟨(mbox_cells HI'.out.box).1.1, (mbox_cells HI'.out.box).1.2.1⟩⟩ ?_
            clear hK K
            (try simp only [Act.put, List.getElem_toArray, List.getElem_cons_succ, List.getElem_cons_zero, List.setIfInBounds_toArray, List.set_cons_succ, List.set_cons_zero])
            have HNL' := Lib.hid (heap_grown hgrow HNL.out HNLN.out)
            clear HNL
            have HNL := HNL'
            clear HNL'
            clear hown hgrow hat hlt HI
            have HI := HI'
            clear HI'
            refine wpTwo_takeT (i := 10) (v := (.pointer (some ⟨z, 0, none⟩))) rfl (by kernel_rfl) (by kernel_rfl) (by kernel_rfl) (fun _ _ _ h => h) ⟨by rfl, ?_⟩ HI.out.keeps ?_
            · intro w _
              go_simp
            (try simp only [Act.put, List.getElem_toArray, List.getElem_cons_succ, List.getElem_cons_zero, List.setIfInBounds_toArray, List.set_cons_succ, List.set_cons_zero])
            refine wpTwo_ready (rs := [9]) (by kernel_rfl) (by simp) ?_
            refine (AllTwo.cons rfl (fun K hK => ?_) AllTwo.nil)
            refine step_append_lies _ (by rfl) _ _ _ (by rfl) wo.heap.size 4 il (.bool false) 1 1 Try.underlying42 hil hzl0 hzl1 hzl2 rfl (by decide) vl i _ (by rfl) HI.out.lives ⟨X1.heap.size, 0, none⟩ 1 1 [.bool d] (by rfl) (by rfl) (World.news_of_block HNL.out) (by simp [Value.oneCell']) (by decide) (by unfold maxLen; omega) (by omega) HI.out.base _ rfl ?_
            intro gl capl X4 hown hgrow hat hlt
            have HI' := Lib.hid (HI.out.growL hgrow hown)
            refine hK.out _ _ ⟨HI'.out.keeps, fun _ _ => ⟨(mbox_cells HI'.out.box).1.1, (mbox_cells HI'.out.box).1.2.1⟩⟩ ?_
            clear hK K
            (try simp only [Act.put, List.getElem_toArray, List.getElem_cons_succ, List.getElem_cons_zero, List.setIfInBounds_toArray, List.set_cons_succ, List.set_cons_zero])
            clear hown hgrow hat hlt HI
            have HI := HI'
            clear HI'
            refine wpTwo_ready (rs := [11]) (by kernel_rfl) (by simp) ?_
            refine (AllTwo.cons rfl (fun K hK => ?_) AllTwo.nil)
            obtain ⟨⟨hz0, hz1, _⟩, hf0, hf1, _⟩ := mbox_cells HI.out.box
            go_simp
            refine hK.out _ _ ⟨HI.out.keeps.trans (Keeps.setCell _ (S := fun q => q = z) (p := ⟨z, 0, none⟩) rfl _), fun h _ => absurd h (by decide)⟩ ?_
            clear hK K
            (try simp only [Act.put, List.getElem_toArray, List.getElem_cons_succ, List.getElem_cons_zero, List.setIfInBounds_toArray, List.set_cons_succ, List.set_cons_zero])
            refine wpTwo_ready (rs := [12]) (by kernel_rfl) (by simp) ?_
            refine (AllTwo.cons rfl (fun K hK => ?_) AllTwo.nil)
            go_simp
            refine hK.out _ _ ⟨HI.out.keeps.trans (Keeps.setCell _ (S := fun q => q = z) (p := ⟨z, 0, none⟩) rfl _), fun h _ => absurd h (by decide)⟩ ?_
            clear hK K
            (try simp only [Act.put, List.getElem_toArray, List.getElem_cons_succ, List.getElem_cons_zero, List.setIfInBounds_toArray, List.set_cons_succ, List.set_cons_zero])
            refine wpTwo_ready (rs := [13]) (by kernel_rfl) (by simp) ?_
            refine (AllTwo.cons rfl (fun K hK => ?_) AllTwo.nil)
            go_simp
            refine hK.out _ _ ⟨(HI.out.keeps.trans (Keeps.setCell _ (S := fun q => q = z) (p := ⟨z, 0, none⟩) rfl _)).trans (Keeps.setCell _ (S := fun q => q = z) (p := ⟨z, 1, none⟩) rfl _), fun h _ => absurd h (by decide)⟩ ?_
            clear hK K
            (try simp only [Act.put, List.getElem_toArray, List.getElem_cons_succ, List.getElem_cons_zero, List.setIfInBounds_toArray, List.set_cons_succ, List.set_cons_zero])
            refine wpTwo_end (by kernel_rfl) ?_ _
            have HE := Lib.hid (HI.out.store (.slice (some ⟨gw, 0, none⟩) (i + 1) capw) (.slice (some ⟨gl, 0, none⟩) (i + 1) capl))
            clear hz0 hz1 hf0 hf1 HI
            go_wp2
            go_roundw
            case rel => exact ⟨i + 1, _, _, by omega, by go_num, by rw [← HSW.out, ← HSL.out, HVW'.out, HVL'.out]; exact HE.out⟩
            case measure => simp [intOf]; omega
        · go_simp
          obtain ⟨X1, hX1⟩ : ∃ X : World, X = X0.alloc (.cells #[.bool d] 4) := ⟨_, rfl⟩
          rw [← hX1]
          have HI' := Lib.hid (show WInv wo z vw vl f i vw _ i vl _ X1 by rw [hX1]; exact HI.out.alloc _)
          refine hK.out _ _ ⟨HI'.out.keeps, fun _ _ => ⟨(mbox_cells HI'.out.box).1.1, (mbox_cells HI'.out.box).1.2.1⟩⟩ ?_
          clear hK K
          (try simp only [Act.put, List.getElem_toArray, List.getElem_cons_succ, List.getElem_cons_zero, List.setIfInBounds_toArray, List.set_cons_succ, List.set_cons_zero])
          have HNL := Lib.hid (show X1.heap[X0.heap.size]? = some (.cells #[.bool d] 4 (0, 0)) by rw [hX1]; exact World.alloc_heap_new _ _)
          have HNLN := Lib.hid (show some X0.heap.size ≠ Value.ownBlock vw from HI.out.newW (Nat.le_refl _))
          clear hX1 HI
          have HI := HI'
          clear HI'
          refine wpTwo_ready (rs := [3]) (by kernel_rfl) (by simp) ?_
          refine (AllTwo.cons rfl (fun K hK => ?_) AllTwo.nil)
          go_simp
          obtain ⟨X2, hX2⟩ : ∃ X : World, X = X1.alloc (.cells #[.int .u64 u] 27) := ⟨_, rfl⟩
          rw [← hX2]
          have HI' := Lib.hid (show WInv wo z vw vl f i vw _ i vl _ X2 by rw [hX2]; exact HI.out.alloc _)
          refine hK.out _ _ ⟨HI'.out.keeps, fun _ _ => ⟨(mbox_cells HI'.out.box).1.1, (mbox_cells HI'.out.box).1.2.1⟩⟩ ?_
          clear hK K
          (try simp only [Act.put, List.getElem_toArray, List.getElem_cons_succ, List.getElem_cons_zero, List.setIfInBounds_toArray, List.set_cons_succ, List.set_cons_zero])
          have HNW := Lib.hid (show X2.heap[X1.heap.size]? = some (.cells #[.int .u64 u] 27 (0, 0)) by rw [hX2]; exact World.alloc_heap_new _ _)
          have HNWN := Lib.hid (show some X1.heap.size ≠ Value.ownBlock vl from HI.out.newL (Nat.le_refl _))
          have HNL' := Lib.hid (show X2.heap[X0.heap.size]? = some _ by rw [hX2]; exact heap_alloc HNL.out _)
          clear HNL
          have HNL := HNL'
          clear HNL'
          clear hX2 HI
          have HI := HI'
          clear HI'
          refine wpTwo_ready (rs := [4]) (by kernel_rfl) (by simp) ?_
          refine (AllTwo.cons rfl (fun K hK => ?_) AllTwo.nil)
          refine step_append_lies _ (by rfl) _ _ _ (by rfl) wo.heap.size 27 iw (.int .u64 0) 1 8 Try.underlying24 hiw hzw0 hzw1 hzw2 rfl (by decide) vw i _ (by rfl) HI.out.words ⟨X1.heap.size, 0, none⟩ 1 1 [.int .u64 u] (by rfl) (by rfl) (World.news_of_block HNW.out) (by simp [Value.oneCell']) (by decide) (by unfold maxLen; omega) (by omega) HI.out.base _ rfl ?_
          intro gw capw X3 hown hgrow hat hlt
          have HI' := Lib.hid (HI.out.growW hgrow hown)
          refine hK.out _ _ ⟨HI'.out.keeps, fun _ _ => ⟨(mbox_cells HI'.out.box).1.1, (mbox_cells HI'.out.box).1.2.1⟩⟩ ?_
          clear hK K
          (try simp only [Act.put, List.getElem_toArray, List.getElem_cons_succ, List.getElem_cons_zero, List.setIfInBounds_toArray, List.set_cons_succ, List.set_cons_zero])
          have HNL' := Lib.hid (heap_grown hgrow HNL.out HNLN.out)
          clear HNL
          have HNL := HNL'
          clear HNL'
          clear hown hgrow hat hlt HI
          have HI := HI'
          clear HI'
          refine wpTwo_takeT (i := 10) (v := (.pointer (some ⟨z, 0, none⟩))) rfl (by kernel_rfl) (by kernel_rfl) (by kernel_rfl) (fun _ _ _ h => h) ⟨by rfl, ?_⟩ HI.out.keeps ?_
          · intro w _
            go_simp
          (try simp only [Act.put, List.getElem_toArray, List.getElem_cons_succ, List.getElem_cons_zero, List.setIfInBounds_toArray, List.set_cons_succ, List.set_cons_zero])
          refine wpTwo_ready (rs := [9]) (by kernel_rfl) (by simp) ?_
          refine (AllTwo.cons rfl (fun K hK => ?_) AllTwo.nil)
          refine step_append_lies _ (by rfl) _ _ _ (by rfl) wo.heap.size 4 il (.bool false) 1 1 Try.underlying42 hil hzl0 hzl1 hzl2 rfl (by decide) vl i _ (by rfl) HI.out.lives ⟨X0.heap.size, 0, none⟩ 1 1 [.bool d] (by rfl) (by rfl) (World.news_of_block HNL.out) (by simp [Value.oneCell']) (by decide) (by unfold maxLen; omega) (by omega) HI.out.base _ rfl ?_
          intro gl capl X4 hown hgrow hat hlt
          have HI' := Lib.hid (HI.out.growL hgrow hown)
          refine hK.out _ _ ⟨HI'.out.keeps, fun _ _ => ⟨(mbox_cells HI'.out.box).1.1, (mbox_cells HI'.out.box).1.2.1⟩⟩ ?_
          clear hK K
          (try simp only [Act.put, List.getElem_toArray, List.getElem_cons_succ, List.getElem_cons_zero, List.setIfInBounds_toArray, List.set_cons_succ, List.set_cons_zero])
          clear hown hgrow hat hlt HI
          have HI := HI'
          clear HI'
          refine wpTwo_ready (rs := [11]) (by kernel_rfl) (by simp) ?_
          refine (AllTwo.cons rfl (fun K hK => ?_) AllTwo.nil)
          obtain ⟨⟨hz0, hz1, _⟩, hf0, hf1, _⟩ := mbox_cells HI.out.box
          go_simp
          refine hK.out _ _ ⟨HI.out.keeps.trans (Keeps.setCell _ (S := fun q => q = z) (p := ⟨z, 0, none⟩) rfl _), fun h _ => absurd h (by decide)⟩ ?_
          clear hK K
          (try simp only [Act.put, List.getElem_toArray, List.getElem_cons_succ, List.getElem_cons_zero, List.setIfInBounds_toArray, List.set_cons_succ, List.set_cons_zero])
          refine wpTwo_ready (rs := [12]) (by kernel_rfl) (by simp) ?_
          refine (AllTwo.cons rfl (fun K hK => ?_) AllTwo.nil)
          go_simp
          refine hK.out _ _ ⟨HI.out.keeps.trans (Keeps.setCell _ (S := fun q => q = z) (p := ⟨z, 0, none⟩) rfl _), fun h _ => absurd h (by decide)⟩ ?_
          clear hK K
          (try simp only [Act.put, List.getElem_toArray, List.getElem_cons_succ, List.getElem_cons_zero, List.setIfInBounds_toArray, List.set_cons_succ, List.set_cons_zero])
          refine wpTwo_ready (rs := [13]) (by kernel_rfl) (by simp) ?_
          refine (AllTwo.cons rfl (fun K hK => ?_) AllTwo.nil)
          go_simp
          refine hK.out _ _ ⟨(HI.out.keeps.trans (Keeps.setCell _ (S := fun q => q = z) (p := ⟨z, 0, none⟩) rfl _)).trans (Keeps.setCell _ (S := fun q => q = z) (p := ⟨z, 1, none⟩) rfl _), fun h _ => absurd h (by decide)⟩ ?_
          clear hK K
          (try simp only [Act.put, List.getElem_toArray, List.getElem_cons_succ, List.getElem_cons_zero, List.setIfInBounds_toArray, List.set_cons_succ, List.set_cons_zero])
          refine wpTwo_end (by kernel_rfl) ?_ _
          have HE := Lib.hid (HI.out.store (.slice (some ⟨gw, 0, none⟩) (i + 1) capw) (.slice (some ⟨gl, 0, none⟩) (i + 1) capl))
          clear hz0 hz1 hf0 hf1 HI
          go_wp2
          go_roundw
          case rel => exact ⟨i + 1, _, _, by omega, by go_num, by rw [← HSW.out, ← HSL.out, HVW'.out, HVL'.out]; exact HE.out⟩
          case measure => simp [intOf]; omega
      · have HVW' := Lib.hid (HVW.out.trans (if_neg fun e => hix e.symm))
        have HVL' := Lib.hid (HVL.out.trans (if_neg fun e => hix e.symm))
        have hd : ((i : Int) == (x : Int)) = false := by simp; omega
        obtain ⟨bw, ow, rfl, hcw⟩ := nums_cells HWC.out (by omega)
        obtain ⟨bl, ol, rfl, hcl⟩ := bools_cells HLC.out (by have := HLEN.out; omega)
        obtain ⟨t, ht⟩ : ∃ t, t = ws[i] := ⟨_, rfl⟩
        obtain ⟨b, hb⟩ : ∃ b, b = ls[i]'(by have := HLEN.out; omega) := ⟨_, rfl⟩
        rw [← ht] at HVW'
        rw [← hb] at HVL'
        have hcw1 := hcw i hlt
        have hcl1 := hcl i (by have := HLEN.out; omega)
        rw [← ht] at hcw1
        rw [← hb] at hcl1
        have HLW := Lib.hid (below_cell HB.out hcw1)
        have HLL := Lib.hid (below_cell HB.out hcl1)
        have HLWn := Lib.hid (show ¬ (bw = z) by have h1 := World.block_lt_of_cell? W _ hcw1; have h2 := HHZ.out; simp only at h1; omega)
        have HLLn := Lib.hid (show ¬ (bl = z) by have h1 := World.block_lt_of_cell? W _ hcl1; have h2 := HHZ.out; simp only at h1; omega)
        have HM0 := Lib.hid (mbox_cells HMB.out).1.1
        have HM1 := Lib.hid (mbox_cells HMB.out).1.2.1
        have HM0n := Lib.hid (show ¬ (W.heap.size = z) by have h2 := HHZ.out; omega)
        have HM1n := HM0n
        clear hcw1 hcl1
        have hi0 : (i : Int) < (ls.length : Int) := by have := HLEN.out; omega
        clear hix HVW HVL hcw hcl ht hb
        go_wp2
        refine wpTwo_begin (T := fun w' => Keeps (fun q => q = z) wo w') (S := fun w' => w'.cell? ⟨z, 0, none⟩ = some vw ∧ w'.cell? ⟨z, 1, none⟩ = some vl) (late := fun j => [18, 19, 20, 21].contains j) (by kernel_rfl) ?_
        obtain ⟨X0, hX0⟩ : ∃ X : World, X = wr.drew := ⟨_, rfl⟩
        rw [← hX0]
        have HI := Lib.hid (show WInv wo z vw vl f i vw _ i vl _ X0 by rw [hX0]; exact HR.out.drew)
        clear hX0 HR
        refine wpTwo_takeT (i := 0) (v := (.pointer (some ⟨z, 0, none⟩))) rfl (by kernel_rfl) (by kernel_rfl) (by kernel_rfl) (fun _ _ _ h => h) ⟨by rfl, ?_⟩ HI.out.keeps ?_
        · intro w _
          go_simp
        (try simp only [Act.put, List.getElem_toArray, List.getElem_cons_zero, List.setIfInBounds_toArray, List.set_cons_succ, List.set_cons_zero])
        refine wpTwo_takeS (i := 1) (v := vw) (waits_all (by kernel_rfl)) rfl (by kernel_rfl) (by kernel_rfl) (by kernel_rfl) (fun _ _ _ h => h) ⟨by rfl, ?_⟩ ⟨HI.out.keeps, (mbox_cells HI.out.box).1.1, (mbox_cells HI.out.box).1.2.1⟩ ?_
        · rintro w ⟨-, hS0, hS1⟩
          go_simp
        (try simp only [Act.put, List.getElem_toArray, List.getElem_cons_succ, List.getElem_cons_zero, List.setIfInBounds_toArray, List.set_cons_succ, List.set_cons_zero])
        refine wpTwo_takeT (i := 2) (v := (.pointer (some ⟨W.heap.size, 0, none⟩))) rfl (by kernel_rfl) (by kernel_rfl) (by kernel_rfl) (fun _ _ _ h => h) ⟨by rfl, ?_⟩ HI.out.keeps ?_
        · intro w _
          go_simp
        (try simp only [Act.put, List.getElem_toArray, List.getElem_cons_succ, List.getElem_cons_zero, List.setIfInBounds_toArray, List.set_cons_succ, List.set_cons_zero])
        refine wpTwo_takeT (i := 3) (v := (.slice (some ⟨bw, ow, none⟩) ws.length c0)) rfl (by kernel_rfl) (by kernel_rfl) (by kernel_rfl) (fun _ _ _ h => h) ⟨by rfl, ?_⟩ HI.out.keeps ?_
        · intro w hTw
          have hload := Keeps.cell hTw HM0.out (by have := HM0n.out; exact this)
          clear hTw
          go_simp
        (try simp only [Act.put, List.getElem_toArray, List.getElem_cons_succ, List.getElem_cons_zero, List.setIfInBounds_toArray, List.set_cons_succ, List.set_cons_zero])
        refine wpTwo_takeT (i := 4) (v := (.int .i64 (i : Int))) rfl (by kernel_rfl) (by kernel_rfl) (by kernel_rfl) (fun _ _ _ h => h) ⟨by rfl, ?_⟩ HI.out.keeps ?_
        · intro w _
          go_simp
        (try simp only [Act.put, List.getElem_toArray, List.getElem_cons_succ, List.getElem_cons_zero, List.setIfInBounds_toArray, List.set_cons_succ, List.set_cons_zero])
        refine wpTwo_takeT (i := 5) (v := (.pointer (some ⟨bw, ow + i, none⟩))) rfl (by kernel_rfl) (by kernel_rfl) (by kernel_rfl) (fun _ _ _ h => h) ⟨by rfl, ?_⟩ HI.out.keeps ?_
        · intro w _
          go_simp
        (try simp only [Act.put, List.getElem_toArray, List.getElem_cons_succ, List.getElem_cons_zero, List.setIfInBounds_toArray, List.set_cons_succ, List.set_cons_zero])
        refine wpTwo_takeT (i := 6) (v := (.int .u64 t)) rfl (by kernel_rfl) (by kernel_rfl) (by kernel_rfl) (fun _ _ _ h => h) ⟨by rfl, ?_⟩ HI.out.keeps ?_
        · intro w hTw
          have hload := Keeps.cell hTw HLW.out (by have := HLWn.out; exact this)
          clear hTw
          go_simp
        (try simp only [Act.put, List.getElem_toArray, List.getElem_cons_succ, List.getElem_cons_zero, List.setIfInBounds_toArray, List.set_cons_succ, List.set_cons_zero])
        refine wpTwo_takeT (i := 9) (v := (.pointer (some ⟨z, 1, none⟩))) rfl (by kernel_rfl) (by kernel_rfl) (by kernel_rfl) (fun _ _ _ h => h) ⟨by rfl, ?_⟩ HI.out.keeps ?_
        · intro w _
          go_simp
        (try simp only [Act.put, List.getElem_toArray, List.getElem_cons_succ, List.getElem_cons_zero, List.setIfInBounds_toArray, List.set_cons_succ, List.set_cons_zero])
        refine wpTwo_takeS (i := 10) (v := vl) (waits_all (by kernel_rfl)) rfl (by kernel_rfl) (by kernel_rfl) (by kernel_rfl) (fun _ _ _ h => h) ⟨by rfl, ?_⟩ ⟨HI.out.keeps, (mbox_cells HI.out.box).1.1, (mbox_cells HI.out.box).1.2.1⟩ ?_
        · rintro w ⟨-, hS0, hS1⟩
          go_simp
        (try simp only [Act.put, List.getElem_toArray, List.getElem_cons_succ, List.getElem_cons_zero, List.setIfInBounds_toArray, List.set_cons_succ, List.set_cons_zero])
        refine wpTwo_takeT (i := 11) (v := (.pointer (some ⟨W.heap.size, 1, none⟩))) rfl (by kernel_rfl) (by kernel_rfl) (by kernel_rfl) (fun _ _ _ h => h) ⟨by rfl, ?_⟩ HI.out.keeps ?_
        · intro w _
          go_simp
        (try simp only [Act.put, List.getElem_toArray, List.getElem_cons_succ, List.getElem_cons_zero, List.setIfInBounds_toArray, List.set_cons_succ, List.set_cons_zero])
        refine wpTwo_takeT (i := 12) (v := (.slice (some ⟨bl, ol, none⟩) ls.length d0)) rfl (by kernel_rfl) (by kernel_rfl) (by kernel_rfl) (fun _ _ _ h => h) ⟨by rfl, ?_⟩ HI.out.keeps ?_
        · intro w hTw
          have hload := Keeps.cell hTw HM1.out (by have := HM1n.out; exact this)
          clear hTw
          go_simp
        (try simp only [Act.put, List.getElem_toArray, List.getElem_cons_succ, List.getElem_cons_zero, List.setIfInBounds_toArray, List.set_cons_succ, List.set_cons_zero])
        refine wpTwo_takeT (i := 13) (v := (.int .i64 (i : Int))) rfl (by kernel_rfl) (by kernel_rfl) (by kernel_rfl) (fun _ _ _ h => h) ⟨by rfl, ?_⟩ HI.out.keeps ?_
        · intro w _
          go_simp
        (try simp only [Act.put, List.getElem_toArray, List.getElem_cons_succ, List.getElem_cons_zero, List.setIfInBounds_toArray, List.set_cons_succ, List.set_cons_zero])
        refine wpTwo_takeT (i := 14) (v := (.pointer (some ⟨bl, ol + i, none⟩))) rfl (by kernel_rfl) (by kernel_rfl) (by kernel_rfl) (fun _ _ _ h => h) ⟨by rfl, ?_⟩ HI.out.keeps ?_
        · intro w _
          go_simp
        (try simp only [Act.put, List.getElem_toArray, List.getElem_cons_succ, List.getElem_cons_zero, List.setIfInBounds_toArray, List.set_cons_succ, List.set_cons_zero])
        refine wpTwo_takeT (i := 15) (v := (.bool b)) rfl (by kernel_rfl) (by kernel_rfl) (by kernel_rfl) (fun _ _ _ h => h) ⟨by rfl, ?_⟩ HI.out.keeps ?_
        · intro w hTw
          have hload := Keeps.cell hTw HLL.out (by have := HLLn.out; exact this)
          clear hTw
          go_simp
        (try simp only [Act.put, List.getElem_toArray, List.getElem_cons_succ, List.getElem_cons_zero, List.setIfInBounds_toArray, List.set_cons_succ, List.set_cons_zero])
        refine wpTwo_ready (rs := [7, 16]) (by kernel_rfl) (by simp) ?_
        refine (AllTwo.cons rfl (fun K hK => ?_) (AllTwo.cons rfl (fun K hK => ?_) AllTwo.nil))
        · go_simp
          obtain ⟨X1, hX1⟩ : ∃ X : World, X = X0.alloc (.cells #[.int .u64 t] 27) := ⟨_, rfl⟩
          rw [← hX1]
          have HI' := Lib.hid (show WInv wo z vw vl f i vw _ i vl _ X1 by rw [hX1]; exact HI.out.alloc _)
          refine hK.out _ _ ⟨HI'.out.keeps, fun _ _ => ⟨(mbox_cells HI'.out.box).1.1, (mbox_cells HI'.out.box).1.2.1⟩⟩ ?_
          clear hK K
          (try simp only [Act.put, List.getElem_toArray, List.getElem_cons_succ, List.getElem_cons_zero, List.setIfInBounds_toArray, List.set_cons_succ, List.set_cons_zero])
          have HNW := Lib.hid (show X1.heap[X0.heap.size]? = some (.cells #[.int .u64 t] 27 (0, 0)) by rw [hX1]; exact World.alloc_heap_new _ _)
          have HNWN := Lib.hid (show some X0.heap.size ≠ Value.ownBlock vl from HI.out.newL (Nat.le_refl _))
          clear hX1 HI
          have HI := HI'
          clear HI'
          refine wpTwo_ready (rs := [8, 16]) (by kernel_rfl) (by simp) ?_
          refine (AllTwo.cons rfl (fun K hK => ?_) (AllTwo.cons rfl (fun K hK => ?_) AllTwo.nil))
          · refine step_append_lies _ (by rfl) _ _ _ (by rfl) wo.heap.size 27 iw (.int .u64 0) 1 8 Try.underlying24 hiw hzw0 hzw1 hzw2 rfl (by decide) vw i _ (by rfl) HI.out.words ⟨X0.heap.size, 0, none⟩ 1 1 [.int .u64 t] (by rfl) (by rfl) (World.news_of_block HNW.out) (by simp [Value.oneCell']) (by decide) (by unfold maxLen; omega) (by omega) HI.out.base _ rfl ?_
            intro gw capw X2 hown hgrow hat hlt
            have HI' := Lib.hid (HI.out.growW hgrow hown)
            refine hK.out _ _ ⟨HI'.out.keeps, fun _ _ => ⟨(mbox_cells HI'.out.box).1.1, (mbox_cells HI'.out.box).1.2.1⟩⟩ ?_
            clear hK K
            (try simp only [Act.put, List.getElem_toArray, List.getElem_cons_succ, List.getElem_cons_zero, List.setIfInBounds_toArray, List.set_cons_succ, List.set_cons_zero])
            clear hown hgrow hat hlt HI
            have HI := HI'
            clear HI'
            refine wpTwo_takeT (i := 18) (v := (.pointer (some ⟨z, 0, none⟩))) rfl (by kernel_rfl) (by kernel_rfl) (by kernel_rfl) (fun _ _ _ h => h) ⟨by rfl, ?_⟩ HI.out.keeps ?_
            · intro w _
              go_simp
            (try simp only [Act.put, List.getElem_toArray, List.getElem_cons_succ, List.getElem_cons_zero, List.setIfInBounds_toArray, List.set_cons_succ, List.set_cons_zero])
            refine wpTwo_ready (rs := [16]) (by kernel_rfl) (by simp) ?_
            refine (AllTwo.cons rfl (fun K hK => ?_) AllTwo.nil)
            go_simp
            obtain ⟨X3, hX3⟩ : ∃ X : World, X = X2.alloc (.cells #[.bool b] 4) := ⟨_, rfl⟩
            rw [← hX3]
            have HI' := Lib.hid (show WInv wo z vw vl f (i + 1) (.slice (some ⟨gw, 0, none⟩) (i + 1) capw) _ i vl _ X3 by rw [hX3]; exact HI.out.alloc _)
            refine hK.out _ _ ⟨HI'.out.keeps, fun _ _ => ⟨(mbox_cells HI'.out.box).1.1, (mbox_cells HI'.out.box).1.2.1⟩⟩ ?_
            clear hK K
            (try simp only [Act.put, List.getElem_toArray, List.getElem_cons_succ, List.getElem_cons_zero, List.setIfInBounds_toArray, List.set_cons_succ, List.set_cons_zero])
            have HNL := Lib.hid (show X3.heap[X2.heap.size]? = some (.cells #[.bool b] 4 (0, 0)) by rw [hX3]; exact World.alloc_heap_new _ _)
            have HNLN := Lib.hid (show some X2.heap.size ≠ Value.ownBlock (.slice (some ⟨gw, 0, none⟩) (i + 1) capw) from HI.out.newW (Nat.le_refl _))
            clear hX3 HI
            have HI := HI'
            clear HI'
            refine wpTwo_ready (rs := [17]) (by kernel_rfl) (by simp) ?_
            refine (AllTwo.cons rfl (fun K hK => ?_) AllTwo.nil)
            refine step_append_lies _ (by rfl) _ _ _ (by rfl) wo.heap.size 4 il (.bool false) 1 1 Try.underlying42 hil hzl0 hzl1 hzl2 rfl (by decide) vl i _ (by rfl) HI.out.lives ⟨X2.heap.size, 0, none⟩ 1 1 [.bool b] (by rfl) (by rfl) (World.news_of_block HNL.out) (by simp [Value.oneCell']) (by decide) (by unfold maxLen; omega) (by omega) HI.out.base _ rfl ?_
            intro gl capl X4 hown hgrow hat hlt
            have HI' := Lib.hid (HI.out.growL hgrow hown)
            refine hK.out _ _ ⟨HI'.out.keeps, fun _ _ => ⟨(mbox_cells HI'.out.box).1.1, (mbox_cells HI'.out.box).1.2.1⟩⟩ ?_
            clear hK K
            (try simp only [Act.put, List.getElem_toArray, List.getElem_cons_succ, List.getElem_cons_zero, List.setIfInBounds_toArray, List.set_cons_succ, List.set_cons_zero])
            clear hown hgrow hat hlt HI
            have HI := HI'
            clear HI'
            refine wpTwo_ready (rs := [19]) (by kernel_rfl) (by simp) ?_
            refine (AllTwo.cons rfl (fun K hK => ?_) AllTwo.nil)
            obtain ⟨⟨hz0, hz1, _⟩, hf0, hf1, _⟩ := mbox_cells HI.out.box
            go_simp
            refine hK.out _ _ ⟨HI.out.keeps.trans (Keeps.setCell _ (S := fun q => q = z) (p := ⟨z, 0, none⟩) rfl _), fun h _ => absurd h (by decide)⟩ ?_
            clear hK K
            (try simp only [Act.put, List.getElem_toArray, List.getElem_cons_succ, List.getElem_cons_zero, List.setIfInBounds_toArray, List.set_cons_succ, List.set_cons_zero])
            refine wpTwo_ready (rs := [20]) (by kernel_rfl) (by simp) ?_
            refine (AllTwo.cons rfl (fun K hK => ?_) AllTwo.nil)
            go_simp
            refine hK.out _ _ ⟨HI.out.keeps.trans (Keeps.setCell _ (S := fun q => q = z) (p := ⟨z, 0, none⟩) rfl _), fun h _ => absurd h (by decide)⟩ ?_
            clear hK K
            (try simp only [Act.put, List.getElem_toArray, List.getElem_cons_succ, List.getElem_cons_zero, List.setIfInBounds_toArray, List.set_cons_succ, List.set_cons_zero])
            refine wpTwo_ready (rs := [21]) (by kernel_rfl) (by simp) ?_
            refine (AllTwo.cons rfl (fun K hK => ?_) AllTwo.nil)
            go_simp
            refine hK.out _ _ ⟨(HI.out.keeps.trans (Keeps.setCell _ (S := fun q => q = z) (p := ⟨z, 0, none⟩) rfl _)).trans (Keeps.setCell _ (S := fun q => q = z) (p := ⟨z, 1, none⟩) rfl _), fun h _ => absurd h (by decide)⟩ ?_
            clear hK K
            (try simp only [Act.put, List.getElem_toArray, List.getElem_cons_succ, List.getElem_cons_zero, List.setIfInBounds_toArray, List.set_cons_succ, List.set_cons_zero])
            refine wpTwo_end (by kernel_rfl) ?_ _
            have HE := Lib.hid (HI.out.store (.slice (some ⟨gw, 0, none⟩) (i + 1) capw) (.slice (some ⟨gl, 0, none⟩) (i + 1) capl))
            clear hz0 hz1 hf0 hf1 HI
            go_wp2
            go_roundw
            case rel => exact ⟨i + 1, _, _, by omega, by go_num, by rw [← HSW.out, ← HSL.out, HVW'.out, HVL'.out]; exact HE.out⟩
            case measure => simp [intOf]; omega
          · go_simp
            obtain ⟨X2, hX2⟩ : ∃ X : World, X = X1.alloc (.cells #[.bool b] 4) := ⟨_, rfl⟩
            rw [← hX2]
            have HI' := Lib.hid (show WInv wo z vw vl f i vw _ i vl _ X2 by rw [hX2]; exact HI.out.alloc _)
            refine hK.out _ _ ⟨HI'.out.keeps, fun _ _ => ⟨(mbox_cells HI'.out.box).1.1, (mbox_cells HI'.out.box).1.2.1⟩⟩ ?_
            clear hK K
            (try simp only [Act.put, List.getElem_toArray, List.getElem_cons_succ, List.getElem_cons_zero, List.setIfInBounds_toArray, List.set_cons_succ, List.set_cons_zero])
            have HNL := Lib.hid (show X2.heap[X1.heap.size]? = some (.cells #[.bool b] 4 (0, 0)) by rw [hX2]; exact World.alloc_heap_new _ _)
            have HNLN := Lib.hid (show some X1.heap.size ≠ Value.ownBlock vw from HI.out.newW (Nat.le_refl _))
            have HNW' := Lib.hid (show X2.heap[X0.heap.size]? = some _ by rw [hX2]; exact heap_alloc HNW.out _)
            clear HNW
            have HNW := HNW'
            clear HNW'
            clear hX2 HI
            have HI := HI'
            clear HI'
            refine wpTwo_ready (rs := [8]) (by kernel_rfl) (by simp) ?_
            refine (AllTwo.cons rfl (fun K hK => ?_) AllTwo.nil)
            refine step_append_lies _ (by rfl) _ _ _ (by rfl) wo.heap.size 27 iw (.int .u64 0) 1 8 Try.underlying24 hiw hzw0 hzw1 hzw2 rfl (by decide) vw i _ (by rfl) HI.out.words ⟨X0.heap.size, 0, none⟩ 1 1 [.int .u64 t] (by rfl) (by rfl) (World.news_of_block HNW.out) (by simp [Value.oneCell']) (by decide) (by unfold maxLen; omega) (by omega) HI.out.base _ rfl ?_
            intro gw capw X3 hown hgrow hat hlt
            have HI' := Lib.hid (HI.out.growW hgrow hown)
            refine hK.out _ _ ⟨HI'.out.keeps, fun _ _ => ⟨(mbox_cells HI'.out.box).1.1, (mbox_cells HI'.out.box).1.2.1⟩⟩ ?_
            clear hK K
            (try simp only [Act.put, List.getElem_toArray, List.getElem_cons_succ, List.getElem_cons_zero, List.setIfInBounds_toArray, List.set_cons_succ, List.set_cons_zero])
            have HNL' := Lib.hid (heap_grown hgrow HNL.out HNLN.out)
            clear HNL
            have HNL := HNL'
            clear HNL'
            clear hown hgrow hat hlt HI
            have HI := HI'
            clear HI'
            refine wpTwo_takeT (i := 18) (v := (.pointer (some ⟨z, 0, none⟩))) rfl (by kernel_rfl) (by kernel_rfl) (by kernel_rfl) (fun _ _ _ h => h) ⟨by rfl, ?_⟩ HI.out.keeps ?_
            · intro w _
              go_simp
            (try simp only [Act.put, List.getElem_toArray, List.getElem_cons_succ, List.getElem_cons_zero, List.setIfInBounds_toArray, List.set_cons_succ, List.set_cons_zero])
            refine wpTwo_ready (rs := [17]) (by kernel_rfl) (by simp) ?_
            refine (AllTwo.cons rfl (fun K hK => ?_) AllTwo.nil)
            refine step_append_lies _ (by rfl) _ _ _ (by rfl) wo.heap.size 4 il (.bool false) 1 1 Try.underlying42 hil hzl0 hzl1 hzl2 rfl (by decide) vl i _ (by rfl) HI.out.lives ⟨X1.heap.size, 0, none⟩ 1 1 [.bool b] (by rfl) (by rfl) (World.news_of_block HNL.out) (by simp [Value.oneCell']) (by decide) (by unfold maxLen; omega) (by omega) HI.out.base _ rfl ?_
            intro gl capl X4 hown hgrow hat hlt
            have HI' := Lib.hid (HI.out.growL hgrow hown)
            refine hK.out _ _ ⟨HI'.out.keeps, fun _ _ => ⟨(mbox_cells HI'.out.box).1.1, (mbox_cells HI'.out.box).1.2.1⟩⟩ ?_
            clear hK K
            (try simp only [Act.put, List.getElem_toArray, List.getElem_cons_succ, List.getElem_cons_zero, List.setIfInBounds_toArray, List.set_cons_succ, List.set_cons_zero])
            clear hown hgrow hat hlt HI
            have HI := HI'
            clear HI'
            refine wpTwo_ready (rs := [19]) (by kernel_rfl) (by simp) ?_
            refine (AllTwo.cons rfl (fun K hK => ?_) AllTwo.nil)
            obtain ⟨⟨hz0, hz1, _⟩, hf0, hf1, _⟩ := mbox_cells HI.out.box
            go_simp
            refine hK.out _ _ ⟨HI.out.keeps.trans (Keeps.setCell _ (S := fun q => q = z) (p := ⟨z, 0, none⟩) rfl _), fun h _ => absurd h (by decide)⟩ ?_
            clear hK K
            (try simp only [Act.put, List.getElem_toArray, List.getElem_cons_succ, List.getElem_cons_zero, List.setIfInBounds_toArray, List.set_cons_succ, List.set_cons_zero])
            refine wpTwo_ready (rs := [20]) (by kernel_rfl) (by simp) ?_
            refine (AllTwo.cons rfl (fun K hK => ?_) AllTwo.nil)
            go_simp
            refine hK.out _ _ ⟨HI.out.keeps.trans (Keeps.setCell _ (S := fun q => q = z) (p := ⟨z, 0, none⟩) rfl _), fun h _ => absurd h (by decide)⟩ ?_
            clear hK K
            (try simp only [Act.put, List.getElem_toArray, List.getElem_cons_succ, List.getElem_cons_zero, List.setIfInBounds_toArray, List.set_cons_succ, List.set_cons_zero])
            refine wpTwo_ready (rs := [21]) (by kernel_rfl) (by simp) ?_
            refine (AllTwo.cons rfl (fun K hK => ?_) AllTwo.nil)
            go_simp
            refine hK.out _ _ ⟨(HI.out.keeps.trans (Keeps.setCell _ (S := fun q => q = z) (p := ⟨z, 0, none⟩) rfl _)).trans (Keeps.setCell _ (S := fun q => q = z) (p := ⟨z, 1, none⟩) rfl _), fun h _ => absurd h (by decide)⟩ ?_
            clear hK K
            (try simp only [Act.put, List.getElem_toArray, List.getElem_cons_succ, List.getElem_cons_zero, List.setIfInBounds_toArray, List.set_cons_succ, List.set_cons_zero])
            refine wpTwo_end (by kernel_rfl) ?_ _
            have HE := Lib.hid (HI.out.store (.slice (some ⟨gw, 0, none⟩) (i + 1) capw) (.slice (some ⟨gl, 0, none⟩) (i + 1) capl))
            clear hz0 hz1 hf0 hf1 HI
            go_wp2
            go_roundw
            case rel => exact ⟨i + 1, _, _, by omega, by go_num, by rw [← HSW.out, ← HSL.out, HVW'.out, HVL'.out]; exact HE.out⟩
            case measure => simp [intOf]; omega
        · go_simp
          obtain ⟨X1, hX1⟩ : ∃ X : World, X = X0.alloc (.cells #[.bool b] 4) := ⟨_, rfl⟩
          rw [← hX1]
          have HI' := Lib.hid (show WInv wo z vw vl f i vw _ i vl _ X1 by rw [hX1]; exact HI.out.alloc _)
          refine hK.out _ _ ⟨HI'.out.keeps, fun _ _ => ⟨(mbox_cells HI'.out.box).1.1, (mbox_cells HI'.out.box).1.2.1⟩⟩ ?_
          clear hK K
          (try simp only [Act.put, List.getElem_toArray, List.getElem_cons_succ, List.getElem_cons_zero, List.setIfInBounds_toArray, List.set_cons_succ, List.set_cons_zero])
          have HNL := Lib.hid (show X1.heap[X0.heap.size]? = some (.cells #[.bool b] 4 (0, 0)) by rw [hX1]; exact World.alloc_heap_new _ _)
          have HNLN := Lib.hid (show some X0.heap.size ≠ Value.ownBlock vw from HI.out.newW (Nat.le_refl _))
          clear hX1 HI
          have HI := HI'
          clear HI'
          refine wpTwo_ready (rs := [7]) (by kernel_rfl) (by simp) ?_
          refine (AllTwo.cons rfl (fun K hK => ?_) AllTwo.nil)
          go_simp
          obtain ⟨X2, hX2⟩ : ∃ X : World, X = X1.alloc (.cells #[.int .u64 t] 27) := ⟨_, rfl⟩
          rw [← hX2]
          have HI' := Lib.hid (show WInv wo z vw vl f i vw _ i vl _ X2 by rw [hX2]; exact HI.out.alloc _)
          refine hK.out _ _ ⟨HI'.out.keeps, fun _ _ => ⟨(mbox_cells HI'.out.box).1.1, (mbox_cells HI'.out.box).1.2.1⟩⟩ ?_
          clear hK K
          (try simp only [Act.put, List.getElem_toArray, List.getElem_cons_succ, List.getElem_cons_zero, List.setIfInBounds_toArray, List.set_cons_succ, List.set_cons_zero])
          have HNW := Lib.hid (show X2.heap[X1.heap.size]? = some (.cells #[.int .u64 t] 27 (0, 0)) by rw [hX2]; exact World.alloc_heap_new _ _)
          have HNWN := Lib.hid (show some X1.heap.size ≠ Value.ownBlock vl from HI.out.newL (Nat.le_refl _))
          have HNL' := Lib.hid (show X2.heap[X0.heap.size]? = some _ by rw [hX2]; exact heap_alloc HNL.out _)
          clear HNL
          have HNL := HNL'
          clear HNL'
          clear hX2 HI
          have HI := HI'
          clear HI'
          refine wpTwo_ready (rs := [8]) (by kernel_rfl) (by simp) ?_
          refine (AllTwo.cons rfl (fun K hK => ?_) AllTwo.nil)
          refine step_append_lies _ (by rfl) _ _ _ (by rfl) wo.heap.size 27 iw (.int .u64 0) 1 8 Try.underlying24 hiw hzw0 hzw1 hzw2 rfl (by decide) vw i _ (by rfl) HI.out.words ⟨X1.heap.size, 0, none⟩ 1 1 [.int .u64 t] (by rfl) (by rfl) (World.news_of_block HNW.out) (by simp [Value.oneCell']) (by decide) (by unfold maxLen; omega) (by omega) HI.out.base _ rfl ?_
          intro gw capw X3 hown hgrow hat hlt
          have HI' := Lib.hid (HI.out.growW hgrow hown)
          refine hK.out _ _ ⟨HI'.out.keeps, fun _ _ => ⟨(mbox_cells HI'.out.box).1.1, (mbox_cells HI'.out.box).1.2.1⟩⟩ ?_
          clear hK K
          (try simp only [Act.put, List.getElem_toArray, List.getElem_cons_succ, List.getElem_cons_zero, List.setIfInBounds_toArray, List.set_cons_succ, List.set_cons_zero])
          have HNL' := Lib.hid (heap_grown hgrow HNL.out HNLN.out)
          clear HNL
          have HNL := HNL'
          clear HNL'
          clear hown hgrow hat hlt HI
          have HI := HI'
          clear HI'
          refine wpTwo_takeT (i := 18) (v := (.pointer (some ⟨z, 0, none⟩))) rfl (by kernel_rfl) (by kernel_rfl) (by kernel_rfl) (fun _ _ _ h => h) ⟨by rfl, ?_⟩ HI.out.keeps ?_
          · intro w _
            go_simp
          (try simp only [Act.put, List.getElem_toArray, List.getElem_cons_succ, List.getElem_cons_zero, List.setIfInBounds_toArray, List.set_cons_succ, List.set_cons_zero])
          refine wpTwo_ready (rs := [17]) (by kernel_rfl) (by simp) ?_
          refine (AllTwo.cons rfl (fun K hK => ?_) AllTwo.nil)
          refine step_append_lies _ (by rfl) _ _ _ (by rfl) wo.heap.size 4 il (.bool false) 1 1 Try.underlying42 hil hzl0 hzl1 hzl2 rfl (by decide) vl i _ (by rfl) HI.out.lives ⟨X0.heap.size, 0, none⟩ 1 1 [.bool b] (by rfl) (by rfl) (World.news_of_block HNL.out) (by simp [Value.oneCell']) (by decide) (by unfold maxLen; omega) (by omega) HI.out.base _ rfl ?_
          intro gl capl X4 hown hgrow hat hlt
          have HI' := Lib.hid (HI.out.growL hgrow hown)
          refine hK.out _ _ ⟨HI'.out.keeps, fun _ _ => ⟨(mbox_cells HI'.out.box).1.1, (mbox_cells HI'.out.box).1.2.1⟩⟩ ?_
          clear hK K
          (try simp only [Act.put, List.getElem_toArray, List.getElem_cons_succ, List.getElem_cons_zero, List.setIfInBounds_toArray, List.set_cons_succ, List.set_cons_zero])
          clear hown hgrow hat hlt HI
          have HI := HI'
          clear HI'
          refine wpTwo_ready (rs := [19]) (by kernel_rfl) (by simp) ?_
          refine (AllTwo.cons rfl (fun K hK => ?_) AllTwo.nil)
          obtain ⟨⟨hz0, hz1, _⟩, hf0, hf1, _⟩ := mbox_cells HI.out.box
          go_simp
          refine hK.out _ _ ⟨HI.out.keeps.trans (Keeps.setCell _ (S := fun q => q = z) (p := ⟨z, 0, none⟩) rfl _), fun h _ => absurd h (by decide)⟩ ?_
          clear hK K
          (try simp only [Act.put, List.getElem_toArray, List.getElem_cons_succ, List.getElem_cons_zero, List.setIfInBounds_toArray, List.set_cons_succ, List.set_cons_zero])
          refine wpTwo_ready (rs := [20]) (by kernel_rfl) (by simp) ?_
          refine (AllTwo.cons rfl (fun K hK => ?_) AllTwo.nil)
          go_simp
          refine hK.out _ _ ⟨HI.out.keeps.trans (Keeps.setCell _ (S := fun q => q = z) (p := ⟨z, 0, none⟩) rfl _), fun h _ => absurd h (by decide)⟩ ?_
          clear hK K
          (try simp only [Act.put, List.getElem_toArray, List.getElem_cons_succ, List.getElem_cons_zero, List.setIfInBounds_toArray, List.set_cons_succ, List.set_cons_zero])
          refine wpTwo_ready (rs := [21]) (by kernel_rfl) (by simp) ?_
          refine (AllTwo.cons rfl (fun K hK => ?_) AllTwo.nil)
          go_simp
          refine hK.out _ _ ⟨(HI.out.keeps.trans (Keeps.setCell _ (S := fun q => q = z) (p := ⟨z, 0, none⟩) rfl _)).trans (Keeps.setCell _ (S := fun q => q = z) (p := ⟨z, 1, none⟩) rfl _), fun h _ => absurd h (by decide)⟩ ?_
          clear hK K
          (try simp only [Act.put, List.getElem_toArray, List.getElem_cons_succ, List.getElem_cons_zero, List.setIfInBounds_toArray, List.set_cons_succ, List.set_cons_zero])
          refine wpTwo_end (by kernel_rfl) ?_ _
          have HE := Lib.hid (HI.out.store (.slice (some ⟨gw, 0, none⟩) (i + 1) capw) (.slice (some ⟨gl, 0, none⟩) (i + 1) capl))
          clear hz0 hz1 hf0 hf1 HI
          go_wp2
          go_roundw
          case rel => exact ⟨i + 1, _, _, by omega, by go_num, by rw [← HSW.out, ← HSL.out, HVW'.out, HVL'.out]; exact HE.out⟩
          case measure => simp [intOf]; omega
    · have hii : i = ws.length := by omega
      have hw := HR.out.words
      have hl := HR.out.lives
      rw [List.take_of_length_le (by simp; omega)] at hw
      rw [List.take_of_length_le (by have := HLEN.out; simp; omega)] at hl
      obtain ⟨pw, cw, rfl⟩ := owns_slice hw
      obtain ⟨pl, cl, rfl⟩ := owns_slice hl
      have h2z := HHZ.out
      have hzl := HR.out.lt
      obtain ⟨⟨hz0, hz1, hz2⟩, _⟩ := mbox_cells HR.out.box
      obtain ⟨⟨hr0, hr1, hr2⟩, hs0, hs1, hs2⟩ := mbox_cells (HRB.out.keeps HR.out.keeps (fun h => absurd (show W.heap.size + 1 = z from h) (by omega)))
      have hk : Keeps (fun q => q = W.heap.size + 1) wr (((wr.setCell ⟨W.heap.size + 1, 0, none⟩ (.slice pw i cw)).setCell ⟨W.heap.size + 1, 1, none⟩ (.slice pl i cl)).setCell ⟨W.heap.size + 1, 2, none⟩ (.bool f)) :=
        ((Keeps.setCell wr (S := fun q => q = W.heap.size + 1) (p := ⟨W.heap.size + 1, 0, none⟩) rfl _).trans (Keeps.setCell _ (S := fun q => q = W.heap.size + 1) (p := ⟨W.heap.size + 1, 1, none⟩) rfl _)).trans (Keeps.setCell _ (S := fun q => q = W.heap.size + 1) (p := ⟨W.heap.size + 1, 2, none⟩) rfl _)
      have hBr : Below W.heap.size W wr := HB.out.trans (HR.out.keeps.below HB.out.size (fun q hq => by subst hq; omega))
      have ho1 := (hk.row' hw (fun q hq => by subst hq; omega)).mono (base' := W.heap.size) HB.out.size
      have ho2 := (hk.row' hl (fun q hq => by subst hq; omega)).mono (base' := W.heap.size) HB.out.size
      have HG := Lib.hid (own_gives (f := f) (show (ws.set x u).length = i by simp; omega) (show (ls.set x d).length = i by have := HLEN.out; simp; omega) ho1 ho2)
      have HBE := Lib.hid (hBr.trans (hk.below hBr.size (fun q hq => by subst hq; omega)))
      clear hii hw hl hk hBr ho1 ho2 h2z
      go_wp2
      exact bodyPost_ret (v := .agg #[.slice pw i cw, .slice pl i cl, .bool f]) (by simp [results, Try.results84, go_sem, hr0, hr1, hr2]) rfl ⟨HG.out, HBE.out⟩

end Go.Proofs.Ythkfjgfhaicfkaa
/-
  Live and Free, of the document's answers of layer 2: the memory with so many words live, or free; what was in memory stays.
  Conditions: the memory has as many words as truth values, at most 4096, and the words are there.
-/
namespace Go.Proofs.Ythkfjgfhaicfkaa
open Go.RowKit Go.Shelf

/-- A memory's value reads so, whatever becomes of the blocks z and z + 1. -/
def Firm (z : Nat) (wr : World) (v : Value) (ws : List Int) (ls : List Bool) (f : Bool) : Prop := ∀ w2, Keeps (fun q => q = z ∨ q = z + 1) wr w2 → MemAt w2 v ws ls f
theorem Firm.now {z : Nat} {wr : World} {v : Value} {ws : List Int} {ls : List Bool} {f : Bool} (h : Firm z wr v ws ls f) : MemAt wr v ws ls f := h wr (Keeps.refl _ _)
theorem Firm.later {z : Nat} {wr w2 : World} {v : Value} {ws : List Int} {ls : List Bool} {f : Bool} (h : Firm z wr v ws ls f) (hk : Keeps (fun q => q = z ∨ q = z + 1) wr w2) : Firm z w2 v ws ls f := fun w3 h3 => h w3 (hk.trans h3)
theorem Firm.of_owns {z B : Nat} {w : World} {v0 v1 : Value} {ws : List Int} {ls : List Bool} {f : Bool} (h0 : w.ownsRow B 27 1 v0 ws.length (ws.map (Value.int .u64))) (h1 : w.ownsRow B 4 1 v1 ls.length (ls.map Value.bool)) (hz : z + 1 < B) : Firm z w (.agg #[v0, v1, .bool f]) ws ls f := fun w2 hk =>
  ⟨_, _, rfl, nums_of_owns rfl (hk.row' h0 (fun q hq => by rcases hq with rfl | rfl <;> omega)), bools_of_owns rfl (hk.row' h1 (fun q hq => by rcases hq with rfl | rfl <;> omega))⟩
theorem Firm.of_old {W w : World} {v : Value} {ws : List Int} {ls : List Bool} {f : Bool} (h : MemAt W v ws ls f) (hb : Below W.heap.size W w) : Firm W.heap.size w v ws ls f := fun w2 hk =>
  h.below (hb.trans (hk.below hb.size (fun q hq => by rcases hq with rfl | rfl <;> omega)))

end Go.Proofs.Ythkfjgfhaicfkaa
namespace Go.Proofs.Ythkfjgfhaicfkaa
open Go.RowKit Go.Shelf

/-- What holds while the rows are written over. -/
structure SpInv (B z : Nat) (vw vl : Value) (f : Bool) (n m : Nat) (us : List Int) (ms : List Bool) (W w : World) : Prop where
  box : MBox w z vw vl f
  words : w.ownsRow B 27 1 vw n (us.map (Value.int .u64))
  lives : w.ownsRow B 4 1 vl m (ms.map Value.bool)
  keeps : Keeps (fun q => vw.ownBlock = some q ∨ vl.ownBlock = some q) W w
theorem SpInv.drew {B z : Nat} {vw vl : Value} {f : Bool} {n m : Nat} {us : List Int} {ms : List Bool} {W w : World} (h : SpInv B z vw vl f n m us ms W w) : SpInv B z vw vl f n m us ms W w.drew := ⟨h.box, h.words.drew, h.lives.drew, h.keeps.drewN 1⟩

end Go.Proofs.Ythkfjgfhaicfkaa
