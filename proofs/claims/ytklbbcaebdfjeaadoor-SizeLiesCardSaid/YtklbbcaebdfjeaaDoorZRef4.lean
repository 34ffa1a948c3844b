/-
  The document's answer which rows of blocks are apart.
  Conditions: the ranges of Go's types; the row is no longer than its room.
-/
import Derived.Test.YtklbbcaebdfjeaaDoorZRef3
namespace Go.Proofs.YtklbbcaebdfjeaaDoor
open Go.RowKit Go.Shelf
attribute [local go_sem] Oper.semAt_some

/-- The q-th block. -/
def bg (bs : List (Int × Int)) (q : Nat) : Int × Int := bs.getD q (0, 0)
theorem bg_get {bs : List (Int × Int)} {q : Nat} (h : q < bs.length) : bs[q] = bg bs q := by unfold bg; rw [List.getD_eq_getElem?_getD, List.getElem?_eq_getElem h]; rfl
theorem apB_true {bs : List (Int × Int)} (h1 : ∀ q, q < bs.length → mayB (bg bs q).1 (bg bs q).2 = true) (h2 : ∀ q q', q' < q → q < bs.length → ovB (bg bs q').1 (bg bs q').2 (bg bs q).1 (bg bs q).2 = false) : apB bs = true := by
  refine (apB_iff _).2 ⟨fun b hb => ?_, List.pairwise_iff_getElem.2 fun i j hi hj hij => ?_⟩
  · obtain ⟨i, hi, rfl⟩ := List.mem_iff_getElem.1 hb
    rw [bg_get hi]; exact h1 i hi
  · rw [bg_get hi, bg_get hj]; exact h2 j i hij hj
theorem apB_may {bs : List (Int × Int)} {q : Nat} (hq : q < bs.length) (h : mayB (bg bs q).1 (bg bs q).2 = false) : apB bs = false := by
  cases ha : apB bs with
  | false => rfl
  | true =>
    have := ((apB_iff _).1 ha).1 bs[q] (List.getElem_mem hq)
    rw [bg_get hq, h] at this
    cases this
theorem apB_ov {bs : List (Int × Int)} {q q' : Nat} (hqq : q' < q) (hq : q < bs.length) (h : ovB (bg bs q').1 (bg bs q').2 (bg bs q).1 (bg bs q).2 = true) : apB bs = false := by
  cases ha : apB bs with
  | false => rfl
  | true =>
    have := List.pairwise_iff_getElem.1 ((apB_iff _).1 ha).2 q' q (by omega) hq hqq
    rw [bg_get (by omega), bg_get hq, h] at this
    cases this

set_option maxRecDepth 100000 in
set_option maxHeartbeats 8000000 in
theorem rApart_c (p : Option Addr) (n c : Nat) (bs : List (Int × Int)) (W : World) (hv : BlksAt W (.slice p n c) bs) (hc : n ≤ c) (hn : n ≤ 1000000) : Calls Tryd.prog 23 #[.slice p n c] W fun e w' => e = .returned (.bool (apB bs)) ∧ Below W.heap.size W w' := by
  obtain ⟨p', cap', hv1, hcs⟩ := hv
  injection hv1 with hv1 hv2 hv3
  subst hv1 hv2 hv3
  have HCS := Lib.hid (show ∀ q, q < bs.length → ∃ b off, p = some ⟨b, off, none⟩ ∧ W.cell? ⟨b, off + q * 2, none⟩ = some (.int .i64 (bg bs q).1) ∧ W.cell? ⟨b, off + q * 2 + 1, none⟩ = some (.int .i64 (bg bs q).2) from fun q hq => by
    obtain ⟨b, off, rfl, h⟩ := hcs (by intro e; rw [e] at hq; cases hq)
    have := h q hq
    rw [bg_get hq] at this
    exact ⟨b, off, rfl, this⟩)
  have HNO := Lib.hid (fun (q : Nat) (h1 : q < bs.length) (h : mayB (bg bs q).1 (bg bs q).2 = false) => apB_may h1 h)
  have HNV := Lib.hid (fun (q q' : Nat) (h1 : q' < q) (h2 : q < bs.length) (h : ovB (bg bs q').1 (bg bs q').2 (bg bs q).1 (bg bs q).2 = true) => apB_ov h1 h2 h)
  have HYES := Lib.hid (fun (h1 : ∀ q, q < bs.length → mayB (bg bs q).1 (bg bs q).2 = true) (h2 : ∀ q q', q' < q → q < bs.length → ovB (bg bs q').1 (bg bs q').2 (bg bs q).1 (bg bs q).2 = false) => apB_true h1 h2)
  generalize bg bs = g at *
  generalize apB bs = R at *
  obtain ⟨n, hnn⟩ : ∃ n, n = bs.length := ⟨_, rfl⟩
  rw [← hnn] at HCS HNO HNV HYES hc hn ⊢
  clear hcs hnn
  go_enter Tryd.func23, Tryd.ntmps23
  go_wp2
  go_loopw [9] (fun iv wr => ∃ i : Nat, i ≤ n ∧ iv = .int .i64 (i : Int) ∧ Hid (Below W.heap.size W wr) ∧ Hid ((∀ q, q < i → mayB (g q).1 (g q).2 = true) ∧ ∀ q q', q' < q → q < i → ovB (g q').1 (g q').2 (g q).1 (g q).2 = false)) (fun iv _ => n - (intOf iv).toNat)
  case atStart => exact ⟨0, Nat.zero_le _, rfl, Below.refl _ _, fun q hq => by omega, fun q q' _ hq => by omega⟩
  case round =>
    obtain ⟨i, hi, rfl, HB, HF⟩ := hrel
    by_cases hlt : i < n
    · obtain ⟨b, off, rfl, hx, hy⟩ := HCS.out i hlt
      have hx := below_cell HB.out hx
      have hy := below_cell HB.out hy
      obtain ⟨⟨a, cc⟩, hak⟩ : ∃ f, f = g i := ⟨_, rfl⟩
      rw [← hak] at hx hy
      simp only at hx hy
      have HNOi := Lib.hid (HNO.out i hlt)
      have HNVi := Lib.hid (fun q' h => HNV.out i q' h hlt)
      rw [← hak] at HNOi HNVi
      have HAK := Lib.hid hak
      clear hak
      obtain ⟨w2, hw2⟩ : ∃ X : World, X = wr.alloc (.cells #[.int .i64 a, .int .i64 cc] 33) := ⟨_, rfl⟩
      have hB2 : Below W.heap.size W w2 := by rw [hw2]; exact HB.out.alloc HB.out.size _
      have hN2 : BBox w2 wr.heap.size a cc := by rw [hw2]; exact BBox.new _ _ _
      obtain ⟨z, hz⟩ : ∃ z, z = wr.heap.size := ⟨_, rfl⟩
      have HZ := Lib.hid hz
      obtain ⟨d0, d1⟩ := hN2.cells
      rw [← hz] at hN2
      have HN2 := Lib.hid hN2
      have HB2 := Lib.hid hB2
      rw [hw2] at d0 d1
      clear hz hB2 hN2 HB
      go_wp2_with fail
      rw [← hw2, ← HZ.out]
      clear hw2 HZ d0 d1 hx hy
      refine (rRight_c a cc w2).mono ?_
      rintro e w3 ⟨rfl, hb⟩
      have HN3 := Lib.hid (HN2.out.below hb)
      have HB3 := Lib.hid (below_then HB2.out HB2.out.size hb)
      clear hb HN2 HB2
      cases hM : mayB a cc with
      | false =>
        obtain rfl : R = false := HNOi.out hM
        go_wp2
        go_ret
        exact ⟨rfl, HB3.out⟩
      | true =>
        obtain ⟨k, m, rfl, hk, rfl, hm, -⟩ := mayB_yes hM
        have hm4 : m ≤ 4096 := by omega
        clear hm HNOi
        have hs0 : ∀ wx, (Instr.slice 30 (.slice (some ⟨b, off, none⟩) n c) none (some (.int .i64 (i : Int))) none).run Tryd.prog wx = .ok (.slice (some ⟨b, off, none⟩) i c) wx := fun wx => by
          rw [run_slice_h wx 30 _ n c Tryd.underlying30 .i64 (i : Int) (by omega) (by omega)]
          have h3 : (sizeOf (Tryd.prog.elem 30)).run Tryd.prog wx = .ok 2 wx := by go_simp
          rw [h3]
          simp [sliced, Result.andThen, Addr.add_zero']
        go_wp2
        go_loopw [21] (fun jv ws => ∃ j : Nat, j ≤ i ∧ jv = .int .i64 (j : Int) ∧ Hid (BBox ws z m k ∧ Below W.heap.size W ws) ∧ Hid (∀ q', q' < j → ovB (g q').1 (g q').2 m k = false)) (fun jv _ => i - (intOf jv).toNat)
        case atStart => exact ⟨0, Nat.zero_le _, rfl, ⟨HN3.out, HB3.out⟩, fun q' h => by omega⟩
        case round =>
          obtain ⟨j, hj, rfl, HQ, HV⟩ := hrel
          by_cases hjt : j < i
          · obtain ⟨b', off', hbe, hx, hy⟩ := HCS.out j (by omega)
            injection hbe with hbe
            injection hbe with hb1 hb2
            subst hb1 hb2
            have hx := below_cell HQ.out.2 hx
            have hy := below_cell HQ.out.2 hy
            have HM2 := Lib.hid (HF.out.1 j hjt)
            have HNVj := Lib.hid (HNVi.out j hjt)
            have HVJ := Lib.hid (fun (h : ovB (g j).1 (g j).2 m k = false) => show ∀ q', q' < j + 1 → ovB (g q').1 (g q').2 m k = false from fun q' hq' => by
              rcases Nat.lt_succ_iff_lt_or_eq.1 hq' with h' | h'
              · exact HV.out q' h'
              · subst h'; exact h)
            obtain ⟨⟨a2, c2⟩, hak2⟩ : ∃ f, f = g j := ⟨_, rfl⟩
            rw [← hak2] at hx hy HM2 HNVj HVJ
            simp only at hx hy
            obtain ⟨k2, m2, hc2, hk2, hm2, hmm2, -⟩ := mayB_yes HM2.out
            simp only at hc2 hm2
            subst hc2 hm2
            have hm24 : m2 ≤ 4096 := by omega
            obtain ⟨w5, hw5⟩ : ∃ X : World, X = wr.alloc (.cells #[.int .i64 (m2 : Int), .int .i64 (k2 : Int)] 33) := ⟨_, rfl⟩
            have hb5 : Below wr.heap.size wr w5 := by rw [hw5]; exact (Below.refl _ _).alloc (Nat.le_refl _) _
            have hN5 : BBox w5 wr.heap.size m2 k2 := by rw [hw5]; exact BBox.new _ _ _
            have HQ5 := Lib.hid (And.intro (HQ.out.1.below hb5) (below_then HQ.out.2 HQ.out.2.size hb5))
            obtain ⟨d0, d1⟩ := HQ5.out.1.cells
            obtain ⟨e0, e1⟩ := hN5.cells
            have HO := Lib.hid (rOver_c m2 k2 m k hk2 hk hm24 hm4 HM2.out hM w5)
            rw [hw5] at d0 d1 e0 e1
            clear hak2 hmm2 hb5 hN5 HQ HV
            go_wp2_with fail
            rw [← hw5]
            clear hw5 d0 d1 e0 e1 hx hy
            refine HO.out.mono ?_
            rintro e w6 ⟨rfl, hb⟩
            have HQ6 := Lib.hid (And.intro (HQ5.out.1.below hb) (below_then HQ5.out.2 HQ5.out.2.size hb))
            clear hb HQ5 HO
            cases ho : ovB (m2 : Int) (k2 : Int) (m : Int) (k : Int) with
            | true =>
              obtain rfl : R = false := HNVj.out ho
              have HBE := Lib.hid HQ6.out.2
              go_wp2
              go_ret
              exact ⟨rfl, HBE.out⟩
            | false =>
              have HV6 := Lib.hid (HVJ.out ho)
              go_wp2
              go_roundw
              case rel => exact ⟨j + 1, by omega, by go_num, HQ6, HV6⟩
              case measure => simp [intOf]; omega
          · obtain rfl : j = i := by omega
            have HF2 := Lib.hid (show (∀ q, q < j + 1 → mayB (g q).1 (g q).2 = true) ∧ ∀ q q', q' < q → q < j + 1 → ovB (g q').1 (g q').2 (g q).1 (g q).2 = false from ⟨fun q hq => by
              rcases Nat.lt_succ_iff_lt_or_eq.1 hq with h' | h'
              · exact HF.out.1 q h'
              · subst h'; rw [← HAK.out]; exact hM, fun q q' hq' hq => by
              rcases Nat.lt_succ_iff_lt_or_eq.1 hq with h' | h'
              · exact HF.out.2 q q' hq' h'
              · subst h'; rw [← HAK.out]; exact HV.out q' hq'⟩)
            have HBE := Lib.hid HQ.out.2
            go_wp2
            go_roundw
            case rel => exact ⟨j + 1, by omega, by go_num, HBE, HF2⟩
            case measure => simp [intOf]; omega
    · obtain rfl : i = n := by omega
      obtain rfl : R = true := HYES.out HF.out.1 HF.out.2
      go_wp2
      go_ret
      exact ⟨rfl, HB.out⟩

end Go.Proofs.YtklbbcaebdfjeaaDoor
