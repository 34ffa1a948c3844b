/-
  SizeLies returns true for every row of blocks, and class; what was in memory stays.
  Conditions: the package's table of sizes is as it was laid; the ranges of Go's types.
-/
import Derived.Test.YtklbbcaebdfjeaaDoorZWakes
import Derived.Test.YtklbbcaebdfjeaaDoorZRef4
namespace Go.Proofs.YtklbbcaebdfjeaaDoor
open Go.RowKit Go.Shelf
attribute [local go_sem] Oper.semAt_some

/-- The cells of a row of blocks. -/
def flatI : List (Int × Int) → List Value
  | [] => []
  | p :: t => .int .i64 p.1 :: .int .i64 p.2 :: flatI t
theorem flatI_length : ∀ l : List (Int × Int), (flatI l).length = l.length * 2
  | [] => rfl
  | p :: t => by simp only [flatI, List.length_cons, flatI_length t]; omega
theorem flatI_one : ∀ (l : List (Int × Int)), ∀ u ∈ flatI l, u.oneCell' = true
  | [], u, h => by cases h
  | p :: t, u, h => by
    simp only [flatI, List.mem_cons] at h
    rcases h with rfl | rfl | h
    · rfl
    · rfl
    · exact flatI_one t u h
theorem flatI_get : ∀ (l : List (Int × Int)) (i : Nat) (h : i < l.length), (flatI l)[i * 2]? = some (.int .i64 l[i].1) ∧ (flatI l)[i * 2 + 1]? = some (.int .i64 l[i].2)
  | p :: t, 0, _ => ⟨rfl, rfl⟩
  | p :: t, i + 1, h => by
    have := flatI_get t i (by simpa using h)
    rw [show (i + 1) * 2 = i * 2 + 1 + 1 by omega]
    simpa [flatI] using this
theorem flatI_cells {W : World} {b off : Nat} : ∀ (l : List (Int × Int)), (∀ i (h : i < l.length), W.cell? ⟨b, off + i * 2, none⟩ = some (.int .i64 l[i].1) ∧ W.cell? ⟨b, off + i * 2 + 1, none⟩ = some (.int .i64 l[i].2)) → ∀ j u, (flatI l)[j]? = some u → W.cell? ((⟨b, off, none⟩ : Addr).add j) = some u := by
  intro l hl j u hj
  have hlt : j < l.length * 2 := by
    rw [← flatI_length]
    exact (List.getElem?_eq_some_iff.1 hj).1
  obtain ⟨i, hi⟩ : ∃ i, j = i * 2 ∨ j = i * 2 + 1 := ⟨j / 2, by omega⟩
  rw [addr_add_off]
  rcases hi with rfl | rfl
  · rw [(flatI_get l i (by omega)).1] at hj
    rw [(hl i (by omega)).1, hj]
  · rw [(flatI_get l i (by omega)).2] at hj
    rw [← Nat.add_assoc, (hl i (by omega)).2, hj]
theorem blks_of_ownsI {B n : Nat} {l : List (Int × Int)} {w : World} {q : Option Addr} {d : Nat} (hl : l.length = n) (h : w.ownsRow B 33 2 (.slice q n d) n (flatI l)) : BlksAt w (.slice q n d) l ∧ n ≤ d := by
  rcases h.2 with ⟨e, h0⟩ | ⟨g, cap, cur, e, _, _, hcap, _⟩
  · injection e with e1 e2 e3
    subst e1 e3
    obtain rfl : l = [] := by rw [h0] at hl; exact List.eq_nil_of_length_eq_zero hl
    exact ⟨⟨none, 0, by rw [h0]; rfl, fun h => absurd rfl h⟩, by omega⟩
  · injection e with e1 e2 e3
    subst e1 e3
    refine ⟨⟨_, d, by rw [hl], fun _ => ⟨g, 0, rfl, fun i hi => ?_⟩⟩, hcap⟩
    obtain ⟨f0, f1⟩ := flatI_get l i hi
    have hL : (flatI l).length = n * 2 := h.1
    have c0 := h.cellAt (i * 2) (by omega)
    have c1 := h.cellAt (i * 2 + 1) (by omega)
    rw [f0] at c0
    rw [f1] at c1
    simpa using ⟨c0, c1⟩
theorem BlksAt.put2 {w : World} {y : Nat} {q : Option Addr} {n d : Nat} {bs : List (Int × Int)} (h : BlksAt w (.slice q n d) bs) (hne : ∀ a, q = some a → a.block ≠ y) (u v : Value) : BlksAt ((w.setCell ⟨y, 0, none⟩ u).setCell ⟨y, 1, none⟩ v) (.slice q n d) bs := by
  obtain ⟨p, cap, e, hc⟩ := h
  refine ⟨p, cap, e, fun hb => ?_⟩
  obtain ⟨b, off, rfl, hcs⟩ := hc hb
  injection e with e1
  have hby : b ≠ y := hne _ e1
  have hblk : ((w.setCell ⟨y, 0, none⟩ u).setCell ⟨y, 1, none⟩ v).heap[b]? = w.heap[b]? := (Below.heap_setCell _ _ _ _ hby).trans (Below.heap_setCell _ _ _ _ hby)
  exact ⟨b, off, rfl, fun i hi => ⟨(World.cell?_of_block (a := ⟨b, off + i * 2, none⟩) hblk).trans (hcs i hi).1, (World.cell?_of_block (a := ⟨b, off + i * 2 + 1, none⟩) hblk).trans (hcs i hi).2⟩⟩
theorem own_block {w : World} {B n m d s : Nat} {E : TypeId} {a : Addr} {xs : List Value} (h : w.ownsRow B E s (.slice (some a) n d) m xs) : B ≤ a.block ∧ a.block < w.heap.size := by
  rcases h.2 with ⟨e, _⟩ | ⟨g, cap, cur, e, hg, hh, _⟩
  · injection e with e1
    cases e1
  · injection e with e1
    injection e1 with e1
    subst e1
    exact ⟨hg, (Array.getElem?_eq_some_iff.1 hh).1⟩
theorem BlksAt.block {w : World} {b off n d : Nat} {bs : List (Int × Int)} (h : BlksAt w (.slice (some ⟨b, off, none⟩) n d) bs) (hne : 0 < bs.length) : b < w.heap.size := by
  obtain ⟨p, cap, e, hc⟩ := h
  obtain ⟨b', off', rfl, hcs⟩ := hc (by intro e; rw [e] at hne; cases hne)
  injection e with e1
  injection e1 with e1
  injection e1 with e1
  subst e1
  exact World.block_lt_of_cell? _ _ (hcs 0 hne).1

theorem aroundA_out {n k : Nat} {d : Int} (hM : mayB (n : Int) (k : Int) = true) (h : ¬ ((k : Int) ≤ d ∧ d < 4)) : aroundA (n : Int) (k : Int) d = (0, 0, 2) := by
  unfold aroundA arA
  rw [if_pos hM, Int.toNat_natCast, Int.toNat_natCast, if_neg h]
  rfl
theorem aroundA_in {n k j : Nat} (hM : mayB (n : Int) (k : Int) = true) (h : k ≤ j) (hj : j < 4) : aroundA (n : Int) (k : Int) (j : Int) = (((n - n % szN j : Nat) : Int), (j : Int), 0) := by
  unfold aroundA arA
  rw [if_pos hM, Int.toNat_natCast, Int.toNat_natCast, if_pos (show ((k : Nat) : Int) ≤ (j : Int) ∧ (j : Int) < 4 by omega), Int.toNat_natCast]
  rfl
/-- What stays through a round. -/
def LS (W : World) (z : Nat) (a c : Int) (v : Value) (cs : List (Int × Int)) (w : World) : Prop := BBox w z a c ∧ Tab w ∧ BlksAt w v cs ∧ Below W.heap.size W w
theorem LS.below {W : World} {z : Nat} {a c : Int} {v : Value} {cs : List (Int × Int)} {w w' : World} (h : LS W z a c v cs w) (hb : Below w.heap.size w w') : LS W z a c v cs w' := ⟨h.1.below hb, h.2.1.below hb, h.2.2.1.below hb, below_then h.2.2.2 h.2.2.2.size hb⟩

set_option maxRecDepth 100000 in
set_option maxHeartbeats 64000000 in
theorem lies_walk (v : Value) (bs : List (Int × Int)) (d : Int) (W : World) (hv : BlksAt W v bs) (hr : ∀ b ∈ bs, I64 b.1 ∧ I64 b.2) (hcap : ∀ p n c, v = .slice p n c → n ≤ c ∧ (p = none → c = 0)) (hd : I64 d) (hT : Tab W) :
    Calls Tryd.prog 5 #[v, .int .i64 d] W fun e w' => e = .returned (.bool true) ∧ Below W.heap.size W w' := by
  have HW := Lib.hid (wakes_c W hT)
  obtain ⟨p, cap, rfl, hcs⟩ := hv
  obtain ⟨hcn, hc0⟩ := hcap _ _ _ rfl
  obtain ⟨hd1, hd2⟩ := hd
  obtain ⟨n, hn⟩ : ∃ n, n = bs.length := ⟨_, rfl⟩
  have hlen : (bs.take 10).length = min n 10 := by rw [List.length_take, hn, Nat.min_comm]
  obtain ⟨k0, hk0⟩ : ∃ k, k = min n 10 := ⟨_, rfl⟩
  have hk10 : k0 ≤ 10 ∧ k0 ≤ n := by omega
  obtain ⟨cs, hcse⟩ : ∃ cs, cs = bs.take 10 := ⟨_, rfl⟩
  rw [← hcse, ← hk0] at hlen
  have HR := Lib.hid (show ∀ b ∈ cs, I64 b.1 from fun b hb => (hr b (by rw [hcse] at hb; exact List.mem_of_mem_take hb)).1)
  have HCL := Lib.hid (show ∀ X : World, Below W.heap.size W X → Calls Tryd.prog 21 #[.slice p k0 cap] X fun e w' => (∃ q dd, e = .returned (.slice q k0 dd) ∧ BlksAt w' (.slice q k0 dd) cs ∧ k0 ≤ dd) ∧ Below X.heap.size X w' from fun X hX => by
    refine (cloneB _ k0 (flatI cs) X ⟨by rw [flatI_length, hlen], p, cap, rfl, ?_⟩ (flatI_one _) (by omega)).mono fun e w' hh => ⟨?_, hh.2⟩
    · by_cases hne : bs = []
      · have hcs0 : cs = [] := by rw [hcse, hne]; rfl
        have hk00 : k0 = 0 := by rw [← hlen, hcs0]; rfl
        rcases p with _ | a
        · exact .inl ⟨rfl, hk00, hc0 rfl⟩
        · exact .inr ⟨a, rfl, fun j u hj => by rw [hcs0] at hj; cases hj⟩
      · obtain ⟨b, off, rfl, hc⟩ := hcs hne
        refine .inr ⟨_, rfl, flatI_cells cs fun i hi => ?_⟩
        have h1 := hc i (by omega)
        have h2 : cs[i] = bs[i]'(by omega) := by simp [hcse]
        rw [h2]
        exact ⟨below_cell hX h1.1, below_cell hX h1.2⟩
    · obtain ⟨v', rfl, ho⟩ := hh.1
      obtain ⟨q, dd, rfl⟩ := owns_slice ho
      exact ⟨q, dd, rfl, blks_of_ownsI hlen ho⟩)
  have hs0 : ∀ wx, (Instr.slice 30 (.slice p n cap) none (some (.int .i64 (k0 : Int))) none).run Tryd.prog wx = .ok (.slice p k0 cap) wx := fun wx => by
    rw [run_slice_h wx 30 p n cap Tryd.underlying30 .i64 (k0 : Int) (by omega) (by omega)]
    have h3 : (sizeOf (Tryd.prog.elem 30)).run Tryd.prog wx = .ok 2 wx := by go_simp
    rw [h3]
    have : Option.map (fun x : Addr => x.add 0) p = p := by cases p <;> simp [Addr.add_zero']
    simp [sliced, Result.andThen, this]
  have hm0 : ∀ wx, (Builtin.min_ #[3, 3] 3 #[.int .i64 (n : Int), .int .i64 10]).run Tryd.prog wx = .ok (.int .i64 (k0 : Int)) wx := fun wx => by
    have : (if (10 : Int) < (n : Int) then (10 : Int) else n) = (k0 : Int) := by rw [hk0]; split <;> omega
    simp [Builtin.min_, Builtin.min2, this]
  rw [← hn]
  rw [← hn] at hcn
  have HT := Lib.hid hT
  clear hcs hr hcap hT hk0 hn hcse hc0
  go_enter Tryd.func5, Tryd.ntmps5
  go_wp2_with fail
  refine HW.out.mono ?_
  rintro e w1 ⟨rfl, hb⟩
  have HB := Lib.hid hb
  clear HW hb
  go_wp2_with fail
  refine (HCL.out w1 HB.out).mono ?_
  rintro e w2 ⟨⟨q, dd, rfl, hbl, hkd⟩, hb⟩
  have HS := Lib.hid (And.intro (HT.out.below (HB.out.trans (hb.mono HB.out.size))) (And.intro hbl (below_then HB.out HB.out.size hb)))
  clear hbl hb HB HCL HT hs0 hm0
  have HA := Lib.hid (apart_c _ cs w2 HS.out.2.1 HR.out (by omega) HS.out.1)
  generalize hRR : apB cs = R at *
  have HRA := Lib.hid (fun (X : World) (h : BlksAt X (.slice q k0 dd) cs) => rApart_c q k0 dd cs X h hkd (by omega))
  rw [hRR] at HRA
  clear hRR
  have hne : (R != R) = false := by simp
  go_wp2_with fail
  refine HA.out.mono ?_
  rintro e w3 ⟨rfl, hb⟩
  have HS := Lib.hid (And.intro (HS.out.1.below hb) (And.intro (HS.out.2.1.below hb) (below_then HS.out.2.2 HS.out.2.2.size hb)))
  clear HA hb
  go_wp2_with fail
  refine (HRA.out _ HS.out.2.1).mono ?_
  rintro e w4 ⟨rfl, hb⟩
  have HS := Lib.hid (And.intro (HS.out.1.below hb) (And.intro (HS.out.2.1.below hb) (below_then HS.out.2.2 HS.out.2.2.size hb)))
  clear HRA hb
  go_wp2
  go_loopw [33] (fun iv wr => ∃ i : Nat, i ≤ k0 ∧ iv = .int .i64 (i : Int) ∧ Hid (Tab wr ∧ BlksAt wr (.slice q k0 dd) cs ∧ Below W.heap.size W wr)) (fun iv _ => k0 - (intOf iv).toNat)
  case atStart => exact ⟨0, Nat.zero_le _, rfl, HS⟩
  case round =>
    obtain ⟨i, hi, rfl, HQ⟩ := hrel
    by_cases hlt : i < k0
    · obtain ⟨q', cap', hv, hcs⟩ := HQ.out.2.1
      rw [hlen] at hv
      injection hv with hv1 hv2 hv3
      subst hv1 hv3
      have hil : i < cs.length := by omega
      obtain ⟨b, off, rfl, hcs2⟩ := hcs (by intro e; rw [e] at hil; cases hil)
      obtain ⟨hx, hy⟩ := hcs2 i hil
      have HI := Lib.hid (HR.out cs[i] (List.getElem_mem hil))
      obtain ⟨⟨a, c⟩, hak⟩ : ∃ f, f = cs[i] := ⟨_, rfl⟩
      rw [← hak] at hx hy HI
      simp only at hx hy HI
      clear hcs hcs2 hv2 hak
      obtain ⟨w5, hw5⟩ : ∃ X : World, X = wr.alloc (.cells #[.int .i64 a, .int .i64 c] 33) := ⟨_, rfl⟩
      have hb5 : Below wr.heap.size wr w5 := by rw [hw5]; exact (Below.refl _ _).alloc (Nat.le_refl _) _
      have hN5 : BBox w5 wr.heap.size a c := by rw [hw5]; exact BBox.new _ _ _
      obtain ⟨z, hz⟩ : ∃ z, z = wr.heap.size := ⟨_, rfl⟩
      have HZ := Lib.hid hz
      obtain ⟨d0, d1⟩ := hN5.cells
      rw [← hz] at hN5
      have HL := Lib.hid (show LS W z a c (.slice (some ⟨b, off, none⟩) k0 dd) cs w5 from ⟨hN5, HQ.out.1.below hb5, HQ.out.2.1.below hb5, below_then HQ.out.2.2 HQ.out.2.2.size hb5⟩)
      rw [hw5] at d0 d1
      clear hz hb5 hN5 HQ
      go_wp2_with fail
      rw [← hw5, ← HZ.out]
      clear hw5 HZ d0 d1 hx hy
      refine (rRight_c a c w5).mono ?_
      rintro e w6 ⟨rfl, hb⟩
      have HL := Lib.hid (HL.out.below hb)
      clear hb
      have hs1 : ∀ wx, (Instr.slice 30 (.slice (some ⟨b, off, none⟩) k0 dd) none (some (.int .i64 (i : Int))) none).run Tryd.prog wx = .ok (.slice (some ⟨b, off, none⟩) i dd) wx := fun wx => by
        rw [run_slice_h wx 30 _ k0 dd Tryd.underlying30 .i64 (i : Int) (by omega) (by omega)]
        have h3 : (sizeOf (Tryd.prog.elem 30)).run Tryd.prog wx = .ok 2 wx := by go_simp
        rw [h3]
        simp [sliced, Result.andThen, Addr.add_zero']
      cases hM : mayB a c with
      | false =>
        go_wp2
        go_loopw [44] (fun jv wr => ∃ j : Nat, j ≤ i ∧ jv = .int .i64 (j : Int) ∧ Hid (LS W z a c (.slice (some ⟨b, off, none⟩) k0 dd) cs wr)) (fun jv _ => i - (intOf jv).toNat)
        case atStart => exact ⟨0, Nat.zero_le _, rfl, HL⟩
        case round =>
          obtain ⟨j, hj, rfl, HQ⟩ := hrel
          by_cases hjt : j < i
          · obtain ⟨q', cap', hv, hcs⟩ := HQ.out.2.2.1
            rw [hlen] at hv
            injection hv with hv1 hv2 hv3
            subst hv1 hv3
            have hjl : j < cs.length := by omega
            obtain ⟨b', off', hbe, hcs2⟩ := hcs (by intro e; rw [e] at hjl; cases hjl)
            injection hbe with hbe
            injection hbe with hb1 hb2
            subst hb1 hb2
            obtain ⟨hx, hy⟩ := hcs2 j hjl
            have HJ := Lib.hid (HR.out cs[j] (List.getElem_mem hjl))
            obtain ⟨⟨a2, c2⟩, hak⟩ : ∃ f, f = cs[j] := ⟨_, rfl⟩
            rw [← hak] at hx hy HJ
            simp only at hx hy HJ
            clear hcs hcs2 hv2 hak
            obtain ⟨w7, hw7⟩ : ∃ X : World, X = wr.alloc (.cells #[.int .i64 a2, .int .i64 c2] 33) := ⟨_, rfl⟩
            have hb7 : Below wr.heap.size wr w7 := by rw [hw7]; exact (Below.refl _ _).alloc (Nat.le_refl _) _
            have hN7 : BBox w7 wr.heap.size a2 c2 := by rw [hw7]; exact BBox.new _ _ _
            obtain ⟨y, hy7⟩ : ∃ y, y = wr.heap.size := ⟨_, rfl⟩
            have HY := Lib.hid hy7
            have HQ7 := Lib.hid (HQ.out.below hb7)
            obtain ⟨e0, e1⟩ := hN7.cells
            obtain ⟨d0, d1⟩ := HQ7.out.1.cells
            rw [← hy7] at hN7
            have HN7 := Lib.hid hN7
            have HO := Lib.hid (over_c a2 c2 a c HJ.out HI.out w7 HQ7.out.2.1)
            rw [hw7] at d0 d1 e0 e1
            clear hy7 hb7 hN7 HQ
            go_wp2_with fail
            rw [← hw7, ← HY.out]
            clear hw7 HY d0 d1 e0 e1 hx hy
            refine HO.out.mono ?_
            rintro e w8 ⟨rfl, hb⟩
            have HQ8 := Lib.hid (HQ7.out.below hb)
            have HN8 := Lib.hid (HN7.out.below hb)
            clear hb HQ7 HN7 HO
            rw [show ovB a2 c2 a c = false by unfold ovB; rw [hM]; simp]
            go_wp2
            go_roundw
            case rel => exact ⟨j + 1, by omega, by go_num, HQ8⟩
            case measure => simp [intOf]; omega
          · obtain rfl : j = i := by omega
            obtain ⟨d0, d1⟩ := HQ.out.1.cells
            have HP := Lib.hid (parts_c a c d HI.out _ HQ.out.2.1)
            go_wp2_with fail
            refine HP.out.mono ?_
            rintro e wb ⟨hp, hb⟩
            have HQb := Lib.hid (HQ.out.below hb)
            clear hb HP HQ d0 d1
            unfold PartsPost at hp
            rw [if_neg (by rw [hM]; decide)] at hp
            subst hp
            have HAR := Lib.hid (aroundF_c a c d HI.out wb HQb.out.2.1)
            rw [show aroundA a c d = (0, 0, 180) by unfold aroundA; rw [hM]; rfl] at HAR
            obtain ⟨d0, d1⟩ := HQb.out.1.cells
            dsimp only
            go_wp2_with fail
            refine HAR.out.mono ?_
            rintro e wc ⟨rfl, hb⟩
            have HQc := Lib.hid (HQb.out.below hb)
            have hbcs := hb.size
            clear hb HAR HQb d0 d1
            dsimp only
            obtain ⟨wd, hwd⟩ : ∃ X : World, X = (wc.alloc (.cells #[.int .i64 0, .int .i64 0] 33)).alloc (.cells #[.int .i64 0, .int .i64 0] 33) := ⟨_, rfl⟩
            have hbd : Below wc.heap.size wc wd := by rw [hwd]; exact ((Below.refl _ _).alloc (Nat.le_refl _) _).alloc (by simp) _
            have hPd : BBox wd wc.heap.size 0 0 := by rw [hwd]; exact (BBox.new _ _ _).alloc _
            have hQd : BBox wd (wc.heap.size + 1) 0 0 := by rw [hwd]; have := BBox.new (wc.alloc (.cells #[.int .i64 0, .int .i64 0] 33)) 0 0; simpa using this
            obtain ⟨y1, hy1⟩ : ∃ q, q = wc.heap.size := ⟨_, rfl⟩
            have HY1 := Lib.hid hy1
            rw [← hy1] at hPd hQd
            have HQd := Lib.hid (HQc.out.below hbd)
            have hyd : y1 + 2 = wd.heap.size := by rw [hwd, hy1]; simp
            have HPd := Lib.hid (And.intro hPd hQd)
            have HBB := Lib.hid (show b < y1 by rw [hy1]; exact HQc.out.2.2.1.block (by omega))
            have hzy := Lib.hid (show W.heap.size ≤ y1 ∧ z < y1 from ⟨by rw [hy1]; exact HQc.out.2.2.2.size, by rw [hy1]; exact HQc.out.1.lt⟩)
            obtain ⟨d0, d1⟩ := HQd.out.1.cells
            obtain ⟨p0, p1⟩ := hPd.cells
            obtain ⟨g0, g1⟩ := hQd.cells
            rw [hwd] at d0 d1 p0 p1 g0 g1
            clear hbd hPd hQd hy1 HQc
            have heq := run_neq_blk 0 0 0 0
            rw [show (!decide ((0 : Int) = 0 ∧ (0 : Int) = 0)) = false by decide] at heq
            go_wp2_with fail
            rw [← hwd, ← HY1.out]
            clear hwd HY1 d0 d1 p0 p1 g0 g1
            refine (equalB_same _ _ [] wd ⟨none, 0, rfl, fun h => absurd rfl h⟩ ⟨none, 0, rfl, fun h => absurd rfl h⟩ (by decide)).mono ?_
            rintro e we ⟨rfl, hb⟩
            have HQe := Lib.hid (HQd.out.below hb)
            clear hb
            go_wp2
            go_roundw
            case rel => exact ⟨j + 1, by omega, by go_num, HQe.out.2.1, HQe.out.2.2.1, HQe.out.2.2.2⟩
            case measure => simp [intOf]; omega
      | true =>
        go_wp2
        go_loopw [44] (fun jv wr => ∃ j : Nat, j ≤ i ∧ jv = .int .i64 (j : Int) ∧ Hid (LS W z a c (.slice (some ⟨b, off, none⟩) k0 dd) cs wr)) (fun jv _ => i - (intOf jv).toNat)
        case atStart => exact ⟨0, Nat.zero_le _, rfl, HL⟩
        case round =>
          obtain ⟨j, hj, rfl, HQ⟩ := hrel
          by_cases hjt : j < i
          · obtain ⟨q', cap', hv, hcs⟩ := HQ.out.2.2.1
            rw [hlen] at hv
            injection hv with hv1 hv2 hv3
            subst hv1 hv3
            have hjl : j < cs.length := by omega
            obtain ⟨b', off', hbe, hcs2⟩ := hcs (by intro e; rw [e] at hjl; cases hjl)
            injection hbe with hbe
            injection hbe with hb1 hb2
            subst hb1 hb2
            obtain ⟨hx, hy⟩ := hcs2 j hjl
            have HJ := Lib.hid (HR.out cs[j] (List.getElem_mem hjl))
            obtain ⟨⟨a2, c2⟩, hak⟩ : ∃ f, f = cs[j] := ⟨_, rfl⟩
            rw [← hak] at hx hy HJ
            simp only at hx hy HJ
            clear hcs hcs2 hv2 hak
            obtain ⟨w7, hw7⟩ : ∃ X : World, X = wr.alloc (.cells #[.int .i64 a2, .int .i64 c2] 33) := ⟨_, rfl⟩
            have hb7 : Below wr.heap.size wr w7 := by rw [hw7]; exact (Below.refl _ _).alloc (Nat.le_refl _) _
            have hN7 : BBox w7 wr.heap.size a2 c2 := by rw [hw7]; exact BBox.new _ _ _
            obtain ⟨y, hy7⟩ : ∃ y, y = wr.heap.size := ⟨_, rfl⟩
            have HY := Lib.hid hy7
            have HQ7 := Lib.hid (HQ.out.below hb7)
            obtain ⟨e0, e1⟩ := hN7.cells
            obtain ⟨d0, d1⟩ := HQ7.out.1.cells
            rw [← hy7] at hN7
            have HN7 := Lib.hid hN7
            have HO := Lib.hid (over_c a2 c2 a c HJ.out HI.out w7 HQ7.out.2.1)
            rw [hw7] at d0 d1 e0 e1
            clear hy7 hb7 hN7 HQ
            go_wp2_with fail
            rw [← hw7, ← HY.out]
            clear hw7 HY d0 d1 e0 e1 hx hy
            refine HO.out.mono ?_
            rintro e w8 ⟨rfl, hb⟩
            have HQ8 := Lib.hid (HQ7.out.below hb)
            have HN8 := Lib.hid (HN7.out.below hb)
            clear hb HQ7 HN7 HO
            obtain ⟨e0, e1⟩ := HN8.out.cells
            cases hM2 : mayB a2 c2 with
            | false =>
              rw [show ovB a2 c2 a c = false by unfold ovB; rw [hM2]; rfl]
              go_wp2_with fail
              refine (rRight_c a2 c2 w8).mono ?_
              rintro e w9 ⟨rfl, hb⟩
              have HQ9 := Lib.hid (HQ8.out.below hb)
              clear hb HQ8 HN8 e0 e1
              rw [hM2]
              go_wp2
              go_roundw
              case rel => exact ⟨j + 1, by omega, by go_num, HQ9⟩
              case measure => simp [intOf]; omega
            | true =>
              obtain ⟨k, n1, rfl, hk, rfl, hn1, -⟩ := mayB_yes hM
              obtain ⟨k2, n2, rfl, hk2, rfl, hn2, -⟩ := mayB_yes hM2
              have HRO := Lib.hid (fun X : World => rOver_c n2 k2 n1 k hk2 hk (by omega) (by omega) hM2 hM X)
              generalize ovB (n2 : Int) (k2 : Int) (n1 : Int) (k : Int) = ov at *
              have hneo : (ov != ov) = false := by simp
              clear hn1 hn2
              go_wp2_with fail
              refine (rRight_c _ _ w8).mono ?_
              rintro e w9 ⟨rfl, hb⟩
              have HQ9 := Lib.hid (HQ8.out.below hb)
              have HN9 := Lib.hid (HN8.out.below hb)
              clear hb HQ8 HN8 e0 e1
              obtain ⟨e0, e1⟩ := HN9.out.cells
              obtain ⟨d0, d1⟩ := HQ9.out.1.cells
              rw [hM2]
              go_wp2_with fail
              refine (HRO.out w9).mono ?_
              rintro e wa ⟨rfl, hb⟩
              have HQa := Lib.hid (HQ9.out.below hb)
              clear hb HQ9 HN9 e0 e1 d0 d1 HRO
              go_wp2
              go_roundw
              case rel => exact ⟨j + 1, by omega, by go_num, HQa⟩
              case measure => simp [intOf]; omega
          · obtain rfl : j = i := by omega
            obtain ⟨k, n1, rfl, hk, rfl, hnk, -⟩ := mayB_yes hM
            have hnk : n1 + szN k ≤ 4096 := by have := (sz_ok hk).2; omega
            cases hD : isB d with
            | false =>
              obtain ⟨d0, d1⟩ := HQ.out.1.cells
              have HP := Lib.hid (parts_c (n1 : Int) (k : Int) d HI.out _ HQ.out.2.1)
              go_wp2_with fail
              refine HP.out.mono ?_
              rintro e wb ⟨hp, hb⟩
              have HQb := Lib.hid (HQ.out.below hb)
              clear hb HP HQ d0 d1
              unfold PartsPost at hp
              rw [if_pos hM, if_neg (by rw [hD]; decide)] at hp
              subst hp
              have HAR := Lib.hid (aroundF_c (n1 : Int) (k : Int) d HI.out wb HQb.out.2.1)
              rw [show aroundA (n1 : Int) (k : Int) d = (0, 0, 2) by exact aroundA_out hM (fun h => by have h9 := of_decide_eq_false hD; omega)] at HAR
              obtain ⟨d0, d1⟩ := HQb.out.1.cells
              dsimp only
              go_wp2_with fail
              refine HAR.out.mono ?_
              rintro e wc ⟨rfl, hb⟩
              have HQc := Lib.hid (HQb.out.below hb)
              have hbcs := hb.size
              clear hb HAR HQb d0 d1
              dsimp only
              obtain ⟨wd, hwd⟩ : ∃ X : World, X = (wc.alloc (.cells #[.int .i64 0, .int .i64 0] 33)).alloc (.cells #[.int .i64 0, .int .i64 0] 33) := ⟨_, rfl⟩
              have hbd : Below wc.heap.size wc wd := by rw [hwd]; exact ((Below.refl _ _).alloc (Nat.le_refl _) _).alloc (by simp) _
              have hPd : BBox wd wc.heap.size 0 0 := by rw [hwd]; exact (BBox.new _ _ _).alloc _
              have hQd : BBox wd (wc.heap.size + 1) 0 0 := by rw [hwd]; have := BBox.new (wc.alloc (.cells #[.int .i64 0, .int .i64 0] 33)) 0 0; simpa using this
              obtain ⟨y1, hy1⟩ : ∃ q, q = wc.heap.size := ⟨_, rfl⟩
              have HY1 := Lib.hid hy1
              rw [← hy1] at hPd hQd
              have HQd := Lib.hid (HQc.out.below hbd)
              have hyd : y1 + 2 = wd.heap.size := by rw [hwd, hy1]; simp
              have HPd := Lib.hid (And.intro hPd hQd)
              have HBB := Lib.hid (show b < y1 by rw [hy1]; exact HQc.out.2.2.1.block (by omega))
              have hzy := Lib.hid (show W.heap.size ≤ y1 ∧ z < y1 from ⟨by rw [hy1]; exact HQc.out.2.2.2.size, by rw [hy1]; exact HQc.out.1.lt⟩)
              obtain ⟨d0, d1⟩ := HQd.out.1.cells
              obtain ⟨p0, p1⟩ := hPd.cells
              obtain ⟨g0, g1⟩ := hQd.cells
              rw [hwd] at d0 d1 p0 p1 g0 g1
              clear hbd hPd hQd hy1 HQc
              go_wp2_with fail
              rw [← hwd, ← HY1.out]
              clear hwd HY1 d0 d1 p0 p1 g0 g1
              refine (rIs_c d _).mono ?_
              rintro e we ⟨rfl, rfl⟩
              rw [hD]
              obtain ⟨d0, d1⟩ := HQd.out.1.cells
              obtain ⟨p0, p1⟩ := HPd.out.1.cells
              obtain ⟨g0, g1⟩ := HPd.out.2.cells
              have heq := run_neq_blk 0 0 0 0
              rw [show (!decide ((0 : Int) = 0 ∧ (0 : Int) = 0)) = false by decide] at heq
              go_wp2_with fail
              refine (equalB_same _ _ [] _ ⟨none, 0, rfl, fun h => absurd rfl h⟩ ⟨none, 0, rfl, fun h => absurd rfl h⟩ (by decide)).mono ?_
              rintro e wf ⟨rfl, hb⟩
              have HQe := Lib.hid (HQd.out.below hb)
              clear hb
              go_wp2
              go_roundw
              case rel => exact ⟨j + 1, by omega, by go_num, HQe.out.2.1, HQe.out.2.2.1, HQe.out.2.2.2⟩
              case measure => simp [intOf]; omega
            | true =>
              obtain ⟨jd, rfl, hjd⟩ := isB_yes hD
              rcases Nat.lt_trichotomy jd k with hjk | hjk | hjk
              · obtain ⟨d0, d1⟩ := HQ.out.1.cells
                have HP := Lib.hid (parts_c (n1 : Int) (k : Int) (jd : Int) HI.out _ HQ.out.2.1)
                go_wp2_with fail
                refine HP.out.mono ?_
                rintro e wb ⟨hp, hb⟩
                have HQb := Lib.hid (HQ.out.below hb)
                clear hb HP HQ d0 d1
                unfold PartsPost at hp
                rw [if_pos hM, if_pos hD, if_pos (by omega)] at hp
                simp only [Int.toNat_natCast] at hp
                obtain ⟨v5, rfl, ho5⟩ := hp
                obtain ⟨q5, d5, rfl⟩ := owns_slice ho5
                have HV5 := Lib.hid (show BlksAt wb (.slice q5 (inN k jd) d5) (inI n1 jd (inN k jd)) from blks_of_owns (inL_length _ _ _) ho5)
                have HB5 := Lib.hid (show ∀ a, q5 = some a → a.block < wb.heap.size from fun a ha => by subst ha; exact (own_block ho5).2)
                clear ho5
                have HAR := Lib.hid (aroundF_c (n1 : Int) (k : Int) (jd : Int) HI.out wb HQb.out.2.1)
                rw [show aroundA (n1 : Int) (k : Int) (jd : Int) = (0, 0, 2) by exact aroundA_out hM (by omega)] at HAR
                obtain ⟨d0, d1⟩ := HQb.out.1.cells
                dsimp only
                go_wp2_with fail
                refine HAR.out.mono ?_
                rintro e wc ⟨rfl, hb⟩
                have HQc := Lib.hid (HQb.out.below hb)
                have HVc := Lib.hid (HV5.out.below hb)
                have hbcs := hb.size
                clear hb HAR HQb d0 d1 HV5
                dsimp only
                obtain ⟨wd, hwd⟩ : ∃ X : World, X = (wc.alloc (.cells #[.int .i64 0, .int .i64 0] 33)).alloc (.cells #[.int .i64 0, .int .i64 0] 33) := ⟨_, rfl⟩
                have hbd : Below wc.heap.size wc wd := by rw [hwd]; exact ((Below.refl _ _).alloc (Nat.le_refl _) _).alloc (by simp) _
                have hPd : BBox wd wc.heap.size 0 0 := by rw [hwd]; exact (BBox.new _ _ _).alloc _
                have hQd : BBox wd (wc.heap.size + 1) 0 0 := by rw [hwd]; have := BBox.new (wc.alloc (.cells #[.int .i64 0, .int .i64 0] 33)) 0 0; simpa using this
                obtain ⟨y1, hy1⟩ : ∃ q, q = wc.heap.size := ⟨_, rfl⟩
                have HY1 := Lib.hid hy1
                rw [← hy1] at hPd hQd
                have HQd := Lib.hid (HQc.out.below hbd)
                have HVd := Lib.hid (HVc.out.below hbd)
                have HB5 := Lib.hid (show ∀ a, q5 = some a → a.block < y1 from fun a ha => by have := HB5.out a ha; omega)
                have hyd : y1 + 2 = wd.heap.size := by rw [hwd, hy1]; simp
                have HPd := Lib.hid (And.intro hPd hQd)
                have HBB := Lib.hid (show b < y1 by rw [hy1]; exact HQc.out.2.2.1.block (by omega))
                have hzy := Lib.hid (show W.heap.size ≤ y1 ∧ z < y1 from ⟨by rw [hy1]; exact HQc.out.2.2.2.size, by rw [hy1]; exact HQc.out.1.lt⟩)
                obtain ⟨d0, d1⟩ := HQd.out.1.cells
                obtain ⟨p0, p1⟩ := hPd.cells
                obtain ⟨g0, g1⟩ := hQd.cells
                rw [hwd] at d0 d1 p0 p1 g0 g1
                clear hbd hPd hQd hy1 HQc HVc
                go_wp2_with fail
                rw [← hwd, ← HY1.out]
                clear hwd HY1 d0 d1 p0 p1 g0 g1
                refine (rIs_c (jd : Int) _).mono ?_
                rintro e we ⟨rfl, rfl⟩
                rw [hD]
                obtain ⟨d0, d1⟩ := HQd.out.1.cells
                obtain ⟨p0, p1⟩ := HPd.out.1.cells
                obtain ⟨g0, g1⟩ := HPd.out.2.cells
                go_wp2_with fail
                refine (rParts_c n1 k jd hk (by omega) hnk _).mono ?_
                rintro e wf ⟨⟨v6, rfl, ho6⟩, hb⟩
                obtain ⟨q6, d6, rfl⟩ := owns_slice ho6
                have HV6 := Lib.hid (show BlksAt wf (.slice q6 (inN k jd) d6) (inI n1 jd (inN k jd)) from blks_of_owns (inL_length _ _ _) ho6)
                have HB6 := Lib.hid (show ∀ a, q6 = some a → y1 + 2 ≤ a.block from fun a ha => by subst ha; rw [hyd]; exact (own_block ho6).1)
                have HQd := Lib.hid (HQd.out.below hb)
                have HVd := Lib.hid (HVd.out.below hb)
                have HPd := Lib.hid (And.intro (HPd.out.1.below hb) (HPd.out.2.below hb))
                clear hb ho6 d0 d1 p0 p1 g0 g1
                obtain ⟨d0, d1⟩ := HQd.out.1.cells
                obtain ⟨p0, p1⟩ := HPd.out.1.cells
                obtain ⟨g0, g1⟩ := HPd.out.2.cells
                have hIL : (inI n1 jd (inN k jd)).length ≤ 9223372036854775807 := by rw [inI_length]; have := (inN_mul hk (show jd ≤ k by omega)).2.1; omega
                have HIN := Lib.hid (inN_mul hk (show jd ≤ k by omega)).2.1
                generalize inI n1 jd (inN k jd) = I at *
                generalize inN k jd = mm at *
                have heq := run_neq_blk 0 0 0 0
                rw [show (!decide ((0 : Int) = 0 ∧ (0 : Int) = 0)) = false by decide] at heq
                go_wp2_with fail
                refine (equalB_same _ _ I _ HVd.out HV6.out hIL).mono ?_
                rintro e wg ⟨rfl, hb⟩
                have HQe := Lib.hid (HQd.out.below hb)
                clear hb
                go_wp2
                go_roundw
                case rel => exact ⟨j + 1, by omega, by go_num, HQe.out.2.1, HQe.out.2.2.1, HQe.out.2.2.2⟩
                case measure => simp [intOf]; omega
              · subst hjk
                obtain ⟨d0, d1⟩ := HQ.out.1.cells
                have HP := Lib.hid (parts_c (n1 : Int) (jd : Int) (jd : Int) HI.out _ HQ.out.2.1)
                go_wp2_with fail
                refine HP.out.mono ?_
                rintro e wb ⟨hp, hb⟩
                have HQb := Lib.hid (HQ.out.below hb)
                clear hb HP HQ d0 d1
                unfold PartsPost at hp
                rw [if_pos hM, if_pos hD, if_pos (by omega)] at hp
                simp only [Int.toNat_natCast] at hp
                obtain ⟨v5, rfl, ho5⟩ := hp
                obtain ⟨q5, d5, rfl⟩ := owns_slice ho5
                have HV5 := Lib.hid (show BlksAt wb (.slice q5 (inN jd jd) d5) (inI n1 jd (inN jd jd)) from blks_of_owns (inL_length _ _ _) ho5)
                have HB5 := Lib.hid (show ∀ a, q5 = some a → a.block < wb.heap.size from fun a ha => by subst ha; exact (own_block ho5).2)
                clear ho5
                have HAR := Lib.hid (aroundF_c (n1 : Int) (jd : Int) (jd : Int) HI.out wb HQb.out.2.1)
                rw [show aroundA (n1 : Int) (jd : Int) (jd : Int) = (((n1 - n1 % szN jd : Nat) : Int), (jd : Int), 0) by exact aroundA_in hM (by omega) hjd] at HAR
                obtain ⟨x, hxx⟩ : ∃ x, x = n1 - n1 % szN jd := ⟨_, rfl⟩
                rw [← hxx] at HAR
                have HXX := Lib.hid hxx
                clear hxx
                obtain ⟨d0, d1⟩ := HQb.out.1.cells
                dsimp only
                go_wp2_with fail
                refine HAR.out.mono ?_
                rintro e wc ⟨rfl, hb⟩
                have HQc := Lib.hid (HQb.out.below hb)
                have HVc := Lib.hid (HV5.out.below hb)
                have hbcs := hb.size
                clear hb HAR HQb d0 d1 HV5
                dsimp only
                obtain ⟨wd, hwd⟩ : ∃ X : World, X = (wc.alloc (.cells #[.int .i64 (x : Int), .int .i64 (jd : Int)] 33)).alloc (.cells #[.int .i64 0, .int .i64 0] 33) := ⟨_, rfl⟩
                have hbd : Below wc.heap.size wc wd := by rw [hwd]; exact ((Below.refl _ _).alloc (Nat.le_refl _) _).alloc (by simp) _
                have hPd : BBox wd wc.heap.size (x : Int) (jd : Int) := by rw [hwd]; exact (BBox.new _ _ _).alloc _
                have hQd : BBox wd (wc.heap.size + 1) 0 0 := by rw [hwd]; have := BBox.new (wc.alloc (.cells #[.int .i64 (x : Int), .int .i64 (jd : Int)] 33)) 0 0; simpa using this
                obtain ⟨y1, hy1⟩ : ∃ q, q = wc.heap.size := ⟨_, rfl⟩
                have HY1 := Lib.hid hy1
                rw [← hy1] at hPd hQd
                have HQd := Lib.hid (HQc.out.below hbd)
                have HVd := Lib.hid (HVc.out.below hbd)
                have HB5 := Lib.hid (show ∀ a, q5 = some a → a.block < y1 from fun a ha => by have := HB5.out a ha; omega)
                have hyd : y1 + 2 = wd.heap.size := by rw [hwd, hy1]; simp
                have HPd := Lib.hid (And.intro hPd hQd)
                have HBB := Lib.hid (show b < y1 by rw [hy1]; exact HQc.out.2.2.1.block (by omega))
                have hzy := Lib.hid (show W.heap.size ≤ y1 ∧ z < y1 from ⟨by rw [hy1]; exact HQc.out.2.2.2.size, by rw [hy1]; exact HQc.out.1.lt⟩)
                obtain ⟨d0, d1⟩ := HQd.out.1.cells
                obtain ⟨p0, p1⟩ := hPd.cells
                obtain ⟨g0, g1⟩ := hQd.cells
                rw [hwd] at d0 d1 p0 p1 g0 g1
                clear hbd hPd hQd hy1 HQc HVc
                go_wp2_with fail
                rw [← hwd, ← HY1.out]
                clear hwd HY1 d0 d1 p0 p1 g0 g1
                refine (rIs_c (jd : Int) _).mono ?_
                rintro e we ⟨rfl, rfl⟩
                rw [hD]
                obtain ⟨d0, d1⟩ := HQd.out.1.cells
                obtain ⟨p0, p1⟩ := HPd.out.1.cells
                obtain ⟨g0, g1⟩ := HPd.out.2.cells
                go_wp2_with fail
                refine (rParts_c n1 jd jd hk (by omega) hnk _).mono ?_
                rintro e wf ⟨⟨v6, rfl, ho6⟩, hb⟩
                obtain ⟨q6, d6, rfl⟩ := owns_slice ho6
                have HV6 := Lib.hid (show BlksAt wf (.slice q6 (inN jd jd) d6) (inI n1 jd (inN jd jd)) from blks_of_owns (inL_length _ _ _) ho6)
                have HB6 := Lib.hid (show ∀ a, q6 = some a → y1 + 2 ≤ a.block from fun a ha => by subst ha; rw [hyd]; exact (own_block ho6).1)
                have HQd := Lib.hid (HQd.out.below hb)
                have HVd := Lib.hid (HVd.out.below hb)
                have HPd := Lib.hid (And.intro (HPd.out.1.below hb) (HPd.out.2.below hb))
                clear hb ho6 d0 d1 p0 p1 g0 g1
                obtain ⟨d0, d1⟩ := HQd.out.1.cells
                obtain ⟨p0, p1⟩ := HPd.out.1.cells
                obtain ⟨g0, g1⟩ := HPd.out.2.cells
                have hIL : (inI n1 jd (inN jd jd)).length ≤ 9223372036854775807 := by rw [inI_length]; have := (inN_mul hk (show jd ≤ jd by omega)).2.1; omega
                have HIN := Lib.hid (inN_mul hk (show jd ≤ jd by omega)).2.1
                generalize inI n1 jd (inN jd jd) = I at *
                generalize inN jd jd = mm at *
                have HRA2 := Lib.hid (fun X : World => rAround_c n1 jd jd hjd (by omega) X)
                rw [← HXX.out] at HRA2
                go_wp2_with fail
                refine (HRA2.out _).mono ?_
                rintro e wg ⟨rfl, hb⟩
                have hQg := HQd.out.below hb
                have hPg := HPd.out.1.below hb
                have hRg := HPd.out.2.below hb
                have hVg := HVd.out.below hb
                have hUg := HV6.out.below hb
                clear hb HRA2 HQd HPd d0 d1 p0 p1 g0 g1 HVd HV6
                obtain ⟨wh, hwh⟩ : ∃ X : World, X = (wg.setCell ⟨y1 + 1, 0, none⟩ (.int .i64 (x : Int))).setCell ⟨y1 + 1, 1, none⟩ (.int .i64 (jd : Int)) := ⟨_, rfl⟩
                have hz1 := hzy.out.1
                have hz2 := hzy.out.2
                have hBh : Below (y1 + 1) wg wh := by rw [hwh]; exact below_put2 wg (y1 + 1) (Nat.le_refl _) _ _
                have hRh : BBox wh (y1 + 1) x jd := by rw [hwh]; exact hRg.put x jd
                have hPh : BBox wh y1 x jd := (hBh.block y1 (by omega)).trans hPg
                have HQh := Lib.hid (show Tab wh ∧ BlksAt wh (.slice (some ⟨b, off, none⟩) k0 dd) cs ∧ Below W.heap.size W wh from ⟨hQg.2.1.belowB (by omega) hBh, by rw [hwh]; exact hQg.2.2.1.put2 (fun a ha => by injection ha with ha; have := HBB.out; rw [← ha]; show b ≠ y1 + 1; omega) _ _, hQg.2.2.2.trans (hBh.mono (by omega))⟩)
                have HVh := Lib.hid (show BlksAt wh (.slice q5 mm d5) I by rw [hwh]; exact hVg.put2 (fun a ha => by have := HB5.out a ha; omega) _ _)
                have HUh := Lib.hid (show BlksAt wh (.slice q6 mm d6) I by rw [hwh]; exact hUg.put2 (fun a ha => by have := HB6.out a ha; omega) _ _)
                have HPR := Lib.hid (And.intro hPh hRh)
                obtain ⟨r0, r1⟩ := hRg.cells
                obtain ⟨f0, f1⟩ := hRg.free
                obtain ⟨s0, s1⟩ := hPh.cells
                obtain ⟨t0, t1⟩ := hRh.cells
                rw [hwh] at s0 s1 t0 t1
                have heq := run_neq_blk (x : Int) (jd : Int) (x : Int) (jd : Int)
                rw [show (!decide (((x : Nat) : Int) = (x : Int) ∧ ((jd : Nat) : Int) = (jd : Int))) = false by simp] at heq
                clear hQg hPg hRg hBh hRh hPh
                go_wp2_with fail
                rw [← hwh]
                clear hwh r0 r1 f0 f1 s0 s1 t0 t1
                refine (equalB_same _ _ I _ HVh.out HUh.out hIL).mono ?_
                rintro e wi ⟨rfl, hb⟩
                have HQe := Lib.hid (show Tab wi ∧ BlksAt wi (.slice (some ⟨b, off, none⟩) k0 dd) cs ∧ Below W.heap.size W wi from ⟨HQh.out.1.below hb, HQh.out.2.1.below hb, below_then HQh.out.2.2 HQh.out.2.2.size hb⟩)
                clear hb
                go_wp2
                go_roundw
                case rel => exact ⟨j + 1, by omega, by go_num, HQe⟩
                case measure => simp [intOf]; omega
              · obtain ⟨d0, d1⟩ := HQ.out.1.cells
                have HP := Lib.hid (parts_c (n1 : Int) (k : Int) (jd : Int) HI.out _ HQ.out.2.1)
                go_wp2_with fail
                refine HP.out.mono ?_
                rintro e wb ⟨hp, hb⟩
                have HQb := Lib.hid (HQ.out.below hb)
                clear hb HP HQ d0 d1
                unfold PartsPost at hp
                rw [if_pos hM, if_pos hD, if_neg (by omega)] at hp
                subst hp
                have HAR := Lib.hid (aroundF_c (n1 : Int) (k : Int) (jd : Int) HI.out wb HQb.out.2.1)
                rw [show aroundA (n1 : Int) (k : Int) (jd : Int) = (((n1 - n1 % szN jd : Nat) : Int), (jd : Int), 0) by exact aroundA_in hM (by omega) hjd] at HAR
                obtain ⟨x, hxx⟩ : ∃ x, x = n1 - n1 % szN jd := ⟨_, rfl⟩
                rw [← hxx] at HAR
                have HXX := Lib.hid hxx
                clear hxx
                obtain ⟨d0, d1⟩ := HQb.out.1.cells
                dsimp only
                go_wp2_with fail
                refine HAR.out.mono ?_
                rintro e wc ⟨rfl, hb⟩
                have HQc := Lib.hid (HQb.out.below hb)
                have hbcs := hb.size
                clear hb HAR HQb d0 d1
                dsimp only
                obtain ⟨wd, hwd⟩ : ∃ X : World, X = (wc.alloc (.cells #[.int .i64 (x : Int), .int .i64 (jd : Int)] 33)).alloc (.cells #[.int .i64 0, .int .i64 0] 33) := ⟨_, rfl⟩
                have hbd : Below wc.heap.size wc wd := by rw [hwd]; exact ((Below.refl _ _).alloc (Nat.le_refl _) _).alloc (by simp) _
                have hPd : BBox wd wc.heap.size (x : Int) (jd : Int) := by rw [hwd]; exact (BBox.new _ _ _).alloc _
                have hQd : BBox wd (wc.heap.size + 1) 0 0 := by rw [hwd]; have := BBox.new (wc.alloc (.cells #[.int .i64 (x : Int), .int .i64 (jd : Int)] 33)) 0 0; simpa using this
                obtain ⟨y1, hy1⟩ : ∃ q, q = wc.heap.size := ⟨_, rfl⟩
                have HY1 := Lib.hid hy1
                rw [← hy1] at hPd hQd
                have HQd := Lib.hid (HQc.out.below hbd)
                have hyd : y1 + 2 = wd.heap.size := by rw [hwd, hy1]; simp
                have HPd := Lib.hid (And.intro hPd hQd)
                have HBB := Lib.hid (show b < y1 by rw [hy1]; exact HQc.out.2.2.1.block (by omega))
                have hzy := Lib.hid (show W.heap.size ≤ y1 ∧ z < y1 from ⟨by rw [hy1]; exact HQc.out.2.2.2.size, by rw [hy1]; exact HQc.out.1.lt⟩)
                obtain ⟨d0, d1⟩ := HQd.out.1.cells
                obtain ⟨p0, p1⟩ := hPd.cells
                obtain ⟨g0, g1⟩ := hQd.cells
                rw [hwd] at d0 d1 p0 p1 g0 g1
                clear hbd hPd hQd hy1 HQc
                go_wp2_with fail
                rw [← hwd, ← HY1.out]
                clear hwd HY1 d0 d1 p0 p1 g0 g1
                refine (rIs_c (jd : Int) _).mono ?_
                rintro e we ⟨rfl, rfl⟩
                rw [hD]
                obtain ⟨d0, d1⟩ := HQd.out.1.cells
                obtain ⟨p0, p1⟩ := HPd.out.1.cells
                obtain ⟨g0, g1⟩ := HPd.out.2.cells
                have HRA2 := Lib.hid (fun X : World => rAround_c n1 k jd hjd (by omega) X)
                rw [← HXX.out] at HRA2
                go_wp2_with fail
                refine (HRA2.out _).mono ?_
                rintro e wg ⟨rfl, hb⟩
                have hQg := HQd.out.below hb
                have hPg := HPd.out.1.below hb
                have hRg := HPd.out.2.below hb
                clear hb HRA2 HQd HPd d0 d1 p0 p1 g0 g1
                obtain ⟨wh, hwh⟩ : ∃ X : World, X = (wg.setCell ⟨y1 + 1, 0, none⟩ (.int .i64 (x : Int))).setCell ⟨y1 + 1, 1, none⟩ (.int .i64 (jd : Int)) := ⟨_, rfl⟩
                have hz1 := hzy.out.1
                have hz2 := hzy.out.2
                have hBh : Below (y1 + 1) wg wh := by rw [hwh]; exact below_put2 wg (y1 + 1) (Nat.le_refl _) _ _
                have hRh : BBox wh (y1 + 1) x jd := by rw [hwh]; exact hRg.put x jd
                have hPh : BBox wh y1 x jd := (hBh.block y1 (by omega)).trans hPg
                have HQh := Lib.hid (show Tab wh ∧ BlksAt wh (.slice (some ⟨b, off, none⟩) k0 dd) cs ∧ Below W.heap.size W wh from ⟨hQg.2.1.belowB (by omega) hBh, by rw [hwh]; exact hQg.2.2.1.put2 (fun a ha => by injection ha with ha; have := HBB.out; rw [← ha]; show b ≠ y1 + 1; omega) _ _, hQg.2.2.2.trans (hBh.mono (by omega))⟩)
                have HPR := Lib.hid (And.intro hPh hRh)
                obtain ⟨r0, r1⟩ := hRg.cells
                obtain ⟨f0, f1⟩ := hRg.free
                obtain ⟨s0, s1⟩ := hPh.cells
                obtain ⟨t0, t1⟩ := hRh.cells
                rw [hwh] at s0 s1 t0 t1
                have heq := run_neq_blk (x : Int) (jd : Int) (x : Int) (jd : Int)
                rw [show (!decide (((x : Nat) : Int) = (x : Int) ∧ ((jd : Nat) : Int) = (jd : Int))) = false by simp] at heq
                clear hQg hPg hRg hBh hRh hPh
                go_wp2_with fail
                rw [← hwh]
                clear hwh r0 r1 f0 f1 s0 s1 t0 t1
                refine (equalB_same _ _ [] _ ⟨none, 0, rfl, fun h => absurd rfl h⟩ ⟨none, 0, rfl, fun h => absurd rfl h⟩ (by decide)).mono ?_
                rintro e wi ⟨rfl, hb⟩
                have HQe := Lib.hid (show Tab wi ∧ BlksAt wi (.slice (some ⟨b, off, none⟩) k0 dd) cs ∧ Below W.heap.size W wi from ⟨HQh.out.1.below hb, HQh.out.2.1.below hb, below_then HQh.out.2.2 HQh.out.2.2.size hb⟩)
                clear hb
                go_wp2
                go_roundw
                case rel => exact ⟨j + 1, by omega, by go_num, HQe⟩
                case measure => simp [intOf]; omega
    · have HBE := Lib.hid HQ.out.2.2
      go_wp2
      go_ret
      exact ⟨rfl, HBE.out⟩

end Go.Proofs.YtklbbcaebdfjeaaDoor
