/-
  ScriptPasses returns true for every script, and row of words; what was in memory stays.
  Conditions: the script and the words lie so; the package's table of parts is as it was laid.
-/
import Derived.Test.YtjgdkfgcfningaaDoorSPass0
namespace Go.Proofs.YtjgdkfgcfningaaDoor
open Go.RowKit Go.Shelf
attribute [local go_sem] Oper.semAt_some

set_option maxRecDepth 100000 in
set_option maxHeartbeats 8000000 in
theorem scriptPasses_walk (v : Value) (s : SM) (p8 : Option Addr) (n8 d8 : Nat) (ws : List Nat) (W : World) (hs : SAt W v s) (hw : WAt W p8 n8 d8 ws) (hn8 : n8 ≤ 9223372036854775807) (hT : Tab W) (hro : RowsOk s.ls)
    (hll : ∀ l ∈ s.ls, l.length ≤ 9223372036854775807) (hln : s.ls.length ≤ 9223372036854775807) (hpn : s.ps.length ≤ 9223372036854775807) :
    Calls Tryd.prog 6 #[v, .slice p8 n8 d8] W fun e w' => e = .returned (.bool true) ∧ Below W.heap.size W w' := by
  have HT := Lib.hid hT
  have HWS := Lib.hid hw
  have HSS := Lib.hid (And.intro hll (And.intro hln hpn))
  obtain ⟨p, n, cp, q, m, d, rfl, h1, h2⟩ := hs
  have HS0 := Lib.hid (And.intro h1 h2)
  obtain ⟨w0, hw0⟩ : ∃ X : World, X = W.alloc (.cells #[.int .i64 s.c, .int .i64 s.g, .slice p n cp, .slice q m d] 25) := ⟨_, rfl⟩
  have hb0 : Below W.heap.size W w0 := by rw [hw0]; exact (Below.refl _ _).alloc (Nat.le_refl _) _
  obtain ⟨y, hy⟩ : ∃ y, y = W.heap.size := ⟨_, rfl⟩
  have hbx : SBlk w0 y s.c s.g p n cp q m d := by rw [hw0, hy]; exact SBlk.new _ _ _ _ _ _ _ _ _
  have HWK := Lib.hid (wakes_c w0 (hT.below hb0))
  have HE := Lib.hid (And.intro hw0 hy)
  have HB0 := Lib.hid hb0
  have HBX0 := Lib.hid hbx
  clear h1 h2 hT hw hll hln hpn hw0 hy hb0 hbx
  go_enter Tryd.func6, Tryd.ntmps6
  go_upto_region 1 with (fail)
  rw [← HE.out.1, ← HE.out.2]
  go_wp2_with fail
  refine HWK.out.mono ?_
  rintro e w1 ⟨rfl, hb1⟩
  have HB1 := Lib.hid (below_then HB0.out HB0.out.size hb1)
  have hw1s := HB1.out.size
  obtain ⟨ha0, ha1, ha2, ha3⟩ := (HBX0.out.below hb1).cells
  have HOW := Lib.hid (own_c (.agg #[.int .i64 s.c, .int .i64 s.g, .slice p n cp, .slice q m d]) s w1 ⟨_, _, _, _, _, _, rfl, HS0.out.1.below HB1.out, HS0.out.2.below HB1.out⟩ HSS.out.1 HSS.out.2.1 HSS.out.2.2)
  clear hb1 HWK HBX0 HB0 HE
  go_wp2_with fail
  refine HOW.out.mono ?_
  rintro e w2 ⟨⟨v', rfl, hS⟩, hb2⟩
  obtain ⟨p2, n2, c2, q2, m2, d2, rfl, h1, h2⟩ := hS
  obtain ⟨a, ha⟩ : ∃ a, a = ownS s := ⟨_, rfl⟩
  rw [← ha] at h1 h2
  rw [← ha]
  have hfew : Few a := by rw [ha]; exact ownS_few s
  have HFA := Lib.hid hfew
  have HAO := Lib.hid (show RowsOk a.ls by rw [ha]; exact ownS_rows hro)
  have HB2 := Lib.hid (below_then HB1.out hw1s hb2)
  have hw2s := HB2.out.size
  obtain ⟨w3, hw3⟩ : ∃ X : World, X = w2.alloc (.cells #[.int .i64 a.c, .int .i64 a.g, .slice p2 n2 c2, .slice q2 m2 d2] 25) := ⟨_, rfl⟩
  have hb3 : Below w2.heap.size w2 w3 := by rw [hw3]; exact (Below.refl _ _).alloc (Nat.le_refl _) _
  obtain ⟨y3, hy3⟩ : ∃ y, y = w2.heap.size := ⟨_, rfl⟩
  have hbx : SBlk w3 y3 a.c a.g p2 n2 c2 q2 m2 d2 := by rw [hw3, hy3]; exact SBlk.new _ _ _ _ _ _ _ _ _
  have HBX3 := Lib.hid hbx
  have HLA := Lib.hid (And.intro (h1.below hb3) (h2.below hb3))
  have HB3 := Lib.hid (below_then HB2.out hw2s hb3)
  have hw3s := HB3.out.size
  have HOF := Lib.hid (ofAny_c _ a w3 ⟨_, _, _, _, _, _, rfl, HLA.out.1, HLA.out.2⟩ (HT.out.below HB3.out) hfew)
  have HE := Lib.hid (And.intro hw3 hy3)
  clear hw3 hy3 hbx hb3 hb2 h1 h2 hfew ha hro ha0 ha1 ha2 ha3 HOW
  obtain ⟨hc0, hc1, hc2, hc3⟩ := HBX3.out.cells
  go_upto_region 4 with (fail)
  rw [← HE.out.1, ← HE.out.2]
  go_wp2_with fail
  refine HOF.out.mono ?_
  rintro e w4 ⟨hO, hb4⟩
  have HB4 := Lib.hid (below_then HB3.out hw3s hb4)
  have hw4s := HB4.out.size
  unfold OfPost at hO
  cases hsb : scriptB a.c a.g (a.ls.map List.length) a.ps with
  | false =>
    rw [hsb, if_neg (by decide)] at hO
    subst hO
    clear hc0 hc1 hc2 hc3 hb4 hsb HOF HE
    go_wp2
    go_ret
    exact ⟨rfl, HB4.out⟩
  | true =>
    rw [hsb, if_pos rfl] at hO
    obtain ⟨p5, c5, rfl, hO5⟩ := hO
    have hoka := (okS_iff a).1 hsb
    have HOKA := Lib.hid hoka
    obtain ⟨F, hF⟩ : ∃ F, F = firstN a := ⟨_, rfl⟩
    obtain ⟨R, hR⟩ : ∃ R, R = recsL a := ⟨_, rfl⟩
    have hwl := words_form a
    rw [← hF, ← hR] at hwl
    rw [hwl] at hO5
    rw [hwl]
    have HLTW := Lib.hid (show ∀ x ∈ F :: R.flatten, x < 18446744073709551616 by rw [← hwl]; exact words_lt hoka HAO.out)
    obtain ⟨nw, hnw⟩ : ∃ n, n = (F :: R.flatten).length := ⟨_, rfl⟩
    rw [← hnw] at hO5
    rw [← hnw]
    have hnw1 : nw = 1 + R.flatten.length := by rw [hnw, List.length_cons]; omega
    have hnp : 0 < nw := by omega
    have HN1 := Lib.hid hnw1
    obtain ⟨T, hT⟩ : ∃ T, T = tot a.ls := ⟨_, rfl⟩
    have HRL := Lib.hid (show ∀ i (h : i < R.length), R[i].length = if i < T then 6 else 1 by rw [hR, hT]; exact recs_len a)
    obtain ⟨c, hc⟩ : ∃ c, c = a.c.toNat := ⟨_, rfl⟩
    have HWH := Lib.hid (show ∀ r ∈ R, Whole c r by rw [hR]; exact fun r hr => recs_whole a r hr c)
    have HLT := Lib.hid (show ∀ r ∈ R, ∀ x ∈ r, x < 18446744073709551616 from fun r hr x hx => HLTW.out x (List.mem_cons_of_mem _ (List.mem_flatten.2 ⟨r, hr, hx⟩)))
    have hRl : R.length ≤ 4160 := by rw [hR]; exact recs_few hoka
    have hT64 : T ≤ 64 := by rw [hT]; exact hoka.2.2.2.1
    have HFR := Lib.hid (And.intro hF (And.intro hR (And.intro hT hc)))
    have hroom := owns_room hO5
    have hnc : nw ≤ c5 := hroom.2.1
    have hnz : nw ≤ 9223372036854775807 := by
      rcases hO5.2 with ⟨_, h0⟩ | ⟨g, cap, cur, e, _, _, hle, hmx, _⟩
      · omega
      · unfold maxLen at hmx; omega
    obtain ⟨b5, o5, rfl, hcs⟩ := (VRow.of_owns hO5).cells (by simp)
    have HCS := Lib.hid (show ∀ j x, (F :: R.flatten)[j]? = some x → w4.cell? ⟨b5, o5 + j, none⟩ = some (nv x) from fun j x hx => by
      obtain ⟨hj, rfl⟩ := List.getElem?_eq_some_iff.1 hx
      have := hcs j (by rw [List.length_map]; exact hj)
      rw [List.getElem_map] at this
      exact this)
    have hf0 : w4.cell? ⟨b5, o5, none⟩ = some (.int .u64 (F : Int)) := HCS.out 0 F rfl
    have hx2 := below_cell hb4 hc2
    obtain ⟨w5, hw5⟩ : ∃ X : World, X = w4.alloc (.cells #[.int .u64 (F : Int)] 37) := ⟨_, rfl⟩
    have hb5 : Below w4.heap.size w4 w5 := by rw [hw5]; exact (Below.refl _ _).alloc (Nat.le_refl _) _
    have hx2' : (w4.alloc (.cells #[.int .u64 (F : Int)] 37)).cell? ⟨y3, 2, none⟩ = some (.slice p2 n2 c2) := by rw [← hw5]; exact below_cell hb5 hx2
    have HP5 := Lib.hid (show PassIn w4 F c R (some ⟨w4.heap.size, 0, none⟩) 1 0 [] w5 from ⟨by
      rw [hw5]
      exact World.ownsRow_lit (base := w4.heap.size) (e := 37) (size := 1) w4 #[.int .u64 (F : Int)] 1 (Nat.le_refl _) (by decide) rfl, mixed_start c R, (fun x hx => by cases hx), hb5⟩)
    have HW5 := Lib.hid hw5
    have HLA5 := Lib.hid (And.intro ((HLA.out.1.below hb4).below hb5) ((HLA.out.2.below hb4).below hb5))
    have HBX5 := Lib.hid ((HBX3.out.below hb4).below hb5)
    have HBX4 := Lib.hid (HBX3.out.below hb4)
    have HLA4 := Lib.hid (And.intro (HLA.out.1.below hb4) (HLA.out.2.below hb4))
    clear hc0 hc1 hc2 hc3 hb4 hsb HOF HE hO5 hoka hwl hnw hF hR hT hc hroom hcs hw5 hb5 hx2 HBX3 HLA hnw1
    have HI0 := Lib.hid (And.intro HP5.out (And.intro HLA5.out.1 (And.intro HLA5.out.2 HBX5.out)))
    go_upto_region 9 with (fail)
    go_wp2
    rw [← HW5.out]
    clear hf0 hx2'
    go_loopw [9, 11, 36] (fun cv _ iv wr => ∃ i : Nat, i ≤ n2 ∧ iv = .int .i64 i ∧ cv = .int .i64 ((tot (a.ls.take i) : Nat) : Int) ∧ Hid (PassIn w4 F c R (some ⟨w4.heap.size, 0, none⟩) 1 0 [] wr ∧ LRow wr p2 n2 c2 a.ls ∧ RI wr q2 m2 d2 a.ps ∧ SBlk wr y3 a.c a.g p2 n2 c2 q2 m2 d2)) (fun _ _ iv _ => n2 - (intOf iv).toNat)
    case atStart => exact ⟨0, Nat.zero_le _, rfl, rfl, HI0⟩
    case round =>
      obtain ⟨i, hi, rfl, rfl, HI⟩ := hrel
      by_cases hlt : i < n2
      · have hil : i < a.ls.length := by have := HI.out.2.1.len; omega
        obtain ⟨b2, o2, rfl, hcl⟩ := HI.out.2.1.cells (by intro e; rw [e] at hil; cases hil)
        obtain ⟨q6, d6, hx1, hv6⟩ := hcl i hil
        have htc := tot_cut a.ls i hil
        have hle := tot_le a.ls (i + 1)
        have hT := HFR.out.2.2.1
        obtain ⟨t0, ht0⟩ : ∃ t, t = tot (a.ls.take i) := ⟨_, rfl⟩
        obtain ⟨L1, hL1⟩ : ∃ t, t = a.ls[i].length := ⟨_, rfl⟩
        rw [← hL1] at hx1 htc
        rw [← ht0] at htc ⊢
        have hn28 : n2 ≤ 8 := by have h1 := HI.out.2.1.len; have h2 := HOKA.out.1.2; have h3 := HOKA.out.2.2.1; omega
        have ht64 : t0 + L1 ≤ 64 := by omega
        have HTC := Lib.hid htc
        have HL1 := Lib.hid (show i + 1 ≤ n2 from hlt)
        clear hcl hv6 htc hle hT ht0 hL1 hil
        go_wp2
        go_roundw
        case rel => exact ⟨i + 1, HL1.out, by go_num, congrArg (Value.int .i64) (by have := HTC.out; omega), HI⟩
        case measure =>
          have := HL1.out
          simp [intOf]; omega
      · have hall : tot (a.ls.take i) = T := by
          rw [List.take_of_length_le (by have := HI.out.2.1.len; omega)]
          exact HFR.out.2.2.1.symm
        rw [hall]
        have HBX := Lib.hid HI.out.2.2.2
        have HLP := Lib.hid (And.intro HI.out.2.1 HI.out.2.2.1)
        have HPS := Lib.hid HI.out.1
        have hbw : w4.heap.size ≤ wr.heap.size := HI.out.1.b.size
        have hy3 : y3 < wr.heap.size := HBX.out.lt
        obtain ⟨i0, hi0, hz0, hz1, hz2⟩ := info_parts u64_info
        have HI9 := Lib.hid (And.intro hi0 (And.intro hz0 (And.intro hz1 hz2)))
        have HOLD := Lib.hid HB4.out
        obtain ⟨wq, hwq⟩ : ∃ w : World, w = wr := ⟨_, rfl⟩
        rw [← hwq]
        rw [← hwq] at HBX HLP HPS hbw hy3
        clear hall HI hi0 hz0 hz1 hz2 hwq
        go_wp2
        go_loopw [8, 12, 13, 14] (fun ov iv av _ wr => ∃ (i : Nat) (o : List Nat) (q8 : Option Addr) (c8 : Nat), i ≤ R.length ∧ iv = .int .i64 i ∧ av = .int .i64 ((atR R i : Nat) : Int) ∧ ov = .slice q8 (o.length + 1) c8 ∧ o.length ≤ 7 * i ∧ Hid (PassIn w4 F c R q8 c8 i o wr)) (fun _ iv _ _ _ => R.length - (intOf iv).toNat)
        case atStart => exact ⟨0, [], _, _, Nat.zero_le _, rfl, rfl, rfl, Nat.le_refl _, HPS⟩
        case round =>
          obtain ⟨i, o, q8, c8, hi, rfl, rfl, rfl, hol, HP⟩ := hrel
          by_cases hiR : i < R.length
          · have hn1 := HN1.out
            have hfit0 := atR_fit R i hiR
            have hrp : 1 ≤ R[i].length := by rw [HRL.out i hiR]; split <;> omega
            obtain ⟨t, ht⟩ : ∃ t, t = atR R i := ⟨_, rfl⟩
            rw [← ht]
            rw [← ht] at hfit0
            have htn : t < nw := by omega
            have HTA := Lib.hid ht.symm
            clear ht hfit0 hrp hn1
            by_cases hmore : i < n8
            · obtain ⟨b8, o8, rfl, hwc⟩ := HWS.out.cell (by omega)
              have hwl := HWS.out.len
              have hxw := below_cell (below_then HOLD.out hw4s HP.out.b) (hwc i (by omega))
              have hx64 := HWS.out.big ws[i] (List.getElem_mem (by omega))
              obtain ⟨x, hx⟩ : ∃ x, x = ws[i] := ⟨_, rfl⟩
              rw [← hx] at hxw hx64
              have hand := andNot_three x hx64
              obtain ⟨jk0, jk1, jk2, jk3⟩ := junk_kind x
              clear hwc hwl hx
              have hcase : i % 2 = 0 ∨ i % 2 = 1 := by omega
              rcases hcase with he | he
              · have hr1 : Int.tmod (i : Int) 2 = 0 := (Int.tmod_eq_emod_of_nonneg (by omega)).trans (by omega)
                have hr2 : (i : Int) % 2 = 0 := by omega
                have hor := or_zero x hx64
                obtain ⟨z, hz⟩ : ∃ z, z = x / 4 * 4 := ⟨_, rfl⟩
                have hzk : kindN z ≠ 1 ∧ kindN z ≠ 2 ∧ z < 18446744073709551616 := by rw [hz]; exact ⟨jk0, jk1, by omega⟩
                rw [← hz] at hand hor
                clear hz he
                have hbA : Below wr.heap.size wr (wr.alloc (.cells #[.int .u64 (z : Int)] 37)) := (Below.refl _ _).alloc (Nat.le_refl _) _
                have HPA := Lib.hid (HP.out.on hbA)
                have HNA := Lib.hid (show ∀ j u, ([z].map nv)[j]? = some u → (wr.alloc (.cells #[.int .u64 (z : Int)] 37)).cell? ((⟨wr.heap.size, 0, none⟩ : Addr).add j) = some u from news_words [z] rfl rfl)
                have HOA := Lib.hid (show ∀ u ∈ [z].map nv, u.oneCell' = true from fun v hv => by rw [List.mem_singleton.1 hv]; rfl)
                clear hbA
                go_upto_region 19 with (at_builtin; refine wpList_append_own _ rfl _ _ 32 rfl w4.heap.size 37 i0 (.int .u64 0) 1 8 Tryd.underlying32 HI9.out.1 HI9.out.2.1 HI9.out.2.2.1 HI9.out.2.2.2 rfl (by decide) _ _ _ rfl HPA.out.own ⟨wr.heap.size, 0, none⟩ 1 1 ([z].map nv) rfl rfl HNA.out HOA.out (by unfold maxLen; omega) (by omega) HPA.out.b.size ?_; intro v5 w5 hown' hgrow _; obtain ⟨q7, c7, rfl⟩ := owns_slice hown'; have XX := Lib.hid (And.intro hown' hgrow); clear hown' hgrow)
                obtain ⟨oz, hoz⟩ : ∃ l, l = o ++ [z] := ⟨_, rfl⟩
                have hozl : oz.length = o.length + 1 := by rw [hoz]; simp
                have HPB := Lib.hid (show PassIn w4 F c R q7 c7 i oz w5 by rw [hoz]; exact HPA.out.app (m := 1) XX.out.2 XX.out.1 rfl (mixed_junk HP.out.mix z hzk.1 hzk.2.1) (fun x hx => by rw [List.mem_singleton.1 hx]; exact hzk.2.2))
                clear HP HPA XX hoz hzk hand hor hr1 hr2 hxw hx64 jk0 jk1 jk2 jk3
                rw [← hozl]
                have hol' : oz.length ≤ 7 * i + 1 := by omega
                clear hozl hol
                by_cases hiT : i < T
                · have hfit := atR_fit R i hiR
                  have hn1 := HN1.out
                  have hrl : R[i].length = 6 := by rw [HRL.out i hiR]; rw [if_pos (by omega)]
                  have hsucc := atR_succ R i hiR
                  rw [hrl, HTA.out] at hfit hsucc
                  obtain ⟨rec, hrec⟩ : ∃ r, r = R[i] := ⟨_, rfl⟩
                  have hcut : ∀ w, (Instr.slice 32 (.slice (some ⟨b5, o5, none⟩) nw c5) (some (.int .i64 (t : Int))) (some (.int .i64 ((t : Int) + 6))) none).run Tryd.prog w = .ok (.slice (some ⟨b5, o5 + t, none⟩) 6 (c5 - t)) w := run_midW b5 o5 nw c5 t 6 (by omega) (by omega) hnc
                  have ht6 : t + 6 ≤ nw := by omega
                  have HSUC := Lib.hid hsucc
                  have htn6 : t < nw := by omega
                  clear hfit hsucc hn1 htn6
                  have HNW := Lib.hid (show ∀ j u, (rec.map nv)[j]? = some u → w5.cell? ((⟨b5, o5 + t, none⟩ : Addr).add j) = some u from fun j u hj => by
                    rw [List.getElem?_map, Option.map_eq_some_iff] at hj
                    obtain ⟨x, hx, rfl⟩ := hj
                    rw [hrec] at hx
                    obtain ⟨hj1, rfl⟩ := List.getElem?_eq_some_iff.1 hx
                    have h1 := HCS.out _ _ (word_at F R i hiR j hj1)
                    rw [HTA.out] at h1
                    rw [addr_add_off, Nat.add_assoc]
                    exact below_cell HPB.out.b h1)
                  have HON := Lib.hid (show ∀ u ∈ rec.map nv, u.oneCell' = true from fun v hv => by obtain ⟨x, _, rfl⟩ := List.mem_map.1 hv; rfl)
                  have HLR := Lib.hid (show (rec.map nv).length = 6 * 1 by rw [List.length_map, hrec, hrl])
                  have HMX := Lib.hid (show Mixed c R (i + 1) (oz ++ rec) ∧ rec.length = 6 ∧ ∀ x ∈ rec, x < 18446744073709551616 from by rw [hrec]; exact ⟨mixed_rec HPB.out.mix hiR (HWH.out _ (List.getElem_mem hiR)), hrl, fun x hx => HLT.out R[i] (List.getElem_mem hiR) x hx⟩)
                  clear hrec hrl
                  go_wp2_with (at_builtin; refine wpList_append_own _ rfl _ _ 32 rfl w4.heap.size 37 i0 (.int .u64 0) 1 8 Tryd.underlying32 HI9.out.1 HI9.out.2.1 HI9.out.2.2.1 HI9.out.2.2.2 rfl (by decide) _ _ _ rfl HPB.out.own ⟨b5, o5 + t, none⟩ 6 (c5 - t) (rec.map nv) rfl HLR.out HNW.out HON.out (by unfold maxLen; omega) (by omega) HPB.out.b.size ?_; intro v5 w5 hown' hgrow _; obtain ⟨q9, c9, rfl⟩ := owns_slice hown'; have XX := Lib.hid (And.intro hown' hgrow); clear hown' hgrow)
                  have HQ := Lib.hid (HPB.out.app (m := 6) XX.out.2 XX.out.1 HMX.out.2.1 HMX.out.1 HMX.out.2.2)
                  have hol : (oz ++ rec).length + 1 = oz.length + 1 + 6 := by rw [List.length_append]; have := HMX.out.2.1; omega
                  have hta : t + 6 = atR R (i + 1) := HSUC.out.symm
                  rw [← hol]
                  have HOL := Lib.hid hol
                  have hol7 : (oz ++ rec).length ≤ 7 * (i + 1) := by rw [List.length_append]; have := HMX.out.2.1; omega
                  clear hol XX hcut
                  go_wp2
                  go_roundw
                  case rel => exact ⟨i + 1, oz ++ rec, q9, c9, by omega, by go_num, congrArg (Value.int .i64) (by have := hta; omega), rfl, hol7, HQ⟩
                  case measure => simp [intOf]; omega
                · have hfit := atR_fit R i hiR
                  have hn1 := HN1.out
                  have hrl : R[i].length = 1 := by rw [HRL.out i hiR]; rw [if_neg (by omega)]
                  have hsucc := atR_succ R i hiR
                  rw [hrl, HTA.out] at hfit hsucc
                  obtain ⟨rec, hrec⟩ : ∃ r, r = R[i] := ⟨_, rfl⟩
                  have hcut : ∀ w, (Instr.slice 32 (.slice (some ⟨b5, o5, none⟩) nw c5) (some (.int .i64 (t : Int))) (some (.int .i64 ((t : Int) + 1))) none).run Tryd.prog w = .ok (.slice (some ⟨b5, o5 + t, none⟩) 1 (c5 - t)) w := run_midW b5 o5 nw c5 t 1 (by omega) (by omega) hnc
                  have ht6 : t + 1 ≤ nw := by omega
                  have HSUC := Lib.hid hsucc
                  have htn6 : t < nw := by omega
                  clear hfit hsucc hn1 htn6
                  have HNW := Lib.hid (show ∀ j u, (rec.map nv)[j]? = some u → w5.cell? ((⟨b5, o5 + t, none⟩ : Addr).add j) = some u from fun j u hj => by
                    rw [List.getElem?_map, Option.map_eq_some_iff] at hj
                    obtain ⟨x, hx, rfl⟩ := hj
                    rw [hrec] at hx
                    obtain ⟨hj1, rfl⟩ := List.getElem?_eq_some_iff.1 hx
                    have h1 := HCS.out _ _ (word_at F R i hiR j hj1)
                    rw [HTA.out] at h1
                    rw [addr_add_off, Nat.add_assoc]
                    exact below_cell HPB.out.b h1)
                  have HON := Lib.hid (show ∀ u ∈ rec.map nv, u.oneCell' = true from fun v hv => by obtain ⟨x, _, rfl⟩ := List.mem_map.1 hv; rfl)
                  have HLR := Lib.hid (show (rec.map nv).length = 1 * 1 by rw [List.length_map, hrec, hrl])
                  have HMX := Lib.hid (show Mixed c R (i + 1) (oz ++ rec) ∧ rec.length = 1 ∧ ∀ x ∈ rec, x < 18446744073709551616 from by rw [hrec]; exact ⟨mixed_rec HPB.out.mix hiR (HWH.out _ (List.getElem_mem hiR)), hrl, fun x hx => HLT.out R[i] (List.getElem_mem hiR) x hx⟩)
                  clear hrec hrl
                  go_wp2_with (at_builtin; refine wpList_append_own _ rfl _ _ 32 rfl w4.heap.size 37 i0 (.int .u64 0) 1 8 Tryd.underlying32 HI9.out.1 HI9.out.2.1 HI9.out.2.2.1 HI9.out.2.2.2 rfl (by decide) _ _ _ rfl HPB.out.own ⟨b5, o5 + t, none⟩ 1 (c5 - t) (rec.map nv) rfl HLR.out HNW.out HON.out (by unfold maxLen; omega) (by omega) HPB.out.b.size ?_; intro v5 w5 hown' hgrow _; obtain ⟨q9, c9, rfl⟩ := owns_slice hown'; have XX := Lib.hid (And.intro hown' hgrow); clear hown' hgrow)
                  have HQ := Lib.hid (HPB.out.app (m := 1) XX.out.2 XX.out.1 HMX.out.2.1 HMX.out.1 HMX.out.2.2)
                  have hol : (oz ++ rec).length + 1 = oz.length + 1 + 1 := by rw [List.length_append]; have := HMX.out.2.1; omega
                  have hta : t + 1 = atR R (i + 1) := HSUC.out.symm
                  rw [← hol]
                  have HOL := Lib.hid hol
                  have hol7 : (oz ++ rec).length ≤ 7 * (i + 1) := by rw [List.length_append]; have := HMX.out.2.1; omega
                  clear hol XX hcut
                  go_wp2
                  go_roundw
                  case rel => exact ⟨i + 1, oz ++ rec, q9, c9, by omega, by go_num, congrArg (Value.int .i64) (by have := hta; omega), rfl, hol7, HQ⟩
                  case measure => simp [intOf]; omega
              · have hr1 : Int.tmod (i : Int) 2 = 1 := (Int.tmod_eq_emod_of_nonneg (by omega)).trans (by omega)
                have hr2 : (i : Int) % 2 = 1 := by omega
                have hor := or_three x hx64
                obtain ⟨z, hz⟩ : ∃ z, z = x / 4 * 4 + 3 := ⟨_, rfl⟩
                have hzk : kindN z ≠ 1 ∧ kindN z ≠ 2 ∧ z < 18446744073709551616 := by rw [hz]; exact ⟨jk2, jk3, by omega⟩
                obtain ⟨z4, hz4⟩ : ∃ z, z = x / 4 * 4 := ⟨_, rfl⟩
                rw [← hz4] at hand
                rw [← hz, ← hz4] at hor
                clear hz he hz4
                have hbA : Below wr.heap.size wr (wr.alloc (.cells #[.int .u64 (z : Int)] 37)) := (Below.refl _ _).alloc (Nat.le_refl _) _
                have HPA := Lib.hid (HP.out.on hbA)
                have HNA := Lib.hid (show ∀ j u, ([z].map nv)[j]? = some u → (wr.alloc (.cells #[.int .u64 (z : Int)] 37)).cell? ((⟨wr.heap.size, 0, none⟩ : Addr).add j) = some u from news_words [z] rfl rfl)
                have HOA := Lib.hid (show ∀ u ∈ [z].map nv, u.oneCell' = true from fun v hv => by rw [List.mem_singleton.1 hv]; rfl)
                clear hbA
                go_upto_region 19 with (at_builtin; refine wpList_append_own _ rfl _ _ 32 rfl w4.heap.size 37 i0 (.int .u64 0) 1 8 Tryd.underlying32 HI9.out.1 HI9.out.2.1 HI9.out.2.2.1 HI9.out.2.2.2 rfl (by decide) _ _ _ rfl HPA.out.own ⟨wr.heap.size, 0, none⟩ 1 1 ([z].map nv) rfl rfl HNA.out HOA.out (by unfold maxLen; omega) (by omega) HPA.out.b.size ?_; intro v5 w5 hown' hgrow _; obtain ⟨q7, c7, rfl⟩ := owns_slice hown'; have XX := Lib.hid (And.intro hown' hgrow); clear hown' hgrow)
                obtain ⟨oz, hoz⟩ : ∃ l, l = o ++ [z] := ⟨_, rfl⟩
                have hozl : oz.length = o.length + 1 := by rw [hoz]; simp
                have HPB := Lib.hid (show PassIn w4 F c R q7 c7 i oz w5 by rw [hoz]; exact HPA.out.app (m := 1) XX.out.2 XX.out.1 rfl (mixed_junk HP.out.mix z hzk.1 hzk.2.1) (fun x hx => by rw [List.mem_singleton.1 hx]; exact hzk.2.2))
                clear HP HPA XX hoz hzk hand hor hr1 hr2 hxw hx64 jk0 jk1 jk2 jk3
                rw [← hozl]
                have hol' : oz.length ≤ 7 * i + 1 := by omega
                clear hozl hol
                by_cases hiT : i < T
                · have hfit := atR_fit R i hiR
                  have hn1 := HN1.out
                  have hrl : R[i].length = 6 := by rw [HRL.out i hiR]; rw [if_pos (by omega)]
                  have hsucc := atR_succ R i hiR
                  rw [hrl, HTA.out] at hfit hsucc
                  obtain ⟨rec, hrec⟩ : ∃ r, r = R[i] := ⟨_, rfl⟩
                  have hcut : ∀ w, (Instr.slice 32 (.slice (some ⟨b5, o5, none⟩) nw c5) (some (.int .i64 (t : Int))) (some (.int .i64 ((t : Int) + 6))) none).run Tryd.prog w = .ok (.slice (some ⟨b5, o5 + t, none⟩) 6 (c5 - t)) w := run_midW b5 o5 nw c5 t 6 (by omega) (by omega) hnc
                  have ht6 : t + 6 ≤ nw := by omega
                  have HSUC := Lib.hid hsucc
                  have htn6 : t < nw := by omega
                  clear hfit hsucc hn1 htn6
                  have HNW := Lib.hid (show ∀ j u, (rec.map nv)[j]? = some u → w5.cell? ((⟨b5, o5 + t, none⟩ : Addr).add j) = some u from fun j u hj => by
                    rw [List.getElem?_map, Option.map_eq_some_iff] at hj
                    obtain ⟨x, hx, rfl⟩ := hj
                    rw [hrec] at hx
                    obtain ⟨hj1, rfl⟩ := List.getElem?_eq_some_iff.1 hx
                    have h1 := HCS.out _ _ (word_at F R i hiR j hj1)
                    rw [HTA.out] at h1
                    rw [addr_add_off, Nat.add_assoc]
                    exact below_cell HPB.out.b h1)
                  have HON := Lib.hid (show ∀ u ∈ rec.map nv, u.oneCell' = true from fun v hv => by obtain ⟨x, _, rfl⟩ := List.mem_map.1 hv; rfl)
                  have HLR := Lib.hid (show (rec.map nv).length = 6 * 1 by rw [List.length_map, hrec, hrl])
                  have HMX := Lib.hid (show Mixed c R (i + 1) (oz ++ rec) ∧ rec.length = 6 ∧ ∀ x ∈ rec, x < 18446744073709551616 from by rw [hrec]; exact ⟨mixed_rec HPB.out.mix hiR (HWH.out _ (List.getElem_mem hiR)), hrl, fun x hx => HLT.out R[i] (List.getElem_mem hiR) x hx⟩)
                  clear hrec hrl
                  go_wp2_with (at_builtin; refine wpList_append_own _ rfl _ _ 32 rfl w4.heap.size 37 i0 (.int .u64 0) 1 8 Tryd.underlying32 HI9.out.1 HI9.out.2.1 HI9.out.2.2.1 HI9.out.2.2.2 rfl (by decide) _ _ _ rfl HPB.out.own ⟨b5, o5 + t, none⟩ 6 (c5 - t) (rec.map nv) rfl HLR.out HNW.out HON.out (by unfold maxLen; omega) (by omega) HPB.out.b.size ?_; intro v5 w5 hown' hgrow _; obtain ⟨q9, c9, rfl⟩ := owns_slice hown'; have XX := Lib.hid (And.intro hown' hgrow); clear hown' hgrow)
                  have HQ := Lib.hid (HPB.out.app (m := 6) XX.out.2 XX.out.1 HMX.out.2.1 HMX.out.1 HMX.out.2.2)
                  have hol : (oz ++ rec).length + 1 = oz.length + 1 + 6 := by rw [List.length_append]; have := HMX.out.2.1; omega
                  have hta : t + 6 = atR R (i + 1) := HSUC.out.symm
                  rw [← hol]
                  have HOL := Lib.hid hol
                  have hol7 : (oz ++ rec).length ≤ 7 * (i + 1) := by rw [List.length_append]; have := HMX.out.2.1; omega
                  clear hol XX hcut
                  go_wp2
                  go_roundw
                  case rel => exact ⟨i + 1, oz ++ rec, q9, c9, by omega, by go_num, congrArg (Value.int .i64) (by have := hta; omega), rfl, hol7, HQ⟩
                  case measure => simp [intOf]; omega
                · have hfit := atR_fit R i hiR
                  have hn1 := HN1.out
                  have hrl : R[i].length = 1 := by rw [HRL.out i hiR]; rw [if_neg (by omega)]
                  have hsucc := atR_succ R i hiR
                  rw [hrl, HTA.out] at hfit hsucc
                  obtain ⟨rec, hrec⟩ : ∃ r, r = R[i] := ⟨_, rfl⟩
                  have hcut : ∀ w, (Instr.slice 32 (.slice (some ⟨b5, o5, none⟩) nw c5) (some (.int .i64 (t : Int))) (some (.int .i64 ((t : Int) + 1))) none).run Tryd.prog w = .ok (.slice (some ⟨b5, o5 + t, none⟩) 1 (c5 - t)) w := run_midW b5 o5 nw c5 t 1 (by omega) (by omega) hnc
                  have ht6 : t + 1 ≤ nw := by omega
                  have HSUC := Lib.hid hsucc
                  have htn6 : t < nw := by omega
                  clear hfit hsucc hn1 htn6
                  have HNW := Lib.hid (show ∀ j u, (rec.map nv)[j]? = some u → w5.cell? ((⟨b5, o5 + t, none⟩ : Addr).add j) = some u from fun j u hj => by
                    rw [List.getElem?_map, Option.map_eq_some_iff] at hj
                    obtain ⟨x, hx, rfl⟩ := hj
                    rw [hrec] at hx
                    obtain ⟨hj1, rfl⟩ := List.getElem?_eq_some_iff.1 hx
                    have h1 := HCS.out _ _ (word_at F R i hiR j hj1)
                    rw [HTA.out] at h1
                    rw [addr_add_off, Nat.add_assoc]
                    exact below_cell HPB.out.b h1)
                  have HON := Lib.hid (show ∀ u ∈ rec.map nv, u.oneCell' = true from fun v hv => by obtain ⟨x, _, rfl⟩ := List.mem_map.1 hv; rfl)
                  have HLR := Lib.hid (show (rec.map nv).length = 1 * 1 by rw [List.length_map, hrec, hrl])
                  have HMX := Lib.hid (show Mixed c R (i + 1) (oz ++ rec) ∧ rec.length = 1 ∧ ∀ x ∈ rec, x < 18446744073709551616 from by rw [hrec]; exact ⟨mixed_rec HPB.out.mix hiR (HWH.out _ (List.getElem_mem hiR)), hrl, fun x hx => HLT.out R[i] (List.getElem_mem hiR) x hx⟩)
                  clear hrec hrl
                  go_wp2_with (at_builtin; refine wpList_append_own _ rfl _ _ 32 rfl w4.heap.size 37 i0 (.int .u64 0) 1 8 Tryd.underlying32 HI9.out.1 HI9.out.2.1 HI9.out.2.2.1 HI9.out.2.2.2 rfl (by decide) _ _ _ rfl HPB.out.own ⟨b5, o5 + t, none⟩ 1 (c5 - t) (rec.map nv) rfl HLR.out HNW.out HON.out (by unfold maxLen; omega) (by omega) HPB.out.b.size ?_; intro v5 w5 hown' hgrow _; obtain ⟨q9, c9, rfl⟩ := owns_slice hown'; have XX := Lib.hid (And.intro hown' hgrow); clear hown' hgrow)
                  have HQ := Lib.hid (HPB.out.app (m := 1) XX.out.2 XX.out.1 HMX.out.2.1 HMX.out.1 HMX.out.2.2)
                  have hol : (oz ++ rec).length + 1 = oz.length + 1 + 1 := by rw [List.length_append]; have := HMX.out.2.1; omega
                  have hta : t + 1 = atR R (i + 1) := HSUC.out.symm
                  rw [← hol]
                  have HOL := Lib.hid hol
                  have hol7 : (oz ++ rec).length ≤ 7 * (i + 1) := by rw [List.length_append]; have := HMX.out.2.1; omega
                  clear hol XX hcut
                  go_wp2
                  go_roundw
                  case rel => exact ⟨i + 1, oz ++ rec, q9, c9, by omega, by go_num, congrArg (Value.int .i64) (by have := hta; omega), rfl, hol7, HQ⟩
                  case measure => simp [intOf]; omega
            · by_cases hiT : i < T
              · have hfit := atR_fit R i hiR
                have hn1 := HN1.out
                have hrl : R[i].length = 6 := by rw [HRL.out i hiR]; rw [if_pos (by omega)]
                have hsucc := atR_succ R i hiR
                rw [hrl, HTA.out] at hfit hsucc
                obtain ⟨rec, hrec⟩ : ∃ r, r = R[i] := ⟨_, rfl⟩
                have hcut : ∀ w, (Instr.slice 32 (.slice (some ⟨b5, o5, none⟩) nw c5) (some (.int .i64 (t : Int))) (some (.int .i64 ((t : Int) + 6))) none).run Tryd.prog w = .ok (.slice (some ⟨b5, o5 + t, none⟩) 6 (c5 - t)) w := run_midW b5 o5 nw c5 t 6 (by omega) (by omega) hnc
                have ht6 : t + 6 ≤ nw := by omega
                have HSUC := Lib.hid hsucc
                have htn6 : t < nw := by omega
                clear hfit hsucc hn1 htn6
                have HNW := Lib.hid (show ∀ j u, (rec.map nv)[j]? = some u → wr.cell? ((⟨b5, o5 + t, none⟩ : Addr).add j) = some u from fun j u hj => by
                  rw [List.getElem?_map, Option.map_eq_some_iff] at hj
                  obtain ⟨x, hx, rfl⟩ := hj
                  rw [hrec] at hx
                  obtain ⟨hj1, rfl⟩ := List.getElem?_eq_some_iff.1 hx
                  have h1 := HCS.out _ _ (word_at F R i hiR j hj1)
                  rw [HTA.out] at h1
                  rw [addr_add_off, Nat.add_assoc]
                  exact below_cell HP.out.b h1)
                have HON := Lib.hid (show ∀ u ∈ rec.map nv, u.oneCell' = true from fun v hv => by obtain ⟨x, _, rfl⟩ := List.mem_map.1 hv; rfl)
                have HLR := Lib.hid (show (rec.map nv).length = 6 * 1 by rw [List.length_map, hrec, hrl])
                have HMX := Lib.hid (show Mixed c R (i + 1) (o ++ rec) ∧ rec.length = 6 ∧ ∀ x ∈ rec, x < 18446744073709551616 from by rw [hrec]; exact ⟨mixed_rec HP.out.mix hiR (HWH.out _ (List.getElem_mem hiR)), hrl, fun x hx => HLT.out R[i] (List.getElem_mem hiR) x hx⟩)
                clear hrec hrl
                go_wp2_with (at_builtin; refine wpList_append_own _ rfl _ _ 32 rfl w4.heap.size 37 i0 (.int .u64 0) 1 8 Tryd.underlying32 HI9.out.1 HI9.out.2.1 HI9.out.2.2.1 HI9.out.2.2.2 rfl (by decide) _ _ _ rfl HP.out.own ⟨b5, o5 + t, none⟩ 6 (c5 - t) (rec.map nv) rfl HLR.out HNW.out HON.out (by unfold maxLen; omega) (by omega) HP.out.b.size ?_; intro v5 w5 hown' hgrow _; obtain ⟨q9, c9, rfl⟩ := owns_slice hown'; have XX := Lib.hid (And.intro hown' hgrow); clear hown' hgrow)
                have HQ := Lib.hid (HP.out.app (m := 6) XX.out.2 XX.out.1 HMX.out.2.1 HMX.out.1 HMX.out.2.2)
                have hol : (o ++ rec).length + 1 = o.length + 1 + 6 := by rw [List.length_append]; have := HMX.out.2.1; omega
                have hta : t + 6 = atR R (i + 1) := HSUC.out.symm
                rw [← hol]
                have HOL := Lib.hid hol
                have hol7 : (o ++ rec).length ≤ 7 * (i + 1) := by rw [List.length_append]; have := HMX.out.2.1; omega
                clear hol XX hcut
                go_wp2
                go_roundw
                case rel => exact ⟨i + 1, o ++ rec, q9, c9, by omega, by go_num, congrArg (Value.int .i64) (by have := hta; omega), rfl, hol7, HQ⟩
                case measure => simp [intOf]; omega
              · have hfit := atR_fit R i hiR
                have hn1 := HN1.out
                have hrl : R[i].length = 1 := by rw [HRL.out i hiR]; rw [if_neg (by omega)]
                have hsucc := atR_succ R i hiR
                rw [hrl, HTA.out] at hfit hsucc
                obtain ⟨rec, hrec⟩ : ∃ r, r = R[i] := ⟨_, rfl⟩
                have hcut : ∀ w, (Instr.slice 32 (.slice (some ⟨b5, o5, none⟩) nw c5) (some (.int .i64 (t : Int))) (some (.int .i64 ((t : Int) + 1))) none).run Tryd.prog w = .ok (.slice (some ⟨b5, o5 + t, none⟩) 1 (c5 - t)) w := run_midW b5 o5 nw c5 t 1 (by omega) (by omega) hnc
                have ht6 : t + 1 ≤ nw := by omega
                have HSUC := Lib.hid hsucc
                have htn6 : t < nw := by omega
                clear hfit hsucc hn1 htn6
                have HNW := Lib.hid (show ∀ j u, (rec.map nv)[j]? = some u → wr.cell? ((⟨b5, o5 + t, none⟩ : Addr).add j) = some u from fun j u hj => by
                  rw [List.getElem?_map, Option.map_eq_some_iff] at hj
                  obtain ⟨x, hx, rfl⟩ := hj
                  rw [hrec] at hx
                  obtain ⟨hj1, rfl⟩ := List.getElem?_eq_some_iff.1 hx
                  have h1 := HCS.out _ _ (word_at F R i hiR j hj1)
                  rw [HTA.out] at h1
                  rw [addr_add_off, Nat.add_assoc]
                  exact below_cell HP.out.b h1)
                have HON := Lib.hid (show ∀ u ∈ rec.map nv, u.oneCell' = true from fun v hv => by obtain ⟨x, _, rfl⟩ := List.mem_map.1 hv; rfl)
                have HLR := Lib.hid (show (rec.map nv).length = 1 * 1 by rw [List.length_map, hrec, hrl])
                have HMX := Lib.hid (show Mixed c R (i + 1) (o ++ rec) ∧ rec.length = 1 ∧ ∀ x ∈ rec, x < 18446744073709551616 from by rw [hrec]; exact ⟨mixed_rec HP.out.mix hiR (HWH.out _ (List.getElem_mem hiR)), hrl, fun x hx => HLT.out R[i] (List.getElem_mem hiR) x hx⟩)
                clear hrec hrl
                go_wp2_with (at_builtin; refine wpList_append_own _ rfl _ _ 32 rfl w4.heap.size 37 i0 (.int .u64 0) 1 8 Tryd.underlying32 HI9.out.1 HI9.out.2.1 HI9.out.2.2.1 HI9.out.2.2.2 rfl (by decide) _ _ _ rfl HP.out.own ⟨b5, o5 + t, none⟩ 1 (c5 - t) (rec.map nv) rfl HLR.out HNW.out HON.out (by unfold maxLen; omega) (by omega) HP.out.b.size ?_; intro v5 w5 hown' hgrow _; obtain ⟨q9, c9, rfl⟩ := owns_slice hown'; have XX := Lib.hid (And.intro hown' hgrow); clear hown' hgrow)
                have HQ := Lib.hid (HP.out.app (m := 1) XX.out.2 XX.out.1 HMX.out.2.1 HMX.out.1 HMX.out.2.2)
                have hol : (o ++ rec).length + 1 = o.length + 1 + 1 := by rw [List.length_append]; have := HMX.out.2.1; omega
                have hta : t + 1 = atR R (i + 1) := HSUC.out.symm
                rw [← hol]
                have HOL := Lib.hid hol
                have hol7 : (o ++ rec).length ≤ 7 * (i + 1) := by rw [List.length_append]; have := HMX.out.2.1; omega
                clear hol XX hcut
                go_wp2
                go_roundw
                case rel => exact ⟨i + 1, o ++ rec, q9, c9, by omega, by go_num, congrArg (Value.int .i64) (by have := hta; omega), rfl, hol7, HQ⟩
                case measure => simp [intOf]; omega
          · obtain rfl : i = R.length := by omega
            have hat : atR R R.length = nw := by rw [atR_all, HN1.out]
            rw [hat]
            clear hat
            obtain ⟨l9, hl9⟩ : ∃ l, l = F :: o := ⟨_, rfl⟩
            obtain ⟨n9, hn9⟩ : ∃ n, n = o.length + 1 := ⟨_, rfl⟩
            have HRW := Lib.hid (show readL l9 = a by rw [hl9, HFR.out.1]; exact mixed_read HOKA.out (by have := HP.out.mix; rw [HFR.out.2.1, HFR.out.2.2.2] at this; exact this))
            have HNL := Lib.hid (show n9 = l9.length by rw [hn9, hl9]; rfl)
            have HOW := Lib.hid (show wr.ownsRow w4.heap.size 37 1 (.slice q8 n9 c8) n9 (l9.map nv) by rw [hn9, hl9]; exact HP.out.own)
            have HL9 := Lib.hid (show ∀ x ∈ l9, x < 18446744073709551616 by rw [hl9]; intro x hx; rcases List.mem_cons.1 hx with rfl | hx; exact HLTW.out _ List.mem_cons_self; exact HP.out.lt x hx)
            have HBW := Lib.hid (HBX4.out.below HP.out.b)
            have HLAW := Lib.hid (And.intro (HLA4.out.1.below HP.out.b) (HLA4.out.2.below HP.out.b))
            have HBR := Lib.hid (below_then HB4.out hw4s HP.out.b)
            rw [← hn9]
            have hrz := HBR.out.size
            clear hl9 hn9 HP hol HPS HLP HBX4 HLA4 HLA5 HBX5 HP5
            go_upto_region 24 with (fail)
            refine wpTwo_begin (T := fun w' => SBlk w' y3 a.c a.g p2 n2 c2 q2 m2 d2) (S := fun _ => True) (late := fun _ => false) (by kernel_rfl) ?_
            obtain ⟨wz, hwz⟩ : ∃ X : World, X = wr.drew := ⟨_, rfl⟩
            have hdz : Below wr.heap.size wr wz := by rw [hwz]; exact (Below.refl _ _).drew
            have HBZ := Lib.hid (below_then HBR.out hrz hdz)
            have hwzs := HBZ.out.size
            have hTz := HBW.out.below hdz
            have HLAZ := Lib.hid (And.intro (HLAW.out.1.below hdz) (HLAW.out.2.below hdz))
            have HOZ := Lib.hid (owns_below HOW.out hdz)
            rw [← hwz]
            clear hwz hdz HBW HLAW HOW
            refine wpTwo_takeT (i := 0) (v := .slice q8 n9 c8) rfl (by kernel_rfl) (by kernel_rfl) (by kernel_rfl) (fun _ _ _ h => h) ⟨by rfl, ?_⟩ hTz ?_
            · intro w _
              go_simp
            (try simp only [Act.put, List.getElem_toArray, List.getElem_cons_zero, List.setIfInBounds_toArray, List.set_cons_succ, List.set_cons_zero])
            refine wpTwo_takeT (i := 2) (v := .agg #[.int .i64 a.c, .int .i64 a.g, .slice p2 n2 c2, .slice q2 m2 d2]) rfl (by kernel_rfl) (by kernel_rfl) (by kernel_rfl) (fun _ _ _ h => h) ⟨by rfl, ?_⟩ hTz ?_
            · intro w hTw
              obtain ⟨hl0, hl1, hl2, hl3⟩ := SBlk.cells hTw
              clear hTw
              go_simp
            (try simp only [Act.put, List.getElem_toArray, List.getElem_cons_succ, List.getElem_cons_zero, List.setIfInBounds_toArray, List.set_cons_succ, List.set_cons_zero])
            refine wpTwo_ready (rs := [1]) (by kernel_rfl) (by simp) ?_
            refine (AllTwo.cons rfl (fun K hK => ?_) AllTwo.nil)
            have hnum : WAt wz q8 n9 c8 l9 := ⟨nums_nv HNL.out.symm HOZ.out, HNL.out, (owns_room HOZ.out).2.1, HL9.out⟩
            have HR9 := Lib.hid (read_c q8 n9 c8 l9 wz hnum (HT.out.below HBZ.out))
            rw [HRW.out] at HR9
            clear hnum
            go_simp
            refine HR9.out.mono ?_
            rintro e w6 ⟨hG, hb6⟩
            obtain ⟨p7, n7, c7, q7, m7, d7, rfl, hl7, hp7⟩ := hG.sat
            have hT6 := hTz.below hb6
            have HB6 := Lib.hid (below_then HBZ.out hwzs hb6)
            have hw6s := HB6.out.size
            have HSM := Lib.hid (same_c _ _ a a w6 ⟨_, _, _, _, _, _, rfl, hl7, hp7⟩ ⟨_, _, _, _, _, _, rfl, HLAZ.out.1.below hb6, HLAZ.out.2.below hb6⟩ HFA.out HFA.out)
            rw [sameB_refl] at HSM
            go_wp2_with fail
            refine hK.out _ _ ⟨hT6, fun _ _ => trivial⟩ ?_
            clear hK K hb6 hTz hG hl7 hp7 HLAZ HOZ HR9
            (try simp only [Act.put, List.getElem_toArray, List.getElem_cons_succ, List.getElem_cons_zero, List.setIfInBounds_toArray, List.set_cons_succ, List.set_cons_zero])
            refine wpTwo_ready (rs := [3]) (by kernel_rfl) (by simp) ?_
            refine (AllTwo.cons rfl (fun K hK => ?_) AllTwo.nil)
            go_simp
            refine HSM.out.mono ?_
            rintro e w7 ⟨rfl, hb7⟩
            have hT7 := hT6.below hb7
            have HBX := Lib.hid (below_then HB6.out hw6s hb7)
            go_wp2_with fail
            refine hK.out _ _ ⟨hT7, fun _ _ => trivial⟩ ?_
            clear hK K hb7 hT6 HSM
            (try simp only [Act.put, List.getElem_toArray, List.getElem_cons_succ, List.getElem_cons_zero, List.setIfInBounds_toArray, List.set_cons_succ, List.set_cons_zero])
            refine wpTwo_takeT (i := 4) (v := .bool true) rfl (by kernel_rfl) (by kernel_rfl) (by kernel_rfl) (fun _ _ _ h => h) ⟨by rfl, ?_⟩ hT7 ?_
            · intro w _
              go_simp
            (try simp only [Act.put, List.getElem_toArray, List.getElem_cons_succ, List.getElem_cons_zero, List.setIfInBounds_toArray, List.set_cons_succ, List.set_cons_zero])
            refine wpTwo_end (by kernel_rfl) ?_ _
            clear hT7
            go_wp2
            go_ret
            exact ⟨rfl, HBX.out⟩

end Go.Proofs.YtjgdkfgcfningaaDoor
