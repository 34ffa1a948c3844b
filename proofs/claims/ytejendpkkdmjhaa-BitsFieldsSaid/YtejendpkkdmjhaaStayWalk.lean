/-
  The walk of BitsStay: it returns true, for every row of fields, word, and row of words, and leaves memory as it was.
  Conditions: the arguments are in the ranges of Go's types.
-/
import Derived.Test.YtejendpkkdmjhaaStayLib
import Derived.Test.YtejendpkkdmjhaaWakes
import Derived.Deep.CutBlock
import Derived.Deep.DeepCutAuto
namespace Go.Proofs.Ytejendpkkdmjhaa
open Go.RowKit Go.Shelf

theorem take_get {l : List Value} {n j : Nat} {u : Value} (h : (l.take n)[j]? = some u) : l[j]? = some u := by
  rw [List.getElem?_take] at h
  split at h
  · exact h
  · cases h
theorem packL_lt {fs : List (Int × Int)} {vs : List Int} {T : Nat} (h : chkTo fs = some T) (hfit : allFit (fs.zip vs) = true) : packL (fs.zip vs) < 18446744073709551616 := by
  have hfs := chk_field h
  have hall : ∀ x ∈ fs.zip vs, isF x.1.1 x.1.2 = true ∧ fitsB x.2.toNat x.1.2.toNat = true := fun x hx => ⟨hfs _ (List.of_mem_zip hx).1, List.all_eq_true.1 hfit x hx⟩
  unfold packL
  generalize fs.zip vs = l at hall
  suffices ∀ (l : List ((Int × Int) × Int)) (w : Nat), w < 18446744073709551616 → (∀ x ∈ l, isF x.1.1 x.1.2 = true ∧ fitsB x.2.toNat x.1.2.toNat = true) → l.foldl (fun w x => w ||| x.2.toNat * 2 ^ x.1.1.toNat) w < 18446744073709551616 from this l 0 (by decide) hall
  intro l
  induction l with
  | nil => intro w hw _; exact hw
  | cons x l ih =>
    intro w hw hx
    obtain ⟨h1, h2⟩ := hx x (List.mem_cons_self ..)
    obtain ⟨f1, f2, f3⟩ := isF_iff.1 h1
    exact ih _ (pack_or w x.2.toNat x.1.1.toNat x.1.2.toNat hw (of_decide_eq_true (show decide (x.2.toNat < 2 ^ x.1.2.toNat) = true from h2)) (by omega)).2 fun y hy => hx y (List.mem_cons_of_mem _ hy)
theorem int_map_inj {xs ys : List Int} (h : xs.map (Value.int .u64) = ys.map (Value.int .u64)) : xs = ys := by
  refine List.map_inj_right (f := Value.int .u64) (fun a b e => ?_) |>.1 h
  injection e
theorem split_setI {fs : List (Int × Int)} {T : Nat} (h : chkTo fs = some T) (w v i : Nat) (hi : i < fs.length) (hv : v < 2 ^ fK fs[i]) :
    (splitV w fs).set i (.int .u64 (v : Nat)) = (splitI (setN w (fA fs[i]) (fK fs[i]) v) fs).map (Value.int .u64) := by
  rw [← splitV_map, split_set h w v i hi hv]
/-- What Pack answers. -/
def PackSays (fs : List (Int × Int)) (vs : List Int) (v e : Int) : Prop :=
  (e ≠ 0 ∧ v = 0) ∨ (∃ T, e = 0 ∧ chkTo fs = some T ∧ fs.length = vs.length ∧ allFit (fs.zip vs) = true ∧ v = (packL (fs.zip vs) : Nat))
theorem own_form {X : World} {B : Nat} {E : TypeId} {v : Value} {n : Nat} {xs : List Value} (h : X.ownsRow B E 1 v n xs) (hn : 0 < n) : ∃ g cap, v = .slice (some ⟨g, 0, none⟩) n cap ∧ B ≤ g ∧ g < X.heap.size := by
  rcases h.2 with ⟨_, h0⟩ | ⟨g, cap, cur, rfl, hb, hc, _⟩
  · omega
  · exact ⟨g, cap, rfl, hb, (Array.getElem?_eq_some_iff.1 hc).1⟩
theorem nums_of_owns2 {B : Nat} {E : TypeId} {X : World} {v : Value} {k : IntKind} {ns : List Int} {n : Nat} (hl : ns.length = n) (h : X.ownsRow B E 1 v n (ns.map (Value.int k))) : NumsAt X k v ns := by
  subst hl; exact nums_of_owns h
theorem pack_nat {fs : List (Int × Int)} {vs : List Int} {v e : Int} (h : PackSays fs vs v e) : ∃ n : Nat, v = n := by
  rcases h with ⟨_, rfl⟩ | ⟨_, _, _, _, _, rfl⟩
  · exact ⟨0, rfl⟩
  · exact ⟨_, rfl⟩
theorem pack_any (v0 v1 : Value) (fs : List (Int × Int)) (vs : List Int) (W : World) (hv : FieldsAt W v0 fs) (hv1 : NumsAt W .u64 v1 vs) (hvs : ∀ x ∈ vs, 0 ≤ x ∧ x ≤ 18446744073709551615) (hlen : fs.length ≤ 1099511627776) :
    Calls Try.prog 15 #[v0, v1] W fun e w' => (∃ v c, PackSays fs vs v c ∧ e = .returned (.tuple #[.int .u64 v, .int .i64 c])) ∧ Below W.heap.size W w' := by
  cases hc : chkTo fs with
  | none => exact (pack_no v0 v1 fs W hv hlen hc).mono fun e w' ⟨he, hb⟩ => ⟨⟨_, _, .inl ⟨by decide, rfl⟩, he⟩, hb⟩
  | some T =>
    by_cases hl : fs.length = vs.length
    · refine (pack_yes v0 v1 fs vs W hv hv1 hvs hlen T hc hl).mono fun e w' ⟨he, hb⟩ => ⟨⟨_, _, ?_, he⟩, hb⟩
      unfold packV packE
      by_cases hf : allFit (fs.zip vs) = true
      · rw [if_pos hf, if_pos hf]
        exact .inr ⟨T, rfl, hc, hl, hf, rfl⟩
      · rw [if_neg hf, if_neg hf]
        exact .inl ⟨by decide, rfl⟩
    · exact (pack_len v0 v1 fs vs W hv hv1 hlen T hc hl).mono fun e w' ⟨he, hb⟩ => ⟨⟨_, _, .inl ⟨by decide, rfl⟩, he⟩, hb⟩
theorem cellB {W W' : World} {p : Addr} {v : Value} (hb : Below W.heap.size W W') (h : W.cell? p = some v) : W'.cell? p = some v := below_cell hb h

set_option maxRecDepth 100000 in
set_option maxHeartbeats 8000000 in
theorem bitsStay_walk (v0 v2 : Value) (fs : List (Int × Int)) (vs : List Int) (w : Nat) (hw : w < 18446744073709551616) (W : World) (hv0 : ArgF W v0 fs) (hv2 : ArgW W v2 vs) (hfr : FRange fs)
    (hvr : ∀ x ∈ vs, 0 ≤ x ∧ x ≤ 18446744073709551615) (hl0 : fs.length ≤ 9223372036854775807) (hl2 : vs.length ≤ 9223372036854775807) :
    Calls Try.prog 7 #[v0, .int .u64 w, v2] W fun e w' => e = .returned (.bool true) ∧ Below W.heap.size W w' := by
  obtain ⟨gs, hgs⟩ : ∃ gs, gs = fs.take 8 := ⟨_, rfl⟩
  obtain ⟨us, hus⟩ : ∃ us, us = vs.take 10 := ⟨_, rfl⟩
  have hgr : FRange gs := fun f hf => hfr f (List.mem_of_mem_take (hgs ▸ hf))
  have hur : ∀ x ∈ us, 0 ≤ x ∧ x ≤ 18446744073709551615 := fun x hx => hvr x (List.mem_of_mem_take (hus ▸ hx))
  have hgl : gs.length ≤ 8 := by rw [hgs, List.length_take]; omega
  have hul : us.length ≤ 10 := by rw [hus, List.length_take]; omega
  have HGS := Lib.hid hgs
  have HUS := Lib.hid hus
  clear hgs hus hfr hvr
  obtain ⟨p0, n0, cap0, rfl, hn0, hcase0⟩ := hv0
  obtain ⟨p2, n2, cap2, rfl, hn2, hcase2⟩ := hv2
  rw [← hn0] at hl0
  rw [← hn2] at hl2
  have HN0 := Lib.hid hn0
  have HN2 := Lib.hid hn2
  clear hn0 hn2
  go_enter Try.func7, Try.ntmps7
  go_upto_region 3 with (go_at_call 9; refine (wakes_c _).mono ?_; rintro e w1 ⟨rfl, hB1⟩)
  go_cut [7] (fun s7 wc => wc.ownsRow W.heap.size 28 2 s7 gs.length (flatF gs) ∧ Below W.heap.size W wc)
  case first =>
    have hB1' := hB1
    rcases hcase0 with ⟨rfl, rfl, rfl⟩ | ⟨a, rfl, hcap, hcells⟩
    · have hg0 : gs = [] := by rw [HGS.out, List.eq_nil_of_length_eq_zero HN0.out.symm]; rfl
      have HG := Lib.hid hg0
      clear hg0
      go_wp2_with fail
      refine (cloneF _ 0 [] _ ⟨rfl, none, 0, rfl, .inl ⟨rfl, rfl, rfl⟩⟩ (fun u h => by cases h) (by omega)).mono ?_
      rintro e w2 ⟨⟨v', rfl, hown⟩, hb2⟩
      go_wp2
      go_meet
      exact ⟨by rw [HG.out]; exact hown.mono hB1.size, below_then hB1 hB1.size hb2⟩
    · have hl := hl0
      by_cases h8 : n0 ≤ 8
      · have hg0 : gs = fs := by rw [HGS.out]; exact List.take_of_length_le (by rw [← HN0.out]; exact h8)
        have HG := Lib.hid hg0
        clear hg0
        rcases Nat.lt_or_eq_of_le h8 with h8 | rfl
        · go_wp2_with fail
          refine (cloneF _ n0 (flatF fs) _ ⟨by rw [flatF_length, HN0.out], some a, cap0, rfl, .inr ⟨a, rfl, fun j u hj => cellB hB1' (hcells j u hj)⟩⟩ (flatF_cell fs) (by omega)).mono ?_
          rintro e w9 ⟨⟨v', rfl, hown⟩, hb9⟩
          go_wp2
          go_meet
          exact ⟨by rw [HG.out, ← HN0.out]; exact hown.mono hB1.size, below_then hB1 hB1.size hb9⟩
        · go_wp2_with fail
          refine (cloneF _ 8 (flatF fs) _ ⟨by rw [flatF_length, ← HN0.out], some a, cap0, rfl, .inr ⟨a, rfl, fun j u hj => cellB hB1' (hcells j u hj)⟩⟩ (flatF_cell fs) (by omega)).mono ?_
          rintro e w9 ⟨⟨v', rfl, hown⟩, hb9⟩
          go_wp2
          go_meet
          exact ⟨by rw [HG.out, ← HN0.out]; exact hown.mono hB1.size, below_then hB1 hB1.size hb9⟩
      · have hlen8 : gs.length = 8 := by rw [HGS.out, List.length_take, ← HN0.out]; omega
        have HL := Lib.hid hlen8
        have hs2 : flatF gs = (flatF fs).take 16 := by rw [HGS.out, flatF_take]
        have HS2 := Lib.hid hs2
        have h8' : 8 < n0 := by omega
        clear hlen8 hs2 h8
        go_wp2_with fail
        refine (cloneF _ 8 (flatF gs) _ ⟨by rw [flatF_length, HL.out], some a, cap0, rfl, .inr ⟨a, rfl, fun j u hj => cellB hB1' (hcells j u (by rw [HS2.out] at hj; exact take_get hj))⟩⟩ (flatF_cell gs) (by omega)).mono ?_
        rintro e w9 ⟨⟨v', rfl, hown⟩, hb9⟩
        go_wp2
        go_meet
        exact ⟨by rw [HL.out]; exact hown.mono hB1.size, below_then hB1 hB1.size hb9⟩
  case rest =>
  obtain ⟨hownG, hB2⟩ := hcut
  clear hB1
  go_upto_region 4 with fail
  go_cut [2] (fun s2 wc => (wc.ownsRow W.heap.size 23 1 s2 us.length (us.map (Value.int .u64)) ∧ wc.ownsRow W.heap.size 28 2 u7 gs.length (flatF gs)) ∧ Below W.heap.size W wc)
  case first =>
    have hB2' := hB2
    rcases hcase2 with ⟨rfl, rfl, rfl⟩ | ⟨a, rfl, hcap, hcells⟩
    · have hg0 : us = [] := by rw [HUS.out, List.eq_nil_of_length_eq_zero HN2.out.symm]; rfl
      have HG := Lib.hid hg0
      clear hg0
      go_wp2_with fail
      refine (cloneW _ 0 [] _ ⟨rfl, none, 0, rfl, .inl ⟨rfl, rfl, rfl⟩⟩ (fun u h => by cases h) (by omega)).mono ?_
      rintro e w2 ⟨⟨v', rfl, hown⟩, hb2⟩
      go_wp2
      go_meet
      exact ⟨⟨by rw [HG.out]; exact hown.mono hB2.size, owns_below hownG hb2⟩, below_then hB2 hB2.size hb2⟩
    · have hl := hl2
      by_cases h8 : n2 ≤ 10
      · have hg0 : us = vs := by rw [HUS.out]; exact List.take_of_length_le (by rw [← HN2.out]; exact h8)
        have HG := Lib.hid hg0
        clear hg0
        rcases Nat.lt_or_eq_of_le h8 with h8 | rfl
        · go_wp2_with fail
          refine (cloneW _ n2 (vs.map (Value.int .u64)) _ ⟨by rw [List.length_map, Nat.mul_one, HN2.out], some a, cap2, rfl, .inr ⟨a, rfl, fun j u hj => cellB hB2' (hcells j u hj)⟩⟩ (fun u hu => by obtain ⟨x, _, rfl⟩ := List.mem_map.1 hu; rfl) (by omega)).mono ?_
          rintro e w9 ⟨⟨v', rfl, hown⟩, hb9⟩
          go_wp2
          go_meet
          exact ⟨⟨by rw [HG.out, ← HN2.out]; exact hown.mono hB2.size, owns_below hownG hb9⟩, below_then hB2 hB2.size hb9⟩
        · go_wp2_with fail
          refine (cloneW _ 10 (vs.map (Value.int .u64)) _ ⟨by rw [List.length_map, Nat.mul_one, ← HN2.out], some a, cap2, rfl, .inr ⟨a, rfl, fun j u hj => cellB hB2' (hcells j u hj)⟩⟩ (fun u hu => by obtain ⟨x, _, rfl⟩ := List.mem_map.1 hu; rfl) (by omega)).mono ?_
          rintro e w9 ⟨⟨v', rfl, hown⟩, hb9⟩
          go_wp2
          go_meet
          exact ⟨⟨by rw [HG.out, ← HN2.out]; exact hown.mono hB2.size, owns_below hownG hb9⟩, below_then hB2 hB2.size hb9⟩
      · have hlen8 : us.length = 10 := by rw [HUS.out, List.length_take, ← HN2.out]; omega
        have HL := Lib.hid hlen8
        have hs2 : us.map (Value.int .u64) = (vs.map (Value.int .u64)).take 10 := by rw [HUS.out, List.map_take]
        have HS2 := Lib.hid hs2
        have h8' : 10 < n2 := by omega
        clear hlen8 hs2 h8
        go_wp2_with fail
        refine (cloneW _ 10 (us.map (Value.int .u64)) _ ⟨by rw [List.length_map, HL.out], some a, cap2, rfl, .inr ⟨a, rfl, fun j u hj => cellB hB2' (hcells j u (by rw [HS2.out] at hj; exact take_get hj))⟩⟩ (fun u hu => by obtain ⟨x, _, rfl⟩ := List.mem_map.1 hu; rfl) (by omega)).mono ?_
        rintro e w9 ⟨⟨v', rfl, hown⟩, hb9⟩
        go_wp2
        go_meet
        exact ⟨⟨by rw [HL.out]; exact hown.mono hB2.size, owns_below hownG hb9⟩, below_then hB2 hB2.size hb9⟩
  case rest =>
  obtain ⟨⟨hownU, hownG2⟩, hB3⟩ := hcut
  have hF := fields_of_owns hgr hownG2
  have hN := nums_of_owns hownU
  clear hB2 hownG
  go_wp2_with fail
  refine (pack_any _ _ gs us _ hF hN hur (by omega)).mono ?_
  rintro e w4 ⟨⟨pv, pe, hps, rfl⟩, hb4⟩
  obtain ⟨pw, rfl⟩ := pack_nat hps
  have hF4 := fields_below hF hb4
  have hN4 := nums_below hN hb4
  have hownU4 := owns_below hownU hb4
  have hB4 := below_then hB3 hB3.size hb4
  clear hb4 hF hN hownU hownU4 hownG2 hB3
  go_upto_if 41 with fail
  go_cut [10, 11] (fun s10 s11 wc => Below W.heap.size W wc ∧ FieldsAt wc u7 gs ∧ NumsAt wc .u64 u2 us)
  case first =>
    rcases hps with ⟨hne, _⟩ | ⟨T, rfl, hc, hl, hfit, hpe⟩
    · have hne' : (pe == 0) = false := by rw [beq_eq_false_iff_ne]; exact hne
      go_wp2
      go_meet
      exact ⟨hB4, hF4, hN4⟩
    · have hpw : pw = packL (gs.zip us) := Int.ofNat.inj hpe
      have hpl : pw < 18446744073709551616 := hpw ▸ packL_lt hc hfit
      have hsp := split_pack hc hl hfit (fun x hx => (hur x hx).1)
      rw [← hpw] at hsp
      have HL := Lib.hid hl
      have HSP := Lib.hid hsp
      clear hl hsp hfit hpw hpe
      go_wp2_with fail
      refine (split_yes pw hpl _ gs _ hF4 (by omega) T hc).mono ?_
      rintro e w5 ⟨⟨v', rfl, hown⟩, hb5⟩
      have hN5 := nums_below hN4 hb5
      have hF5 := fields_below hF4 hb5
      have hB5 := below_then hB4 hB4.size hb5
      rw [HSP.out] at hown
      have hR := nums_of_owns (ns := us) (by rw [HL.out] at hown; exact hown)
      clear hb5 hown
      go_wp2_with fail
      refine (equalW_c _ _ us us _ hR hN5 (by omega) (by omega)).mono ?_
      rintro e w6 ⟨rfl, hb6⟩
      rw [show decide (us = us) = true from decide_eq_true rfl]
      go_wp2
      go_meet
      exact ⟨below_then hB5 hB5.size hb6, fields_below hF5 hb6, nums_below hN5 hb6⟩
  case rest =>
  obtain ⟨hB5, hF5, hN5⟩ := hcut
  clear hps hF4 hN4 hB4
  go_wp2_with fail
  refine (check_c _ gs _ hF5 (by omega)).mono ?_
  rintro e w6 ⟨rfl, hb6⟩
  have hF6 := fields_below hF5 hb6
  have hN6 := nums_below hN5 hb6
  have hB6 := below_then hB5 hB5.size hb6
  clear hb6 hF5 hN5 hB5
  cases hc : chkTo gs with
  | none =>
    rw [show chkE gs = 110 by simp [chkE, hc]]
    go_wp2
    go_ret
    exact ⟨rfl, hB6⟩
  | some T =>
    rw [show chkE gs = 0 by simp [chkE, hc]]
    have hF7 := hF6
    obtain ⟨q0, cp0, rfl, _, hcF⟩ := hF6
    obtain ⟨q2, cp2, rfl, hcN⟩ := hN6
    have hfs := chk_field hc
    go_wp2_with fail
    obtain ⟨wo, rfl⟩ : ∃ wo : World, wo = w6 := ⟨_, rfl⟩
    go_loopw [1, 61] (fun wv iv wr => ∃ i x : Nat, i ≤ gs.length ∧ iv = .int .i64 i ∧ wv = .int .u64 x ∧ x < 18446744073709551616 ∧ Below wo.heap.size wo wr) (fun _ iv _ => gs.length - (intOf iv).toNat)
    case atStart => exact ⟨0, w, Nat.zero_le _, rfl, rfl, hw, Below.refl _ _⟩
    case round =>
      obtain ⟨i, x, hi, rfl, rfl, hx64, hB⟩ := hrel
      by_cases hlt : i < gs.length
      · obtain ⟨b, off, rfl, hcs⟩ := hcF (by intro e; rw [e] at hlt; cases hlt)
        obtain ⟨hx, hy⟩ := hcs i hlt
        have hf := hfs _ (List.getElem_mem hlt)
        have hset := fun v => split_setI hc x v i hlt
        obtain ⟨⟨a, k⟩, hak⟩ : ∃ f, f = gs[i] := ⟨_, rfl⟩
        rw [← hak] at hx hy hf hset
        simp only [fA, fK] at hx hy hf hset
        obtain ⟨f1, f2, f3⟩ := isF_iff.1 hf
        obtain ⟨a, rfl⟩ := Int.eq_ofNat_of_zero_le f2
        obtain ⟨k, rfl⟩ := Int.eq_ofNat_of_zero_le (show 0 ≤ k by omega)
        simp only [Int.toNat_natCast] at hset
        have hx' := below_cell hB hx
        have hy' := below_cell hB hy
        have hakn : a + k ≤ 64 := by omega
        have hk1 : 1 ≤ k := by omega
        have HSET := Lib.hid hset
        clear hx hy hcs hak hset f2 f3 f1 hf
        by_cases hlt2 : i < us.length
        · obtain ⟨b2, off2, rfl, hcs2⟩ := hcN (by intro e; rw [e] at hlt2; cases hlt2)
          have hz := hcs2 i hlt2
          have hzr := hur _ (List.getElem_mem hlt2)
          obtain ⟨v, hve⟩ : ∃ v, v = us[i] := ⟨_, rfl⟩
          rw [← hve] at hz hzr
          obtain ⟨v, rfl⟩ := Int.eq_ofNat_of_zero_le hzr.1
          have hv64 : v < 18446744073709551616 := by omega
          have hz' := below_cell hB hz
          have hz2 : (wr.alloc (.cells #[.int .i64 a, .int .i64 k] 28)).cell? ⟨b2, off2 + i, none⟩ = some (.int .u64 v) := by
            rw [World.cell?_alloc_lt _ _ _ (World.block_lt_of_cell? wr _ hz')]; exact hz'
          clear hz hcs2 hve hzr
          go_wp2_with fail
          rcases Bool.eq_false_or_eq_true (fitsB v k) with hfb | hfb
          · have hsl := HSET.out v (of_decide_eq_true (show decide (v < 2 ^ k) = true from hfb))
            have HSL := Lib.hid hsl
            clear hsl
            have hn64 : setN x a k v < 18446744073709551616 := setN_lt x a k v hx64 hakn (of_decide_eq_true (show decide (v < 2 ^ k) = true from hfb))
            obtain ⟨n, hn⟩ : ∃ n, n = setN x a k v := ⟨_, rfl⟩
            have HSET2 : ∀ W : World, Calls Try.prog 19 #[.int .u64 x, .agg #[.int .i64 a, .int .i64 k], .int .u64 v] W fun e w' => e = .returned (.tuple #[.int .u64 n, .int .i64 0]) ∧ Below W.heap.size W w' := by
              rw [hn]; exact set_yes x v hx64 hv64 a k hk1 hakn hfb
            rw [← hn] at hn64 HSL
            have HN := Lib.hid hn
            clear hn
            go_region_held3 (fun w' => w'.cell? ⟨b2, off2 + i, none⟩ = some (.int .u64 v) ∧ w'.cell? ⟨wr.heap.size, 0, none⟩ = some (.int .i64 a) ∧ w'.cell? ⟨wr.heap.size, 1, none⟩ = some (.int .i64 k) ∧ Below wo.heap.size wo w')
              (first
                | exact ⟨hz2, by simp, by simp, (hB.alloc hB.size _).drew⟩
                | go_keep
                | (go_split_ands; exact ⟨below_cell hb3 (by assumption), below_cell hb3 (by assumption), below_cell hb3 (by assumption), below_then (by assumption) (Below.size (by assumption)) hb3⟩))
              (first | (go_at_call 19; refine (HSET2 _).mono ?_; rintro e w3 ⟨rfl, hb3⟩))
            all_goals go_split_ands
            all_goals rename_i hc1' hc2' hc3' hB3
            all_goals go_wp2_with fail
            all_goals
              refine (split_yes x hx64 _ gs _ (fields_below hF7 (by first | exact hB3 | exact below_drewN hB3 _)) (by omega) T hc).mono ?_
              rintro e w7 ⟨⟨v1, rfl, hown1⟩, hb7⟩
              have hB7 := below_then hB3 hB3.size hb7
              have hz7 := below_cell hb7 hc1'
              obtain ⟨g, cg, rfl, hg1, hg2⟩ := own_form hown1 (by omega)
              have hg3 : wo.heap.size ≤ g := Nat.le_trans hB3.size hg1
              go_wp2_with fail
              refine (split_yes n hn64 _ gs _ (fields_below hF7 hB7) (by omega) T hc).mono ?_
              rintro e w8 ⟨⟨v2, rfl, hown2⟩, hb8⟩
              have hB8 := below_then hB7 hB7.size hb8
              have hz8 := below_cell hb8 hz7
              have hown3 := owns_below hown1 hb8
              have hsl := hown3.cellAt i (by omega)
              have hsx : i < (splitV x gs).length := by simpa [splitV] using hlt
              rw [List.getElem?_eq_getElem hsx] at hsl
              have hfr := hown3.frozenAt i
              obtain ⟨u, hu⟩ : ∃ u, u = (splitV x gs)[i] := ⟨_, rfl⟩
              rw [← hu] at hsl
              have hst := (hown3.stored i (.int .u64 (v : Nat))).1
              rw [HSL.out] at hst
              have hA := nums_of_owns2 (splitI_length n gs) hst
              have hown4 := ownsRow_setCell_below hown2 (a := ⟨g, i, none⟩) hg2 (.int .u64 (v : Nat))
              rw [splitV_map] at hown4
              have hA2 := nums_of_owns2 (splitI_length n gs) hown4
              have hB9 := hB8.setCell (p := ⟨g, i, none⟩) hg3 (.int .u64 (v : Nat))
              clear hu hst hown4 hown3 hown2 hown1 hb7 hb8 hc1' hc2' hc3' hz7
              go_wp2_with fail
              refine (equalW_c _ _ _ _ _ hA hA2 (by rw [splitI_length]; omega) (by rw [splitI_length]; omega)).mono ?_
              rintro e w10 ⟨rfl, hb10⟩
              rw [show decide (splitI n gs = splitI n gs) = true from decide_eq_true rfl]
              go_wp2
              go_roundw
              case rel => exact ⟨i + 1, n, by omega, by go_num, rfl, hn64, below_then hB9 hB9.size hb10⟩
              case measure => simp [intOf]; omega
          · go_region_held3 (fun w' => w'.cell? ⟨b2, off2 + i, none⟩ = some (.int .u64 v) ∧ w'.cell? ⟨wr.heap.size, 0, none⟩ = some (.int .i64 a) ∧ w'.cell? ⟨wr.heap.size, 1, none⟩ = some (.int .i64 k) ∧ Below wo.heap.size wo w')
              (first
                | exact ⟨hz2, by simp, by simp, (hB.alloc hB.size _).drew⟩
                | go_keep
                | (go_split_ands; exact ⟨below_cell hb3 (by assumption), below_cell hb3 (by assumption), below_cell hb3 (by assumption), below_then (by assumption) (Below.size (by assumption)) hb3⟩))
              (first | (go_at_call 19; refine (set_over x v hv64 a k hk1 hakn hfb _).mono ?_; rintro e w3 ⟨rfl, hb3⟩))
            all_goals go_split_ands
            all_goals rename_i hc1' hc2' hc3' hB3
            all_goals go_wp2
            all_goals go_ret
            all_goals exact ⟨rfl, below_then hB6 hB6.size hB3⟩
        · go_wp2
          go_ret
          exact ⟨rfl, below_then hB6 hB6.size (hB.alloc hB.size _)⟩
      · obtain rfl : i = gs.length := by omega
        go_wp2
        go_ret
        exact ⟨rfl, below_then hB6 hB6.size hB⟩

end Go.Proofs.Ytejendpkkdmjhaa
