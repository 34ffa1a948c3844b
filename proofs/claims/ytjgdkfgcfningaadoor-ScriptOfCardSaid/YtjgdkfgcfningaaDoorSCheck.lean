/-
  Check of package bits, called with any slice of fields: 0, if they are fields that lie apart (by the run over their bits), else 110; what was in memory stays.
  Conditions: the slice reads as a list of pairs of numbers in the range of int, shorter than 2 to the power 62.
-/
import Derived.Test.YtjgdkfgcfningaaDoorSBits
namespace Go.Proofs.YtjgdkfgcfningaaDoor
open Go.RowKit Go.Shelf
attribute [local go_sem] Oper.semAt_some

/-- The run over places, t having been taken ahead: what is taken behind it; none, if one of them was. -/
def foldC (t : Nat) (l : List Nat) : Option Nat := l.foldl (fun o x => o.bind fun m => if m.testBit x then none else some (m ||| 2 ^ x % 18446744073709551616)) (some t)
theorem foldC_nil (t : Nat) : foldC t [] = some t := rfl
theorem foldC_snoc (t : Nat) (l : List Nat) (x : Nat) : foldC t (l ++ [x]) = (foldC t l).bind fun m => if m.testBit x then none else some (m ||| 2 ^ x % 18446744073709551616) := by simp [foldC]
theorem foldC_none {t : Nat} {l m : List Nat} (h : foldC t l = none) (hp : l <+: m) : foldC t m = none := by
  obtain ⟨r, rfl⟩ := hp
  unfold foldC at h ⊢
  rw [List.foldl_append, h]
  induction r with
  | nil => rfl
  | cons x r ih => exact ih
theorem foldC_lt {t : Nat} (ht : t < 18446744073709551616) (l : List Nat) : ∀ {m : Nat}, foldC t l = some m → m < 18446744073709551616 := by
  suffices h : ∀ (l : List Nat) (o : Option Nat), (∀ m, o = some m → m < 2 ^ 64) → ∀ m, l.foldl (fun o x => o.bind fun m => if m.testBit x then none else some (m ||| 2 ^ x % 18446744073709551616)) o = some m → m < 2 ^ 64 from
    fun {m} hm => h l (some t) (fun m e => by cases e; exact ht) m hm
  intro l
  induction l with
  | nil => intro o ho m hm; exact ho m hm
  | cons x l ih =>
    intro o ho m hm
    refine ih _ ?_ m hm
    intro m' hm'
    cases o with
    | none => cases hm'
    | some q =>
      simp only [Option.bind_some] at hm'
      split at hm'
      · cases hm'
      · cases hm'; exact Nat.or_lt_two_pow (ho q rfl) (Nat.mod_lt _ (by decide))
theorem foldC_upto (t a k : Nat) (h : a + k ≤ 64) : foldC t (upto a k) = if t &&& maskN a k = 0 then some (t ||| maskN a k) else none := by
  induction k with
  | zero => simp [upto_zero, foldC_nil, maskN_zero]
  | succ k ih =>
    have hp : 2 ^ (a + k) % 18446744073709551616 = 2 ^ (a + k) := Nat.mod_eq_of_lt (Nat.pow_lt_pow_right (by decide) (by omega) : 2 ^ (a + k) < 2 ^ 64)
    rw [upto_succ, foldC_snoc, ih (by omega), hp, ← maskN_succ, Nat.and_or_distrib_left]
    have hb : (t ||| maskN a k).testBit (a + k) = t.testBit (a + k) := by
      rw [Nat.testBit_or, maskN_bit]; simp
    have hor : ∀ x y : Nat, (x ||| y = 0) ↔ (x = 0 ∧ y = 0) := fun x y => by simp
    have hand : (t &&& 2 ^ (a + k) = 0) ↔ t.testBit (a + k) = false := by
      rw [nat_bit, Nat.testBit_eq_decide_div_mod_eq]
      have := Nat.two_pow_pos (a + k)
      rcases Nat.mod_two_eq_zero_or_one (t / 2 ^ (a + k)) with e | e <;> rw [e] <;> simp
    by_cases h0 : t &&& maskN a k = 0
    · rw [if_pos h0]
      simp only [Option.bind_some, hb]
      by_cases h1 : t.testBit (a + k) = true
      · rw [if_pos h1, if_neg (by rw [hor, hand, h1]; simp)]
      · rw [if_neg h1, if_pos ((hor _ _).2 ⟨h0, hand.2 (by simpa using h1)⟩), Nat.or_assoc]
    · rw [if_neg h0, if_neg (by rw [hor]; exact fun h => h0 h.1)]
      rfl

theorem bit_val (m x : Nat) (hm : m < 18446744073709551616) : (bits .and .u64 ((m : Int) / 2 ^ min x 64) 1 == 1) = m.testBit x := by
  have hd : m / 2 ^ x < 18446744073709551616 := Nat.lt_of_le_of_lt (Nat.div_le_self _ _) hm
  rw [div_min m x hm, show (1 : Int) = ((1 : Nat) : Int) from rfl, u64_and_nat _ _ hd (by decide), nat_mask1, Nat.testBit_eq_decide_div_mod_eq, Bool.eq_iff_iff]
  simp only [beq_iff_eq, decide_eq_true_eq]
  omega

/-- The run over fields. -/
def chk1 (t : Nat) (f : Int × Int) : Option Nat := if isF f.1 f.2 = true then foldC t (upto f.1.toNat f.2.toNat) else none
def chkTo (l : List (Int × Int)) : Option Nat := l.foldl (fun o f => o.bind fun t => chk1 t f) (some 0)
theorem chkTo_nil : chkTo [] = some 0 := rfl
theorem chkTo_snoc (l : List (Int × Int)) (f : Int × Int) : chkTo (l ++ [f]) = (chkTo l).bind fun t => chk1 t f := by simp [chkTo]
theorem chkTo_none {l m : List (Int × Int)} (h : chkTo l = none) (hp : l <+: m) : chkTo m = none := by
  obtain ⟨r, rfl⟩ := hp
  unfold chkTo at h ⊢
  rw [List.foldl_append, h]
  induction r with
  | nil => rfl
  | cons x r ih => exact ih
theorem chk1_lt {t m : Nat} (ht : t < 18446744073709551616) {f : Int × Int} (h : chk1 t f = some m) : m < 18446744073709551616 := by
  unfold chk1 at h
  split at h
  · exact foldC_lt ht _ h
  · cases h
theorem take_snoc {α : Type} (l : List α) (i : Nat) (h : i < l.length) : l.take (i + 1) = l.take i ++ [l[i]] := by
  rw [List.take_succ_eq_append_getElem h]

/-- A slice that reads as these fields. -/
def FieldsAt (W : World) (v : Value) (fs : List (Int × Int)) : Prop := ∃ p cap, v = .slice p fs.length cap ∧ (∀ f ∈ fs, (-9223372036854775808 ≤ f.1 ∧ f.1 ≤ 9223372036854775807) ∧ -9223372036854775808 ≤ f.2 ∧ f.2 ≤ 9223372036854775807) ∧
  (fs ≠ [] → ∃ b off, p = some ⟨b, off, none⟩ ∧ ∀ i (h : i < fs.length), W.cell? ⟨b, off + i * 2, none⟩ = some (.int .i64 fs[i].1) ∧ W.cell? ⟨b, off + i * 2 + 1, none⟩ = some (.int .i64 fs[i].2))

theorem boxed_below {W W' : World} {B : Nat} {t : TypeId} {v : Value} (h : Boxed W B t v) (hb : Below W.heap.size W W') : Boxed W' B t v := (hb.block B h.lt).trans h

/-- What Check answers. -/
def chkE (fs : List (Int × Int)) : Int := if (chkTo fs).isSome then 0 else 110

/-- The head of Check's outer loop: the activation's slots. -/
def checkAct (w : World) (p : Option Addr) (n cap i : Nat) (Ds : List Nat) (s1 s5 s6 s7 s8 s12 s13 s14 s15 s16 s17 s18 s19 s20 s21 s22 s23 s24 s25 s26 s27 s28 s29 s30 s31 s32 s33 : Value) : Act :=
  { tmps := #[Value.slice p n cap, s1, .int .i64 0, .pointer (some ⟨w.heap.size, 0, none⟩), .pointer (some ⟨w.heap.size + 1, 0, none⟩), s5, s6, s7, s8, Value.slice p n cap, .int .i64 (n : Int), .int .i64 (i : Int), s12, s13, s14, s15, s16, s17, s18, s19, s20, s21, s22, s23, s24, s25, s26, s27, s28, s29, s30, s31, s32, s33], defers := marksOf Ds }
def CheckI (w : World) (p : Option Addr) (cap : Nat) (fs : List (Int × Int)) (a : Act) (W : World) : Prop :=
  ∃ (i T : Nat) (Ds : List Nat) (s1 s5 s6 s7 s8 s12 s13 s14 s15 s16 s17 s18 s19 s20 s21 s22 s23 s24 s25 s26 s27 s28 s29 s30 s31 s32 s33 : Value), a = checkAct w p fs.length cap i Ds s1 s5 s6 s7 s8 s12 s13 s14 s15 s16 s17 s18 s19 s20 s21 s22 s23 s24 s25 s26 s27 s28 s29 s30 s31 s32 s33 ∧ i ≤ fs.length ∧ chkTo (fs.take i) = some T ∧ T < 18446744073709551616 ∧
    Boxed W w.heap.size 37 (.int .u64 T) ∧ Boxed W (w.heap.size + 1) 29 (.int .i64 0) ∧ Below w.heap.size w W ∧ Marks w.heap.size Ds W
/-- How many rounds are left. -/
def checkLeft (n : Nat) (a : Act) : Nat := n - (intOf (a.tmps.getD 11 undef)).toNat

set_option maxRecDepth 100000 in
set_option maxHeartbeats 4000000 in
theorem check_c (v : Value) (fs : List (Int × Int)) (w : World) (hv : FieldsAt w v fs) (hlen : fs.length ≤ 4611686018427387904) :
    Calls Tryd.prog 58 #[v] w fun e w' => e = .returned (.int .i64 (chkE fs)) ∧ Below w.heap.size w w' := by
  refine (callsIn_wide (n := 9)).1 ?_
  obtain ⟨p, cap, rfl, hrange, hcells⟩ := hv
  refine callsIn_of_wp_marks Tryd.func58 rfl trivial ?_ rfl
  simp only [Tryd.ntmps58, List.size_toArray, List.length_cons, List.length_nil, Nat.reduceAdd, Nat.reduceSub, Array.replicate_succ, Array.replicate_zero, List.push_toArray, List.append_toArray, List.nil_append, List.cons_append]
  gi_wp2
  refine wpIn_scope ?_
  gi_wp2
  refine wpIn_label ?_
  gi_wp2
  refine wpIn_loop (CheckI w p cap fs) (fun a _ => checkLeft fs.length a) ?_ ?_
  · exact ⟨0, 0, [], _, _, _, _, _, _, _, _, _, _, _, _, _, _, _, _, _, _, _, _, _, _, _, _, _, _, _, rfl, Nat.zero_le _, rfl, by decide, (Boxed.new _ _ _).alloc _, by simpa using Boxed.new (w.alloc (Obj.cells #[Value.int IntKind.u64 0] 37)) 29 (.int .i64 0), ((Below.refl _ _).alloc (Nat.le_refl _) _).alloc (by simp) _, Marks.nil _ _⟩
  rintro a W ⟨i, T, Ds, s1, s5, s6, s7, s8, s12, s13, s14, s15, s16, s17, s18, s19, s20, s21, s22, s23, s24, s25, s26, s27, s28, s29, s30, s31, s32, s33, rfl, hi, hT, hT64, hbt, hbe, hB, hM⟩
  unfold checkAct
  have hct := hbt.cell
  have hft := hbt.frozen
  have hce := hbe.cell
  have hfe := hbe.frozen
  by_cases hlt : i < fs.length
  · obtain ⟨b, off, rfl, hcs⟩ := hcells (by intro e; rw [e] at hlt; cases hlt)
    obtain ⟨hx, hy⟩ := hcs i hlt
    obtain ⟨⟨hr1, hr2⟩, hr3, hr4⟩ := hrange fs[i] (List.getElem_mem hlt)
    obtain ⟨⟨a, k⟩, hak⟩ : ∃ f, f = fs[i] := ⟨_, rfl⟩
    rw [← hak] at hx hy hr1 hr2 hr3 hr4
    have hx' := (hB.cell (World.block_lt_of_cell? w _ hx)).trans hx
    have hy' := (hB.cell (World.block_lt_of_cell? w _ hy)).trans hy
    clear hx hy hcs hcells hrange
    simp only at hr1 hr2 hr3 hr4 hx' hy'
    gi_wp2_with fail
    refine ⟨trivial, ?_⟩
    refine (callsIn_wide.2 (is_c a k hr3 hr4 _)).mono ?_
    rintro e w1 ⟨rfl, hb1⟩
    have hp0 := below_cell (p := ⟨W.heap.size + 1, 0, none⟩) (v := .int .i64 a) hb1 (by simp)
    have hp1 := below_cell (p := ⟨W.heap.size + 1, 1, none⟩) (v := .int .i64 k) hb1 (by simp)
    have hbt1 := boxed_below ((hbt.alloc _).alloc _) hb1
    have hbe1 := boxed_below ((hbe.alloc _).alloc _) hb1
    have hM1 := ((hM.keeps (KeepsOthers.alloc _ _)).keeps (KeepsOthers.alloc _ _)).below hb1
    have hB1 := below_then (((hB.alloc hB.size) _).alloc (by have := hB.size; simp; omega) _) (by have := hB.size; simp; omega) hb1
    generalize hz : W.heap.size = z at *
    clear hb1 hct hft hce hfe hbt hbe hM hB hx' hy'
    have hct := hbt1.cell
    have hft := hbt1.frozen
    have hce := hbe1.cell
    have hfe := hbe1.frozen
    have hsnoc : chkTo (fs.take (i + 1)) = chk1 T (a, k) := by rw [take_snoc fs i hlt, chkTo_snoc, hT, ← hak]; rfl
    by_cases hf : isF a k = true
    · obtain ⟨h1, h2, h3⟩ := isF_iff.1 hf
      obtain ⟨a, rfl⟩ := Int.eq_ofNat_of_zero_le h2
      obtain ⟨k, rfl⟩ := Int.eq_ofNat_of_zero_le (show 0 ≤ k by omega)
      have hakn : a + k ≤ 64 := by omega
      have hfold : chk1 T ((a : Int), (k : Int)) = foldC T (upto a k) := by simp only [chk1, hf, if_true, Int.toNat_natCast]
      rw [hfold] at hsnoc
      gi_wp2
      refine wpIn_rangeBound rfl (by omega) (gf := 61) (bd := #[partV a k]) (lb := #[]) rfl trivial (enters_of Tryd.func61 (by kernel_rfl) rfl)
        (places_stops Fence.wide 8 trivial rfl (by omega) w1.heap.size a k hakn w1 (Nat.le_refl _)) (fun h k => h.trans k) (fun W l o o' hl => KeepsNew.turn _ W l o o' hl) (Below.refl _ _) (fun _ => rfl)
        (fun pre W => (((∃ m, foldC T pre = some m ∧ Boxed W w.heap.size 37 (.int .u64 m)) ∧ Boxed W (w.heap.size + 1) 29 (.int .i64 0)) ∧ Below w.heap.size w W) ∧ Marks w.heap.size Ds W)
        (fun c pre W => (((c = .exit 0 ∧ foldC T pre = none) ∧ Boxed W (w.heap.size + 1) 29 (.int .i64 110)) ∧ Below w.heap.size w W) ∧ Marks w.heap.size Ds W)
        ?hI ?hIx ?h0
        (fun x a' _ => a' = { tmps := #[.slice (some ⟨b, off, none⟩) fs.length cap, s1, .int .i64 0, .pointer (some ⟨w.heap.size, 0, none⟩), .pointer (some ⟨w.heap.size + 1, 0, none⟩), s5, .pointer (some ⟨z, 0, none⟩), .pointer (some ⟨z + 1, 0, none⟩), .int .i64 x, .slice (some ⟨b, off, none⟩) fs.length cap, .int .i64 fs.length, .int .i64 i, .bool true, .pointer (some ⟨b, off + i * 2, none⟩), partV a k, partV a k, partV a k, partV a k, .bool true, .bool false, partV a k, .func (.func 61) #[partV a k] #[], .int .i64 x, s23, s24, s25, s26, s27, s28, s29, s30, s31, s32, s33], defers := [] })
        (fun _ _ => ownFrom_pure _ _) ?assign ?body ?done ?stop
      case hI =>
        refine OwnFrom.and (OwnFrom.and (OwnFrom.and ?_ ((boxed_own _ _ _).from _)) (ownFrom_below (Nat.le_refl _) hB1.size)) (marks_own fun D hD => hM1.lt hD)
        intro pre A B row ⟨m, hm, hbx⟩ hg hr
        exact ⟨m, hm, (boxed_own w.heap.size 37 (fun _ : Unit => .int .u64 m)).from _ () A B row hbx hg hr⟩
      case hIx => exact fun c => OwnFrom.and (OwnFrom.and (OwnFrom.and (ownFrom_pure _ _) ((boxed_own _ _ _).from _)) (ownFrom_below (Nat.le_refl _) hB1.size)) (marks_own fun D hD => hM1.lt hD)
      case h0 => exact ⟨⟨⟨⟨T, rfl, hbt1⟩, hbe1⟩, hB1⟩, hM1⟩
      case assign =>
        intro l pre x W K hi hK
        gi_wp2
        exact hK _ _ (KeepsFrom.refl _ _) (KeepsNew.refl _ _) hi rfl
      case body =>
        rintro l pre x a' W hl _ ⟨⟨⟨⟨m, hm, hbt⟩, hbe⟩, hB⟩, hM⟩ rfl hlen
        have hct := hbt.cell
        have hft := hbt.frozen
        have hce := hbe.cell
        have hfe := hbe.frozen
        have hmx : Tryd.prog.follows .mixedOrders = true := by kernel_rfl
        have hm64 := foldC_lt hT64 pre hm
        by_cases hbit : m.testBit x = true
        · have hno : foldC T (pre ++ [x]) = none := by rw [foldC_snoc, hm]; simp only [Option.bind_some, hbit, if_true]
          have hbv := (bit_val m x hm64).trans hbit
          gi_wp2
          exact ⟨(KeepsOthers.setCell _ _ _).from _, ⟨⟨⟨rfl, hno⟩, hbe.set _⟩, hB.setCell (p := ⟨w.heap.size + 1, 0, none⟩) (Nat.le_succ _) _⟩, hM.keeps (KeepsOthers.setCell _ _ _)⟩
        · have hyes : foldC T (pre ++ [x]) = some (m ||| 2 ^ x % 18446744073709551616) := by rw [foldC_snoc, hm]; simp only [Option.bind_some, hbit]; rfl
          have hbv := (bit_val m x hm64).trans (by simpa using hbit)
          gi_wp2
          gi_region_o
          all_goals gi_wp2
          all_goals (try go_bits)
          all_goals
            rw [or_pow _ _ hm64]
            exact ⟨((KeepsOthers.setCell _ _ _).trans (KeepsOthers.drew _)).from _, (KeepsNew.setCell _ _ _ _ hbt1.lt).trans (KeepsNew.drew _ _), ⟨⟨⟨_, hyes, hbt.set _⟩, hbe.other (by omega) _⟩, (hB.setCell (p := ⟨w.heap.size, 0, none⟩) (Nat.le_refl _) _).drew⟩, hM.keeps ((KeepsOthers.setCell _ _ _).trans (KeepsOthers.drew _))⟩
      case done =>
        rintro D xs W hD rfl ⟨⟨⟨⟨m, hm, hbt⟩, hbe⟩, hB⟩, hM⟩ hK
        gi_wp2
        refine ⟨⟨i + 1, m, D :: Ds, _, _, _, _, _, _, _, _, _, _, _, _, _, _, _, _, _, _, _, _, _, _, _, _, _, _, _, rfl, by omega, hsnoc.trans hm, foldC_lt hT64 _ hm, hbt, hbe, hB, hM.cons (Nat.le_trans hB1.size hD) (fun h => by have := hM1.lt h; omega) hK⟩, ?_⟩
        show fs.length - (intOf (.int .i64 ((i : Int) + 1))).toNat < fs.length - (intOf (.int .i64 (i : Int))).toNat
        simp only [intOf]
        omega
      case stop =>
        rintro D c pre W hD hpre ⟨⟨⟨⟨rfl, hno⟩, hbe⟩, hB⟩, hM⟩ hK
        have hce := hbe.cell
        have hno' : chkTo fs = none := chkTo_none (l := fs.take (i + 1)) (by rw [hsnoc]; exact foldC_none hno hpre) (List.take_prefix _ _)
        gi_wp2
        refine leaves_marks (B := w.heap.size) (D :: Ds) _ (hM.cons (Nat.le_trans hB1.size hD) (fun h => by have := hM1.lt h; omega) hK) fun W' hW' => ⟨_, results_tmp rfl _ _ _, ?_, hB.trans hW'⟩
        exact ret_int (by simp [chkE, hno'])
    · have hno : chkTo fs = none := chkTo_none (l := fs.take (i + 1)) (by rw [hsnoc]; simp only [chk1, hf]; rfl) (List.take_prefix _ _)
      gi_wp2
      refine leaves_marks (B := w.heap.size) Ds _ (hM1.keeps (KeepsOthers.setCell _ _ _)) fun W' hW' => ⟨_, results_tmp rfl _ _ _, ?_, (hB1.setCell (p := ⟨w.heap.size + 1, 0, none⟩) (Nat.le_succ _) _).trans hW'⟩
      exact ret_int (by simp [chkE, hno])
  · have hyes : chkTo fs = some T := by rw [← hT, List.take_of_length_le (by omega)]
    gi_wp2
    refine leaves_marks (B := w.heap.size) Ds _ hM fun W' hW' => ⟨_, results_tmp rfl _ _ _, ?_, hB.trans hW'⟩
    exact ret_int (by simp [chkE, hyes])

end Go.Proofs.YtjgdkfgcfningaaDoor
