/-
  Text and Back of package bits, for every text and word; what was in memory stays.
  Conditions: none but the ranges of Go's types.
-/
import Derived.Test.YtejendpkkdmjhaaBits
import Derived.Laws.CopyOwn
namespace Go.Proofs.Ytejendpkkdmjhaa
open Go.RowKit Go.Shelf

theorem run_copy_text {P : Program} (w : World) (dT sT ty elem : TypeId) (g dLen dCap : Nat) (s : ByteArray) (cur : Array Value) (t : TypeId)
    (hu : P.underlying dT = some (.slice elem)) (hs : (P.info? elem).map (·.size) = some 1)
    (hg : w.heap[g]? = some (.cells cur t (0, 0))) (hn : s.size ≤ dLen) (hfit : s.size ≤ cur.size) :
    ∃ w', (Builtin.copy_ #[dT, sT] ty #[.slice (some ⟨g, 0, none⟩) dLen dCap, .string s]).run P w = .ok (goInt s.size) w' ∧ Below g w w' ∧
      ∀ i (h : i < s.data.toList.length), w'.cell? ⟨g, i, none⟩ = some (.int .u8 (s.data.toList[i].toNat : Nat)) := by
  have hl : (s.data.toList.map fun b => Value.int .u8 b.toNat).length = s.size := by simp
  have hst := run_storeCells_at P g 0 t (s.data.toList.map fun b => Value.int .u8 b.toNat) 0 cur w hg (by rw [hl]; omega) (fun v hv => by obtain ⟨x, _, rfl⟩ := List.mem_map.1 hv; rfl)
  cases hq : P.info? elem with
  | none => simp [hq] at hs
  | some i =>
    have hmin : Nat.min s.size dLen = s.size := Nat.min_eq_left hn
    refine ⟨w.setRow g ((s.data.toList.map fun b => Value.int .u8 b.toNat) ++ cur.toList.drop s.size).toArray, ?_, below_setRow (Below.refl _ _) (Nat.le_refl _) _, fun i hi => ?_⟩
    · simp only [Nat.add_zero, Nat.zero_add, List.take_zero, List.nil_append, hl] at hst
      have htake : List.take s.size (s.data.toList.map fun b => Value.int .u8 (b.toNat : Int)) = s.data.toList.map fun b => Value.int .u8 (b.toNat : Int) := List.take_of_length_le (by rw [hl]; exact Nat.le_refl _)
      simp [Builtin.copy_, run_underlying hu, Builtin.lenOf, Builtin.firstCells, sizeOf, typeInfo, hq, hmin, htake, hst]
    · have h2 := setRow_heap w g cur ((s.data.toList.map fun b => Value.int .u8 b.toNat) ++ cur.toList.drop s.size).toArray t _ hg
      simp only [World.cell?, h2]
      simp [List.getElem?_append, show i < s.size from by simpa using hi]

/-- The word of a text's bytes. -/
def textN : List UInt8 → Nat
  | [] => 0
  | b :: r => b.toNat + 256 * textN r
/-- Is one of them 0? -/
def hasNul (l : List UInt8) : Bool := l.any (· == 0)
/-- What Text answers of a text of at most eight bytes. -/
def textV (l : List UInt8) : Nat := if hasNul l then 0 else textN l
def textE (l : List UInt8) : Int := if hasNul l then 2 else 0
theorem textN_lt (l : List UInt8) : textN l < 256 ^ l.length := by
  induction l with
  | nil => simp [textN]
  | cons b r ih => have := b.toNat_lt; simp only [textN, List.length_cons, Nat.pow_succ]; omega
theorem textN_snoc (l : List UInt8) (b : UInt8) : textN (l ++ [b]) = textN l + 256 ^ l.length * b.toNat := by
  induction l with
  | nil => simp [textN]
  | cons c r ih =>
    simp only [List.cons_append, textN, ih, List.length_cons, Nat.pow_succ]
    rw [Nat.mul_add, Nat.mul_comm (256 ^ r.length) 256, Nat.mul_assoc]
    omega
theorem hasNul_snoc (l : List UInt8) (b : UInt8) : hasNul (l ++ [b]) = (hasNul l || b == 0) := by simp [hasNul]
theorem pow_256 (j : Nat) : 256 ^ j = 2 ^ (8 * j) := by rw [Nat.pow_mul]
theorem textN_64 (l : List UInt8) (h : l.length ≤ 8) : textN l < 18446744073709551616 :=
  Nat.lt_of_lt_of_le (textN_lt l) (by rw [pow_256]; exact pow_le_64 (by omega))
theorem textN_or (l : List UInt8) (b : UInt8) (h : l.length < 8) :
    bits .or .u64 (textN l : Nat) (IntKind.u64.wrap (IntKind.u64.wrap (b.toNat : Int) * 2 ^ (l.length * 8))) = (textN (l ++ [b]) : Nat) := by
  have hb := b.toNat_lt
  rw [show IntKind.u64.wrap (b.toNat : Int) = (b.toNat : Int) by rw [wrap_u64]; omega]
  have hlt : b.toNat * 2 ^ (l.length * 8) < 18446744073709551616 := by
    have h1 : b.toNat * 2 ^ (l.length * 8) < 2 ^ 8 * 2 ^ (l.length * 8) := Nat.mul_lt_mul_of_pos_right hb (Nat.two_pow_pos _)
    rw [← Nat.pow_add] at h1
    exact Nat.lt_of_lt_of_le h1 (pow_le_64 (by omega))
  have ht := textN_lt l
  rw [pow_256, Nat.mul_comm 8] at ht
  rw [show (2 : Int) ^ (l.length * 8) = ((2 ^ (l.length * 8) : Nat) : Int) by simp, ← Int.natCast_mul, wrap_u64, show ((b.toNat * 2 ^ (l.length * 8) : Nat) : Int) % 18446744073709551616 = ((b.toNat * 2 ^ (l.length * 8) : Nat) : Int) by omega,
    u64_or_nat _ _ (textN_64 l (by omega)) hlt, Nat.or_comm, nat_join (l.length * 8) _ _ (Nat.mul_mod_left _ _) ht, textN_snoc, pow_256, Nat.mul_comm 8, Nat.add_comm, Nat.mul_comm b.toNat]

set_option maxHeartbeats 1000000 in
theorem text_long (s : ByteArray) (hs : s.size ≤ maxLen) (h : 8 < s.size) (W : World) :
    Calls Try.prog 35 #[.string s] W fun e w' => e = .returned (.tuple #[.int .u64 0, .int .i64 111]) ∧ Below W.heap.size W w' := by
  unfold maxLen at hs
  go_enter Try.func35, Try.ntmps35
  go_wp2
  go_ret2
  exact ⟨rfl, Below.refl _ _⟩

set_option maxHeartbeats 2000000 in
theorem text_c (s : ByteArray) (h : s.size ≤ 8) (W : World) :
    Calls Try.prog 35 #[.string s] W fun e w' => e = .returned (.tuple #[.int .u64 (textV s.data.toList), .int .i64 (textE s.data.toList)]) ∧ Below W.heap.size W w' := by
  obtain ⟨W1, hrun, hb1, hcells⟩ := run_copy_text (P := Try.prog) (W.alloc (.cells #[.int .u8 0, .int .u8 0, .int .u8 0, .int .u8 0, .int .u8 0, .int .u8 0, .int .u8 0, .int .u8 0] 78)) 79 9 3 5 W.heap.size 8 8 s
    _ 78 Try.underlying79 (by kernel_rfl) (World.alloc_heap_new _ _) h (by simpa using h)
  have hb : Below W.heap.size W W1 := ((Below.refl _ _).alloc (Nat.le_refl _) _).trans hb1
  clear hb1
  go_enter Try.func35, Try.ntmps35
  go_wp2
  go_loop [5, 13] (fun wv iv => ∃ j : Nat, j ≤ s.size ∧ iv = .int .i64 j ∧ wv = .int .u64 (textN (s.data.toList.take j)) ∧ hasNul (s.data.toList.take j) = false) (fun _ iv => s.size - (intOf iv).toNat)
  case atStart => exact ⟨0, Nat.zero_le _, rfl, rfl, rfl⟩
  case round =>
    obtain ⟨j, hj, rfl, rfl, hnul⟩ := hrel
    by_cases hlt : j < s.size
    · have hlt' : j < s.data.toList.length := by simpa using hlt
      obtain ⟨c, hc⟩ : ∃ c, c = s.data.toList[j] := ⟨_, rfl⟩
      have hcell := hcells j hlt'
      have hlen : (s.data.toList.take j).length = j := List.length_take_of_le (by omega)
      have hor := textN_or (s.data.toList.take j) c (by rw [hlen]; omega)
      have htake := List.take_succ_eq_append_getElem hlt'
      rw [← hc] at hcell htake
      rw [hlen, ← htake] at hor
      have HO := Lib.hid hor
      have HT := Lib.hid htake
      have HC := Lib.hid hc
      clear hor htake hc hcells hlen
      by_cases h0 : c.toNat = 0
      · have hz : ((c.toNat : Int) == 0) = true := by simp [h0]
        have hz' : c = 0 := UInt8.toNat_inj.1 h0
        have hn : hasNul s.data.toList = true := by
          unfold hasNul; rw [List.any_eq_true]; exact ⟨c, by rw [HC.out]; exact List.getElem_mem hlt', by simp [hz']⟩
        have HN := Lib.hid hn
        clear h0 hz' hn
        go_wp2
        go_ret2
        exact ⟨ret_two (val_int (by simp [textV, HN.out])) (val_int (by simp [textE, HN.out])), hb⟩
      · have hz : ((c.toNat : Int) == 0) = false := by simp; omega
        have hz' : (c == 0) = false := by rw [beq_eq_false_iff_ne]; intro e; rw [e] at h0; exact h0 rfl
        have hn : hasNul (s.data.toList.take (j + 1)) = false := by rw [HT.out, hasNul_snoc, hnul, hz']; rfl
        have HN := Lib.hid hn
        clear hn
        go_wp2
        go_round
        case rel => exact ⟨j + 1, by omega, by go_num, by rw [HO.out], HN.out⟩
        case measure => simp [intOf]; omega
    · have htk : s.data.toList.take j = s.data.toList := List.take_of_length_le (by simp; omega)
      have HT := Lib.hid htk
      clear htk
      go_wp2
      go_ret2
      rw [HT.out] at hnul
      exact ⟨ret_two (val_int (by simp only [textV, hnul, HT.out]; rfl)) (val_int (by simp only [textE, hnul]; rfl)), hb⟩

/-- A word's byte. -/
def byteN (w i : Nat) : Nat := w / 2 ^ (i * 8) % 256

theorem byteN_zero (b : UInt8) (m : Nat) : byteN (b.toNat + 256 * m) 0 = b.toNat := by have := b.toNat_lt; simp [byteN]
theorem byteN_succ (b : UInt8) (m i : Nat) : byteN (b.toNat + 256 * m) (i + 1) = byteN m i := by
  have := b.toNat_lt
  unfold byteN
  rw [show (i + 1) * 8 = 8 + i * 8 by omega, Nat.pow_add, ← Nat.div_div_eq_div_mul, show (b.toNat + 256 * m) / 2 ^ 8 = m by omega]
theorem byteN_text : ∀ (l : List UInt8) (i : Nat), byteN (textN l) i = if h : i < l.length then l[i].toNat else 0
  | [], i => by simp [textN, byteN]
  | b :: r, 0 => by simp only [textN, byteN_zero]; simp
  | b :: r, i + 1 => by
    simp only [textN, byteN_succ, byteN_text r i]
    by_cases h : i < r.length <;> simp [h]
/-- The first k bytes of a word. -/
def bytesTo (w k : Nat) : List UInt8 := (List.range k).map fun i => UInt8.ofNat (byteN w i)
theorem bytesTo_succ (w k : Nat) : bytesTo w (k + 1) = bytesTo w k ++ [UInt8.ofNat (byteN w k)] := by simp [bytesTo, List.range_succ]
theorem bytesTo_length (w k : Nat) : (bytesTo w k).length = k := by simp [bytesTo]
theorem toNat_byte (w i : Nat) : (UInt8.ofNat (byteN w i)).toNat = byteN w i := by
  have : byteN w i < 256 := Nat.mod_lt _ (by decide)
  simp [UInt8.toNat_ofNat']
  omega
theorem textN_bytes (w k : Nat) : textN (bytesTo w k) = w % 256 ^ k := by
  induction k with
  | zero => simp [bytesTo, textN, Nat.mod_one]
  | succ k ih =>
    rw [bytesTo_succ, textN_snoc, ih, bytesTo_length, toNat_byte, Nat.mod_pow_succ]
    unfold byteN
    rw [pow_256, Nat.mul_comm 8]
theorem mod_same (w n k : Nat) (h : ∀ i, n ≤ i → i < n + k → byteN w i = 0) : w % 256 ^ (n + k) = w % 256 ^ n := by
  induction k with
  | zero => rfl
  | succ k ih =>
    have h0 := h (n + k) (by omega) (by omega)
    unfold byteN at h0
    rw [← Nat.add_assoc, Nat.mod_pow_succ, ih (fun i h1 h2 => h i h1 (by omega)), show w / 256 ^ (n + k) % 256 = 0 by rw [pow_256, Nat.mul_comm 8]; exact h0]
    rfl
theorem hasNul_bytes (w n : Nat) (h : ∀ i, i < n → byteN w i ≠ 0) : hasNul (bytesTo w n) = false := by
  unfold hasNul bytesTo
  rw [List.any_eq_false]
  intro c hc
  obtain ⟨i, hi, rfl⟩ := List.mem_map.1 hc
  intro e
  have e2 : UInt8.ofNat (byteN w i) = 0 := by simpa using e
  refine h i (List.mem_range.1 hi) ?_
  rw [← toNat_byte, e2]
  rfl

/-- Back's answer: the text whose word it is, or none. -/
def isText (w : Nat) (l : List UInt8) : Prop := l.length ≤ 8 ∧ hasNul l = false ∧ w = textN l
def BackPost (w : Nat) (e : Ending) : Prop :=
  (∃ l, isText w l ∧ e = .returned (.tuple #[.string ⟨l.toArray⟩, .int .i64 0])) ∨ ((¬ ∃ l, isText w l) ∧ e = .returned (.tuple #[.string ⟨#[]⟩, .int .i64 2]))
theorem back_not (w n j : Nat) (hnj : n < j) (hn : byteN w n = 0) (hj : byteN w j ≠ 0) : ¬ ∃ l, isText w l := by
  rintro ⟨l, _, hnul, rfl⟩
  rw [byteN_text] at hn hj
  by_cases h : n < l.length
  · rw [dif_pos h] at hn
    have : hasNul l = true := by
      unfold hasNul; rw [List.any_eq_true]
      exact ⟨l[n], List.getElem_mem h, by rw [beq_iff_eq]; exact UInt8.toNat_inj.1 hn⟩
    rw [this] at hnul; cases hnul
  · rw [dif_neg (by omega)] at hj; exact hj rfl

theorem addr_add (b i : Nat) : (⟨b, 0, none⟩ : Addr).add i = ⟨b, i, none⟩ := by unfold Addr.add; split <;> simp_all
theorem bytesTo_get (w n i : Nat) (h : i < (bytesTo w n).length) : (bytesTo w n)[i].toNat = byteN w i := by
  simp only [bytesTo, List.getElem_map, List.getElem_range, toNat_byte]

/-- What holds at the head of Back's loop. -/
structure BackI (w b j n : Nat) (wr : World) : Prop where
  zero : ∀ i, n ≤ i → i < j → byteN w i = 0
  nz : ∀ i, i < n → byteN w i ≠ 0
  cells : ∀ i, i < j → wr.cell? ⟨b, i, none⟩ = some (.int .u8 (byteN w i : Nat))
  there : ∀ i, i < 8 → ∃ v, wr.cell? ⟨b, i, none⟩ = some v
  free : ∀ i, i < 8 → wr.frozen? ⟨b, i, none⟩ = false
theorem BackI.step {w b j n : Nat} {wr : World} (h : BackI w b j n wr) (hj : j < 8) (n' : Nat) (hz : ∀ i, n' ≤ i → i < j + 1 → byteN w i = 0) (hs : ∀ i, i < n' → byteN w i ≠ 0) :
    BackI w b (j + 1) n' (wr.setCell ⟨b, j, none⟩ (.int .u8 (byteN w j : Nat))) where
  zero := hz
  nz := hs
  cells := fun i hi => by
    by_cases e : i = j
    · subst e
      obtain ⟨v, hv⟩ := h.there i hj
      exact World.cell?_setCell_same _ _ _ hv
    · rw [World.cell?_setCell_other _ _ _ _ (fun e2 => e (by cases e2; rfl))]
      exact h.cells i (by omega)
  there := fun i hi => by
    by_cases e : i = j
    · subst e
      obtain ⟨v, hv⟩ := h.there i hj
      exact ⟨_, World.cell?_setCell_same _ _ _ hv⟩
    · rw [World.cell?_setCell_other _ _ _ _ (fun e2 => e (by cases e2; rfl))]
      exact h.there i hi
  free := fun i hi => by rw [World.frozen?_setCell]; exact h.free i hi
theorem byte_val (w j : Nat) : (w : Int) / 2 ^ (j * 8) % 256 = (byteN w j : Nat) := by
  unfold byteN
  rw [show (2 : Int) ^ (j * 8) = ((2 ^ (j * 8) : Nat) : Int) by simp]
  omega

set_option maxHeartbeats 4000000 in
theorem back_c (w : Nat) (hw : w < 18446744073709551616) (W : World) :
    Calls Try.prog 38 #[.int .u64 w] W fun e w' => BackPost w e ∧ Below W.heap.size W w' := by
  go_enter Try.func38, Try.ntmps38
  go_wp2
  generalize hb : W.heap.size = b
  obtain ⟨V, hV⟩ : ∃ V, V = W.alloc (.cells #[.int .u8 0, .int .u8 0, .int .u8 0, .int .u8 0, .int .u8 0, .int .u8 0, .int .u8 0, .int .u8 0] 78) := ⟨_, rfl⟩
  have hI0 : BackI w b 0 0 V := ⟨fun i _ h => by omega, fun i h => by omega, fun i h => by omega,
    fun i hi => ⟨.int .u8 0, by rw [hV, ← hb, World.cell?_alloc_new]; rcases i with _ | _ | _ | _ | _ | _ | _ | _ | i <;> first | rfl | omega⟩,
    fun i hi => by rw [hV, ← hb]; simp⟩
  have hB0 : Below b W V := by rw [hV, ← hb]; exact (Below.refl _ _).alloc (Nat.le_refl _) _
  rw [← hV]
  clear hV
  go_loopw [5, 7] (fun nv iv wr => ∃ j n : Nat, j ≤ 8 ∧ n ≤ j ∧ iv = .int .i64 j ∧ nv = .int .i64 n ∧ BackI w b j n wr ∧ Below b W wr) (fun _ iv _ => 8 - (intOf iv).toNat)
  case atStart => exact ⟨0, 0, by omega, by omega, rfl, rfl, hI0, hB0⟩
  case round =>
    obtain ⟨j, n, hj, hn, rfl, rfl, hI, hB⟩ := hrel
    by_cases hlt : j < 8
    · obtain ⟨v, hc⟩ := hI.there j hlt
      have hf := hI.free j hlt
      by_cases h0 : byteN w j = 0
      · have ht : ((w : Int) / 2 ^ (j * 8) % 256 == 0) = true := by rw [byte_val, h0]; rfl
        have hI2 := hI.step hlt n (fun i h1 h2 => by by_cases e : i = j; (· rw [e]; exact h0); exact hI.zero i h1 (by omega)) hI.nz
        rw [← byte_val] at hI2
        go_wp2
        go_roundw
        case rel => exact ⟨j + 1, n, by omega, by omega, by go_num, rfl, hI2, hB.setCell (p := ⟨b, j, none⟩) (Nat.le_refl _) _⟩
        case measure => simp [intOf]; omega
      · have ht : ((w : Int) / 2 ^ (j * 8) % 256 == 0) = false := by rw [byte_val, beq_eq_false_iff_ne]; omega
        by_cases hnj : n = j
        · subst hnj
          have hI2 := hI.step hlt (n + 1) (fun i h1 h2 => by omega) (fun i h1 => by by_cases e : i = n; (· rw [e]; exact h0); exact hI.nz i (by omega))
          rw [← byte_val] at hI2
          go_wp2
          go_roundw
          case rel => exact ⟨n + 1, n + 1, by omega, by omega, by go_num, by go_num, hI2, hB.setCell (p := ⟨b, n, none⟩) (Nat.le_refl _) _⟩
          case measure => simp [intOf]; omega
        · have hnb : ((n : Int) != (j : Int)) = true := by rw [bne_iff_ne]; omega
          have hnot := back_not w n j (by omega) (hI.zero n (Nat.le_refl _) (by omega)) h0
          have HN := Lib.hid hnot
          clear hnot
          go_wp2
          go_ret2
          exact ⟨.inr ⟨HN.out, rfl⟩, by rw [hb]; exact hB.setCell (p := ⟨b, j, none⟩) (Nat.le_refl _) _⟩
    · obtain rfl : j = 8 := by omega
      have hal : (n : Int) ≤ Try.prog.arrayLen 78 := by rw [show Try.prog.arrayLen 78 = 8 by kernel_rfl]; omega
      have hsl := run_sliceAt_array_h (P := Try.prog) wr 78 ⟨b, 0, none⟩ (by kernel_rfl) .i64 (n : Int) (by omega) hal
      rw [show Try.prog.arrayLen 78 = 8 by kernel_rfl, Int.toNat_natCast] at hsl
      have hcv := run_convert_bytes_back (P := Try.prog) wr 79 9 5 ⟨b, 0, none⟩ 8 (bytesTo w n) Try.underlying79 Try.underlying5 Try.underlying9
        (fun i hi => by
          have hi' : i < n := by rwa [bytesTo_length] at hi
          rw [addr_add, bytesTo_get]
          exact hI.cells i (by omega))
      rw [bytesTo_length] at hcv
      have htext : isText w (bytesTo w n) := ⟨by rw [bytesTo_length]; exact hn, hasNul_bytes w n hI.nz, by
        rw [textN_bytes]
        obtain ⟨d, hd⟩ := Nat.exists_eq_add_of_le hn
        rw [← mod_same w n d (fun i h1 h2 => hI.zero i h1 (by omega)), ← hd]
        exact (Nat.mod_eq_of_lt hw).symm⟩
      have HT := Lib.hid htext
      clear htext
      go_wp2
      go_ret2
      exact ⟨.inl ⟨_, HT.out, rfl⟩, by rw [hb]; exact hB⟩

end Go.Proofs.Ytejendpkkdmjhaa
