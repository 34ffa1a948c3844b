/-
  What the document's answer builds of words, in memory: the rows of calls, each a row of its own, and the picks.
  Conditions: as each has them.
-/
import Derived.Test.YtjgdkfgcfningaaDoorSBack0
import Derived.Test.YtjgdkfgcfningaaDoorSBitsR
namespace Go.Proofs.YtjgdkfgcfningaaDoor
open Go.RowKit Go.Shelf
attribute [local go_sem] Oper.semAt_some

/-- A script that is built: a row of slices, each of a row of its own, and the picks; all in newer memory. -/
structure RdR (w : World) (B : Nat) (st : RdS) (vs : List Value) (p : Option Addr) (c cap : Nat) (q : Option Addr) (m d : Nat) : Prop where
  out : w.ownsRow B 47 1 (.slice p c cap) c vs
  len : st.1.length = c
  own : ∀ j (_ : j < vs.length) (_ : j < st.1.length), w.ownsRow B 53 5 vs[j] st.1[j].length (cellsC st.1[j])
  apart : ∀ a b (_ : a < vs.length) (_ : b < vs.length), a ≠ b → ∀ g, vs[a].ownBlock = some g → vs[b].ownBlock ≠ some g
  picks : w.ownsRow B 3 1 (.slice q m d) m (st.2.map (Value.int .i64))
  plen : m = st.2.length
theorem RdR.vlen {w : World} {B c cap m d : Nat} {st : RdS} {vs : List Value} {p q : Option Addr} (h : RdR w B st vs p c cap q m d) : vs.length = c := by have := h.out.1; omega
theorem RdR.keeps {S : Nat → Prop} {w w' : World} {B c cap m d : Nat} {st : RdS} {vs : List Value} {p q : Option Addr} (h : RdR w B st vs p c cap q m d) (hk : Keeps S w w') (hS : ∀ k, B ≤ k → ¬ S k) : RdR w' B st vs p c cap q m d :=
  ⟨hk.row h.out (fun g hg => hS g (h.out.lt g hg).1), h.len, fun j h1 h2 => hk.row (h.own j h1 h2) (fun g hg => hS g ((h.own j h1 h2).lt g hg).1), h.apart, hk.row h.picks (fun g hg => hS g (h.picks.lt g hg).1), h.plen⟩
theorem RdR.below {w w' : World} {B c cap m d : Nat} {st : RdS} {vs : List Value} {p q : Option Addr} (h : RdR w B st vs p c cap q m d) (hb : Below w.heap.size w w') : RdR w' B st vs p c cap q m d :=
  h.keeps (S := fun _ => False) (Keeps.of_below hb) (fun _ _ h => h)
theorem RdR.lrow {w : World} {B c cap m d : Nat} {st : RdS} {vs : List Value} {p q : Option Addr} (h : RdR w B st vs p c cap q m d) : LRow w p c cap st.1 := by
  obtain ⟨_, hr, hn⟩ := owns_room h.out
  refine ⟨h.len.symm, hr, hn, fun hne => ?_⟩
  have hv := h.vlen
  have hl := h.len
  have hvn : vs ≠ [] := by
    rintro rfl
    simp only [List.length_nil] at hv
    exact hne (List.eq_nil_of_length_eq_zero (by omega))
  obtain ⟨b, off, rfl, hc⟩ := (VRow.of_owns h.out).cells hvn
  refine ⟨b, off, rfl, fun i hi => ?_⟩
  have hi' : i < vs.length := by omega
  have ho := h.own i hi' hi
  obtain ⟨q2, d2, e⟩ := owns_slice ho
  have h1 := hc i hi'
  rw [e] at h1 ho
  exact ⟨q2, d2, h1, VRow.of_owns ho⟩
theorem RdR.ri {w : World} {B c cap m d : Nat} {st : RdS} {vs : List Value} {p q : Option Addr} (h : RdR w B st vs p c cap q m d) : RI w q m d st.2 := by
  have h1 := h.picks
  have h2 := h.plen
  subst h2
  exact RI.of_owns h1
theorem keeps_grown {w w' : World} {r : Option Nat} (hg : w.grownBy w' r) : Keeps (fun q => some q = r) w w' := ⟨hg.os, hg.tape, hg.output, hg.size, fun q hq hn => hg.block q hq hn⟩
set_option maxHeartbeats 1000000 in
/-- A call more in one of the rows. -/
theorem RdR.call {w w1 : World} {B c cap m d z j : Nat} {st : RdS} {vs : List Value} {q : Option Addr} {x : CallM} {v' : Value} {o : Obj} (h : RdR w B st vs (some ⟨z, 0, none⟩) c cap q m d) (hj : j < vs.length) (hj2 : j < st.1.length)
    (hown : w1.ownsRow B 53 5 v' (st.1[j].length + 1) (cellsC st.1[j] ++ cells5 x)) (hg : (w.alloc o).grownBy w1 vs[j].ownBlock) (hat : v'.ownBlock = vs[j].ownBlock ∨ v'.ownBlock = some (w.alloc o).heap.size) :
    RdR (w1.setCell ⟨z, j, none⟩ v') B (addC st.1 j x, st.2) (vs.set j v') (some ⟨z, 0, none⟩) c cap q m d := by
  have hk := keeps_grown hg
  have hl := h.len
  have hv := h.vlen
  have hout1 : w1.ownsRow B 47 1 (.slice (some ⟨z, 0, none⟩) c cap) c vs := hk.row (h.out.alloc o) (fun g hg' hS => owns_ne h.out (h.own j hj hj2) (by decide) hg' (Eq.symm hS) rfl)
  have hp1 : w1.ownsRow B 3 1 (.slice q m d) m (st.2.map (Value.int .i64)) := hk.row (h.picks.alloc o) (fun g hg' hS => owns_ne h.picks (h.own j hj hj2) (by decide) hg' (Eq.symm hS) rfl)
  have hne : ∀ k (hk : k < vs.length) (hk2 : k < st.1.length), ∀ g, vs[k].ownBlock = some g → g < w.heap.size := fun k hk hk2 g hg => ((h.own k hk hk2).lt g hg).2
  have hpS : (w1.setCell ⟨z, j, none⟩ v').ownsRow B 3 1 (.slice q m d) m (st.2.map (Value.int .i64)) := ownsRow_setCell_other hp1 (a := ⟨z, j, none⟩) (fun e => owns_ne hp1 hout1 (by decide) e rfl rfl) v'
  refine ⟨(hout1.stored j v').1, by rw [addC_length]; exact hl, fun k hk1 hk2 => ?_, fun a b ha hb hab g hga => ?_, hpS, h.plen⟩
  · have hk' : k < vs.length := by simpa using hk1
    have hk3 : k < st.1.length := by omega
    have e1 : (addC st.1 j x)[k]'hk2 = if j = k then st.1[k] ++ [x] else st.1[k] := addC_get st.1 j x k hk3 hk2
    show (w1.setCell ⟨z, j, none⟩ v').ownsRow B 53 5 (vs.set j v')[k] ((addC st.1 j x)[k]'hk2).length (cellsC ((addC st.1 j x)[k]'hk2))
    rw [List.getElem_set, e1]
    by_cases e : j = k
    · subst e
      rw [if_pos rfl, if_pos rfl, List.length_append, cellsC_append]
      have h5 : cellsC [x] = cells5 x := by simp [cellsC]
      rw [h5]
      exact ownsRow_setCell_other hown (a := ⟨z, j, none⟩) (fun e => owns_ne hown hout1 (by decide) e rfl rfl) v'
    · rw [if_neg e, if_neg e]
      have h1 := hk.row ((h.own k hk' hk3).alloc o) (fun g hg' hS => h.apart k j hk' hj (fun e' => e e'.symm) g hg' (Eq.symm hS))
      exact ownsRow_setCell_other h1 (a := ⟨z, j, none⟩) (fun e => owns_ne h1 hout1 (by decide) e rfl rfl) v'
  · have ha' : a < vs.length := by simpa using ha
    have hb' : b < vs.length := by simpa using hb
    rw [List.getElem_set] at hga ⊢
    by_cases ea : j = a
    · subst ea
      rw [if_pos rfl] at hga
      rw [if_neg hab]
      intro hgb
      rcases hat with h1 | h1
      · rw [h1] at hga
        exact h.apart j b hj hb' hab g hga hgb
      · rw [h1] at hga
        injection hga with hga
        have := hne b hb' (by omega) g hgb
        rw [World.size_alloc] at hga
        omega
    · rw [if_neg ea] at hga
      by_cases eb : j = b
      · subst eb
        rw [if_pos rfl]
        intro hgb
        rcases hat with h1 | h1
        · rw [h1] at hgb
          exact h.apart a j ha' hj hab g hga hgb
        · rw [h1] at hgb
          injection hgb with hgb
          have := hne a ha' (by omega) g hga
          rw [World.size_alloc] at hgb
          omega
      · rw [if_neg eb]
        exact h.apart a b ha' hb' hab g hga
/-- A pick more. -/
theorem RdR.pick {w w1 : World} {B c cap m d m' d' : Nat} {st : RdS} {vs : List Value} {p q q' : Option Addr} {x : Int} (h : RdR w B st vs p c cap q m d) (hm : m' = m + 1)
    (hown : w1.ownsRow B 3 1 (.slice q' m' d') m' (st.2.map (Value.int .i64) ++ [.int .i64 x])) (hg : w.grownBy w1 (Value.slice q m d).ownBlock) :
    RdR w1 B (st.1, st.2 ++ [x]) vs p c cap q' m' d' := by
  have hk := keeps_grown hg
  refine ⟨hk.row h.out (fun g hg' hS => owns_ne h.out h.picks (by decide) hg' (Eq.symm hS) rfl), h.len, fun j h1 h2 => hk.row (h.own j h1 h2) (fun g hg' hS => owns_ne (h.own j h1 h2) h.picks (by decide) hg' (Eq.symm hS) rfl), h.apart, ?_, ?_⟩
  · rw [List.map_append]; exact hown
  · rw [hm, h.plen, List.length_append]; rfl
/-- Rows that are empty yet. -/
theorem RdR.new {w : World} {B c cap : Nat} {p : Option Addr} (h : w.ownsRow B 47 1 (.slice p c cap) c (List.replicate c (Value.slice none 0 0))) : RdR w B (List.replicate c [], []) (List.replicate c (Value.slice none 0 0)) p c cap none 0 0 :=
  ⟨h, by simp, (fun j h1 h2 => by simp only [List.getElem_replicate]; exact World.ownsRow_nil _ _ _ _), (fun a b ha hb _ g hg => by rw [List.getElem_replicate] at hg; cases hg), World.ownsRow_nil _ _ _ _, rfl⟩
/-- What the document's answer is, in memory: from block B on, whatever becomes of elder blocks. -/
def Built (B : Nat) (s : SM) (v : Value) (w : World) : Prop := ∃ vs p c cap q m d, v = .agg #[.int .i64 s.c, .int .i64 s.g, .slice p c cap, .slice q m d] ∧ RdR w B (s.ls, s.ps) vs p c cap q m d
theorem Built.sat {B : Nat} {s : SM} {v : Value} {w : World} (h : Built B s v w) : SAt w v s := by
  obtain ⟨vs, p, c, cap, q, m, d, rfl, h⟩ := h
  exact ⟨_, _, _, _, _, _, rfl, h.lrow, h.ri⟩
theorem Built.keeps {S : Nat → Prop} {B : Nat} {s : SM} {v : Value} {w w' : World} (h : Built B s v w) (hk : Keeps S w w') (hS : ∀ k, B ≤ k → ¬ S k) : Built B s v w' := by
  obtain ⟨vs, p, c, cap, q, m, d, rfl, h⟩ := h
  exact ⟨_, _, _, _, _, _, _, rfl, h.keeps hk hS⟩
theorem Built.below {B : Nat} {s : SM} {v : Value} {w w' : World} (h : Built B s v w) (hb : Below w.heap.size w w') : Built B s v w' := h.keeps (S := fun _ => False) (Keeps.of_below hb) (fun _ _ h => h)

end Go.Proofs.YtjgdkfgcfningaaDoor
