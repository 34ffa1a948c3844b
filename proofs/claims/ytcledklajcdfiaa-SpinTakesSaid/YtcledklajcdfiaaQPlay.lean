/-
  Play, of package spin: all picks, one behind the other.
  Conditions: the memory may be, and all; the picks are few.
-/
import Derived.Test.YtcledklajcdfiaaQBegin
import Derived.Test.YtcledklajcdfiaaQHold
import Derived.Test.YtcledklajcdfiaaMNew
import Derived.Test.YtcledklajcdfiaaMLive
namespace Go.Proofs.Ytcledklajcdfiaa
open Go.RowKit Go.Shelf
attribute [local go_sem] Oper.semAt_some

set_option maxRecDepth 100000 in
theorem qbegin_bad (v v1 : Value) (ws : List Int) (ls : List Bool) (f : Bool) (W : World) (hv : MemAt W v ws ls f) (hw : ws.length ≤ 9223372036854775807) (hr : rightB ws ls = false) (h1 : ∃ p n c, v1 = .slice p n c) :
    Calls Try.prog 39 #[v, v1] W fun e w' => e = .returned (.tuple #[.pointer none, .int .i64 120]) ∧ Below W.heap.size W w' := by
  have hm := hv
  obtain ⟨vw, vl, rfl, ⟨pw, cw, rfl, hcw⟩, pl, cl, rfl, hcl⟩ := hv
  obtain ⟨p1, n1, c1, rfl⟩ := h1
  have HRUN := Lib.hid (fun (Z : World) (hb : Below W.heap.size W Z) => run_bad _ (.slice none 0 0) ws ls f Z (hm.below hb) hw hr ⟨none, 0, 0, rfl⟩)
  have HZ0 := Lib.hid (MBox.new W (.slice pw ws.length cw) (.slice pl ls.length cl) f)
  simp only [memZ] at HRUN
  clear hm hcw hcl hr
  go_enter Try.func39, Try.ntmps39
  go_wp2_with fail
  refine (HRUN.out _ (below1 _ _)).mono ?_
  rintro e w1 ⟨rfl, hb1⟩
  obtain ⟨z, hz⟩ : ∃ z, z = W.heap.size := ⟨_, rfl⟩
  rw [← hz]
  have hz1 := HZ0.out.below hb1
  rw [← hz] at hz1
  obtain ⟨⟨hd0, hd1, hd2⟩, he0, he1, he2⟩ := mbox_cells hz1
  have HB1 := Lib.hid (below_then (below1 W _) (below1 W _).size hb1)
  have HZW := Lib.hid hz
  clear hb1 hz1 HZ0 hz
  go_wp2
  refine bodyPost_ret (v := .tuple #[.pointer none, .int .i64 120]) (by simp [results, Try.results39, go_sem]) rfl ?_
  refine ⟨rfl, HB1.out.trans (Keeps.below ((((Keeps.setCell w1 (S := (· = z)) (p := ⟨z, 0, none⟩) rfl _).trans (Keeps.setCell _ (S := (· = z)) (p := ⟨z, 1, none⟩) rfl _)).trans (Keeps.setCell _ (S := (· = z)) (p := ⟨z, 2, none⟩) rfl _))) HB1.out.size (fun q hq => by rw [hq]; exact Nat.le_of_eq HZW.out.symm))⟩

set_option maxRecDepth 100000 in
theorem qholders (r : Nat) (b0 : Array Value) (vp : Value) (hvp : ∃ p n c, vp = .slice p n c) (W : World) :
    Calls Try.prog 43 #[.pointer (some ⟨r, 0, none⟩), .func (.func 44) b0 #[], vp] W fun e w' => e = .returned (.func (.func 67) #[] #[.pointer (some ⟨W.heap.size, 0, none⟩), .pointer (some ⟨W.heap.size + 2, 0, none⟩), .pointer (some ⟨W.heap.size + 1, 0, none⟩)]) ∧
      w' = ((W.alloc (.cells #[.pointer (some ⟨r, 0, none⟩)] 85)).alloc (.cells #[.func (.func 44) b0 #[]] 88)).alloc (.cells #[vp] 58) := by
  obtain ⟨p, n, c, rfl⟩ := hvp
  go_enter Try.func43, Try.ntmps43
  go_wp2
  go_ret
  exact ⟨rfl, rfl⟩

end Go.Proofs.Ytcledklajcdfiaa
