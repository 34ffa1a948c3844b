/-
  What the rows' list says of the package's table: its cells hold its numbers.
  Conditions: none.
-/
import Derived.Test.YtjgdkfgcfningaaDoorRows
import Derived.Test.YtjgdkfgcfningaaDoorSParts
import Derived.Lib.LaidTab
import Derived.ChangeSame
import Derived.OpenShut
import Derived.ProofKit
namespace Go.Proofs.YtjgdkfgcfningaaDoor
open Go.RowKit Go.Shelf Go.ChangeShapes Go.WideShapes Go.ChangeAt

theorem gTab : Tryd.prog.globalNamed "afterglow/script.fields" = some 0 := by kernel_rfl
theorem gTabType : ((Tryd.prog.globals[0]?).map (·.type)) = some 93 := by kernel_rfl
theorem tabArr : Tryd.prog.underlying 93 = some (.array 5 92) := by kernel_rfl
theorem cellsT : Tryd.prog.cellsOf 93 = 10 := by kernel_rfl
theorem cellsE : Tryd.prog.cellsOf 92 = 2 := by kernel_rfl
theorem cellsI : Tryd.prog.cellsOf 3 = 1 := by kernel_rfl
set_option maxRecDepth 100000 in
theorem two_of {H : Type} {enc : TypeId × Value → H} {W : World} {base : Nat} {sp : Nat → Bool} {held : Bool} {fuel : Nat} {cs : List Value} {a b : Int} {ps : List MemPlace}
    (h : DataW.trod enc Tryd.prog W base sp held fuel 92 cs = some (.agg [.lit (.int .i64 a), .lit (.int .i64 b)], ps)) : cs = [.int .i64 a, .int .i64 b] := by
  have hu := Tryd.underlying92
  obtain ⟨y0, y1, n, e, hl, h0, h1⟩ := trod_struct2 hu h
  rw [cellsE] at hl
  obtain ⟨c0, c1, rfl⟩ : ∃ a b, cs = [a, b] := by
    match cs, hl with
    | [a, b], _ => exact ⟨a, b, rfl⟩
  injection e with e _
  injection e with e
  injection e with e0 e
  injection e with e1 _
  simp only [cellsI] at h0 h1
  obtain ⟨x0, hc0, hx0, _⟩ := DataW.trod_int Tryd.underlying3 h0
  obtain ⟨x1, hc1, hx1, _⟩ := DataW.trod_int Tryd.underlying3 h1
  subst hx0
  subst hx1
  simp at e0 e1 hc0 hc1
  rw [hc0, hc1, e0, e1]

set_option maxRecDepth 100000 in
/-- The table's cells. -/
theorem tab_of_laid {W : World} {rest : List (String × DataW Unit)} (h : laidMet Tryd.prog (("afterglow/script.fields", Rows.laid_afterglow_script_fields) :: rest) W) : Tab W := by
  obtain ⟨ps, ⟨g', t', cs, fuel, p, q, hg', ht', hvar, hd, _, _⟩, _⟩ := h
  obtain rfl := Option.some.inj (gTab.symm.trans hg')
  obtain rfl := Option.some.inj (gTabType.symm.trans ht')
  obtain ⟨xs, m, rfl, e, hl, hxl, hx⟩ := DataW.trod_array tabArr hd
  have e1 : xs.map (·.1) = [.agg [.lit (.int .i64 0), .lit (.int .i64 3)], .agg [.lit (.int .i64 8), .lit (.int .i64 6)], .agg [.lit (.int .i64 0), .lit (.int .i64 2)], .agg [.lit (.int .i64 8), .lit (.int .i64 3)], .agg [.lit (.int .i64 16), .lit (.int .i64 8)]] := by
    have h9 : Rows.laid_afterglow_script_fields = DataW.agg (xs.map (·.1)) := congrArg Prod.fst e
    unfold Rows.laid_afterglow_script_fields at h9
    exact (DataW.agg.inj h9).symm
  have key : ∀ i, i < 5 → ((cs.toList.drop (i * 2)).take 2) = [.int .i64 (partAt i), .int .i64 (partW i)] := fun i hi => by
    have h1 := hx i hi
    rw [cellsE] at h1
    have h2 : i < xs.length := by omega
    rw [List.getElem?_eq_getElem h2] at h1
    have h3 : (xs.map (·.1))[i]? = some xs[i].1 := by rw [List.getElem?_map, List.getElem?_eq_getElem h2]; rfl
    rw [e1] at h3
    have h4 : xs[i] = (.agg [.lit (.int .i64 (partAt i)), .lit (.int .i64 (partW i))], xs[i].2) := by
      have : xs[i].1 = .agg [.lit (.int .i64 (partAt i)), .lit (.int .i64 (partW i))] := by
        rcases i with _ | _ | _ | _ | _ | i
        · exact (Option.some.inj h3).symm
        · exact (Option.some.inj h3).symm
        · exact (Option.some.inj h3).symm
        · exact (Option.some.inj h3).symm
        · exact (Option.some.inj h3).symm
        · omega
      rw [← this]
    rw [h4] at h1
    exact two_of h1
  intro i hi
  have hk := key i hi
  have h0 := congrArg (·[0]?) hk
  have h1 := congrArg (·[1]?) hk
  simp only [List.getElem?_take, List.getElem?_drop] at h0 h1
  exact ⟨by rw [World.var?_cell gTab hvar]; simpa using h0, by rw [World.var?_cell gTab hvar]; simpa using h1⟩

end Go.Proofs.YtjgdkfgcfningaaDoor
