/-
  What the rows' list says of the package's table of sizes: its cells hold its numbers.
  Conditions: none.
-/
import Derived.Test.YtklbbcaebdfjeaaDoorRows
import Derived.Test.YtklbbcaebdfjeaaDoorZBase
import Derived.Lib.LaidTab
import Derived.ChangeSame
import Derived.OpenShut
import Derived.ProofKit
namespace Go.Proofs.YtklbbcaebdfjeaaDoor
open Go.RowKit Go.Shelf Go.ChangeShapes Go.WideShapes Go.ChangeAt

theorem gTab : Tryd.prog.globalNamed "afterglow/size.sizes" = some 0 := by kernel_rfl
theorem gTabType : ((Tryd.prog.globals[0]?).map (·.type)) = some 58 := by kernel_rfl
theorem tabArr : Tryd.prog.underlying 58 = some (.array 4 3) := by kernel_rfl
theorem cellsI : Tryd.prog.cellsOf 3 = 1 := by kernel_rfl
set_option maxRecDepth 100000 in
/-- The table's cells. -/
theorem tab_of_laid {W : World} {rest : List (String × DataW Unit)} (h : laidMet Tryd.prog (("afterglow/size.sizes", Rows.laid_afterglow_size_sizes) :: rest) W) : Tab W := by
  obtain ⟨ps, ⟨g', t', cs, fuel, p, q, hg', ht', hvar, hd, _, _⟩, _⟩ := h
  obtain rfl := Option.some.inj (gTab.symm.trans hg')
  obtain rfl := Option.some.inj (gTabType.symm.trans ht')
  obtain ⟨xs, m, rfl, e, hl, hxl, hx⟩ := DataW.trod_array tabArr hd
  have e1 : xs.map (·.1) = [.lit (.int .i64 2), .lit (.int .i64 4), .lit (.int .i64 8), .lit (.int .i64 16)] := by
    have h9 : Rows.laid_afterglow_size_sizes = DataW.agg (xs.map (·.1)) := congrArg Prod.fst e
    unfold Rows.laid_afterglow_size_sizes at h9
    exact (DataW.agg.inj h9).symm
  intro i hi
  have h1 := hx i hi
  rw [cellsI] at h1
  have h2 : i < xs.length := by omega
  rw [List.getElem?_eq_getElem h2] at h1
  have h3 : (xs.map (·.1))[i]? = some xs[i].1 := by rw [List.getElem?_map, List.getElem?_eq_getElem h2]; rfl
  rw [e1] at h3
  obtain ⟨x, hc, hxe, _⟩ := DataW.trod_int (t := 3) Tryd.underlying3 h1
  have hv : xs[i].1 = .lit (.int .i64 (szN i)) := by
    rcases i with _ | _ | _ | _ | i
    · exact (Option.some.inj h3).symm
    · exact (Option.some.inj h3).symm
    · exact (Option.some.inj h3).symm
    · exact (Option.some.inj h3).symm
    · omega
  have hx2 : x = (szN i : Int) := by
    have h4 : xs[i].1 = .lit (.int .i64 x) := congrArg Prod.fst hxe
    rw [h4] at hv
    injection hv with hv
    injection hv
  rw [hx2] at hc
  have h0 := congrArg (·[0]?) hc
  simp only [List.getElem?_take, List.getElem?_drop] at h0
  rw [World.var?_cell gTab hvar]
  simpa using h0

end Go.Proofs.YtklbbcaebdfjeaaDoor
