/-
  From a walk to a row: where a law returned true and what was in memory stays, the row's word holds; for any number of arguments.
  Conditions: the arguments' types can be read whole.
-/
import Derived.Test.YtjfphhemhaphbabRows
import Derived.ProofKit
import Derived.OpenShut
namespace Go.Proofs.Ytjfphhemhaphbab
open Go.ChangeShapes Go.WideShapes Go.ChangeAt Go.RowKit

theorem own : ownKnob Try.prog.godebug = none := by kernel_rfl
theorem laidOut : laidOutB Try.prog = true := by kernel_rfl

theorem trodAll_stays {H : Type} {enc : TypeId × Value → H} {P : Program} (hl : laidOutB P = true) {W W' : World} (hb : Below W.heap.size W W') : ∀ {ts : List TypeId} {vs : List Value} {ds : List (DataW H)} {ps : List MemPlace},
    (ts.all fun t => P.readableRec t && decide (t < P.types.size)) = true → DataW.TrodAll enc P W 0 (fun _ => true) true ts vs ds ps → (∀ x ∈ ps, x.block < W.heap.size) → DataW.TrodAll enc P W' 0 (fun b => decide (b < W.heap.size)) true ts vs ds ps
  | [], [], [], _, _, h, _ => h
  | t :: ts, v :: vs, d :: ds, _, hr, ⟨p, q, h, hs, e⟩, hlt => by
    subst e
    simp only [List.all_cons, Bool.and_eq_true, decide_eq_true_eq] at hr
    exact ⟨p, q, Below.trod hl hr.1.1 hr.1.2 h hb (fun x hx => hlt x (List.mem_append_left _ hx)), trodAll_stays hl hb hr.2 hs (fun x hx => hlt x (List.mem_append_right _ hx)), rfl⟩

end Go.Proofs.Ytjfphhemhaphbab
