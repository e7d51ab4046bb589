/-
  erratalaw03.own and ref: places of the program's and of the document's.
-/
import Derived.Test.YtbldeiejlebbiaaPlaceRow
set_option linter.unusedVariables false
namespace Go.Proofs.Ytbldeiejlebbiaa.T
open Go Go.Lib Go.RowKit

def IsRow (e : TypeId) (l : List Pl) (w : World) (en : Ending) (w' : World) : Prop := ∃ v, en = .returned v ∧ PRow e w.heap.size w' v l ∧ Below w.heap.size w w'
theorem PlSl.split {B : Nat} {w : World} {v : Value} {l : List Pl} (h : PlSl B w v l) : ∃ a c, v = .slice a l.length c ∧ l.length ≤ c ∧ c ≤ 9223372036854775807 ∧ (l ≠ [] → ∃ bk o, a = some ⟨bk, o, none⟩ ∧ bk < B ∧ PlAt w bk o l) := h

end Go.Proofs.Ytbldeiejlebbiaa.T
