/-
  place.Common and errataref03.Common; errataref03.digits.
-/
import Derived.Test.YtbldeiejlebbiaaPlaceBase
set_option linter.unusedVariables false
namespace Go.Proofs.Ytbldeiejlebbiaa.T
open Go Go.Lib Go.RowKit

def eqP (p q : Pl) : Bool := (p.n.toList == q.n.toList) && (p.k == q.k)
def com : List Pl → List Pl → Nat
  | p :: a, q :: b => if eqP p q then com a b + 1 else 0
  | _, _ => 0
theorem com_nil (a : List Pl) : com a [] = 0 := by cases a <;> rfl
theorem com_step {a b : List Pl} {k : Nat} {x y : Pl} (ha : a[k]? = some x) (hb : b[k]? = some y) : com (a.drop k) (b.drop k) = if eqP x y then com (a.drop (k + 1)) (b.drop (k + 1)) + 1 else 0 := by
  obtain ⟨h1, e1⟩ := List.getElem?_eq_some_iff.1 ha
  obtain ⟨h2, e2⟩ := List.getElem?_eq_some_iff.1 hb
  rw [List.drop_eq_getElem_cons h1, List.drop_eq_getElem_cons h2, e1, e2]
  rfl

/-! ### digits -/
end Go.Proofs.Ytbldeiejlebbiaa.T
