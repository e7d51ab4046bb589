/-
  errataref01.Show and Quote.
-/
import Derived.Test.YteegnmblbjcfpaaDoorTextRefShow
set_option linter.unusedVariables false
namespace Go.Proofs.YteegnmblbjcfpaaDoor.T
open Go Go.Lib Go.RowKit Go.Shelf

theorem refShow_in (s : ByteArray) (hs : s.size ≤ 16777216) (w : World) :
    Calls Tryd.prog 15 #[.string s] w fun e w' => e = .returned (.string ⟨(shL s false (pcs s)).toArray⟩) ∧ Below w.heap.size w w' := by
  go_enter Tryd.func15, Tryd.ntmps15
  go_wp2_with (go_at_call 36; refine (refAll_in s false hs _).mono ?_; rintro e w1 ⟨rfl, hb1⟩)
  go_ret
  exact ⟨rfl, hb1⟩
theorem refQuote_in (s : ByteArray) (hs : s.size ≤ 16777216) (w : World) :
    Calls Tryd.prog 19 #[.string s] w fun e w' => e = .returned (.string ⟨([34] ++ shL s true (pcs s) ++ [34]).toArray⟩) ∧ Below w.heap.size w w' := by
  have hl := shL_length s true (pcs s) (fun _ h => h)
  have hpl := pcs_length s
  generalize hT : (⟨(shL s true (pcs s)).toArray⟩ : ByteArray) = T
  have hTs : T.size = (shL s true (pcs s)).length := by rw [← hT]; simp [ByteArray.size]
  have n1 : ¬ 9223372036854775807 < 1 + T.size := by omega
  have n2 : ¬ 9223372036854775807 < 1 + T.size + 1 := by omega
  go_enter Tryd.func19, Tryd.ntmps19
  go_wp2_with (go_at_call 36; refine (refAll_in s true hs _).mono ?_; rintro e w1 ⟨rfl, hb1⟩)
  go_ret
  refine ⟨?_, hb1⟩
  show Ending.returned (Value.string ((⟨#[34]⟩ : ByteArray) ++ T ++ ⟨#[34]⟩)) = _
  rw [← hT]
  have e : ((⟨#[34]⟩ : ByteArray) ++ (⟨(shL s true (pcs s)).toArray⟩ : ByteArray) ++ ⟨#[34]⟩) = ⟨(34 :: (shL s true (pcs s) ++ [34])).toArray⟩ := by
    apply ByteArray.ext
    simp [ByteArray.data_append]
  rw [e]
end Go.Proofs.YteegnmblbjcfpaaDoor.T
