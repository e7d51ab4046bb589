/-
  The names of the faces: none is empty.
-/
import Derived.Test.YtobpmjphakkekaaNoneB
import Derived.Great.BuildSlice
namespace Go.Proofs.Ytobpmjphakkekaa.facesNone
open Go.ChangeShapes Go.WideShapes Go.ChangeAt Go.RowKit
set_option linter.unusedVariables false
attribute [local go_sem] run_store_float

def nmArr : Array Value := #[.string ⟨#[]⟩, .string ⟨#[101, 114, 114, 111, 114]⟩, .string ⟨#[71, 114, 97, 100, 101, 114]⟩, .string ⟨#[67, 111, 100, 101, 114]⟩, .string ⟨#[87, 101, 105, 103, 104, 101, 114]⟩, .string ⟨#[80, 104, 97, 115, 101, 114]⟩, .string ⟨#[84, 105, 109, 101, 114]⟩, .string ⟨#[76, 105, 110, 101, 114]⟩, .string ⟨#[68, 101, 116, 97, 105, 108, 101, 114]⟩, .string ⟨#[79, 110, 101]⟩, .string ⟨#[77, 97, 110, 121]⟩, .string ⟨#[74, 117, 100, 103, 101]⟩, .string ⟨#[76, 101, 110, 100, 101, 114]⟩, .string ⟨#[75, 105, 110, 100, 101, 114]⟩, .string ⟨#[83, 105, 122, 101, 114]⟩, .string ⟨#[84, 105, 109, 101, 100, 69, 114, 114, 111, 114]⟩, .string ⟨#[67, 111, 100, 101, 100, 67, 97, 117, 115, 101]⟩, .string ⟨#[87, 104, 111, 108, 101]⟩, .string ⟨#[78, 111, 98, 111, 100, 121]⟩, .string ⟨#[97, 110, 121]⟩]
def zeArr : Array Value := #[.string ⟨#[]⟩, .string ⟨#[]⟩, .string ⟨#[]⟩, .string ⟨#[]⟩, .string ⟨#[]⟩, .string ⟨#[]⟩, .string ⟨#[]⟩, .string ⟨#[]⟩, .string ⟨#[]⟩, .string ⟨#[]⟩, .string ⟨#[]⟩, .string ⟨#[]⟩, .string ⟨#[]⟩, .string ⟨#[]⟩, .string ⟨#[]⟩, .string ⟨#[]⟩, .string ⟨#[]⟩, .string ⟨#[]⟩, .string ⟨#[]⟩, .string ⟨#[]⟩]
theorem nmArr_one : nmArr.all (·.oneCell') = true := by kernel_rfl
set_option maxRecDepth 100000 in
theorem nameOf_in (k : Nat) (s : ByteArray) (h1 : 1 ≤ k) (h2 : k ≤ 19) (hs : nmArr[k]? = some (.string s)) (w : World) : Calls Try.prog 19 #[.int .u8 (k : Int)] w fun e w' => e = .returned (.string s) ∧ Below w.heap.size w w' := by
  have hg : (w.alloc (.cells zeArr 79)).heap[w.heap.size]? = some (.cells zeArr 79 (0, 0)) := heap_alloc_new w _
  have hc : ((w.alloc (.cells zeArr 79)).setRow w.heap.size nmArr).cell? ⟨w.heap.size, k, none⟩ = some (.string s) := by
    rw [cell_setRow_same _ _ _ _ _ _ _ hg]; exact hs
  have hz : ∀ W, (zeroValue 79).run Try.prog W = .ok (.agg zeArr) W := fun W => by kernel_rfl
  have hbl : Below w.heap.size w ((w.alloc (.cells zeArr 79)).setRow w.heap.size nmArr) := ⟨rfl, rfl, rfl, by simp, fun b hb => by
    rw [setRow_other _ _ _ _ (by omega)]; exact ((Below.refl w.heap.size w).alloc (Nat.le_refl _) _).block b hb⟩
  go_enter Try.func19, Try.ntmps19
  go_wp2_with (first | (refine wpList_buildTo rfl 79 _ rfl _ rfl nmArr (by kernel_rfl) ?_) | (refine wpList_store_rowTo rfl 79 _ _ rfl rfl w.heap.size nmArr rfl rfl 79 zeArr hg (by kernel_rfl) rfl nmArr_one ?_))
  go_ret
  exact ⟨rfl, hbl⟩
end Go.Proofs.Ytobpmjphakkekaa.facesNone
