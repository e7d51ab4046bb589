/-
  PLAIN: a short number is read back as it was written; so is a tree's node.
-/
import Derived.Test.YtbldeiejlebbiaaPlaceCut
set_option linter.unusedVariables false
namespace Go.Proofs.Ytbldeiejlebbiaa.T
open Go Go.Lib Go.RowKit

theorem bt_list {l : List UInt8} {i : Nat} {x : UInt8} (h : l[i]? = some x) : bt ⟨l.toArray⟩ i = x.toNat := by
  have hl : i < (⟨l.toArray⟩ : ByteArray).size := by
    have := (List.getElem?_eq_some_iff.1 h).1
    exact this
  rw [bt_get _ _ hl]
  obtain ⟨h1, h2⟩ := List.getElem?_eq_some_iff.1 h
  show ((l.toArray)[i]'hl).toNat = x.toNat
  rw [List.getElem_toArray, h2]
theorem ext_list (l : List UInt8) (k : Nat) : (⟨l.toArray⟩ : ByteArray).extract k (⟨l.toArray⟩ : ByteArray).size = ⟨(l.drop k).toArray⟩ := by
  apply ByteArray.ext
  show ((⟨l.toArray⟩ : ByteArray).extract k (⟨l.toArray⟩ : ByteArray).size).data = _
  rw [ByteArray.data_extract]
  apply Array.ext'
  simp [ByteArray.size]
  exact List.take_of_length_le (by simp)
theorem cs_read (n : Nat) (hn : n < 2097152) (rest : List UInt8) : csN ⟨(shN n ++ rest).toArray⟩ = (n, ⟨rest.toArray⟩, true) := by
  have hsz : ∀ l : List UInt8, (⟨l.toArray⟩ : ByteArray).size = l.length := fun l => rfl
  unfold csN
  by_cases h1 : n > 127
  · by_cases h2 : n / 128 > 127
    · have e : shN n = [UInt8.ofNat (n % 128 + 128), UInt8.ofNat (n / 128 % 128 + 128), UInt8.ofNat (n / 128 / 128)] := by
        unfold shN; rw [shF, if_pos h1, shF, if_pos h2, shF]
      rw [e]
      have b0 : bt ⟨([UInt8.ofNat (n % 128 + 128), UInt8.ofNat (n / 128 % 128 + 128), UInt8.ofNat (n / 128 / 128)] ++ rest).toArray⟩ 0 = n % 128 + 128 := by
        rw [bt_list (x := UInt8.ofNat (n % 128 + 128)) (by simp), UInt8.toNat_ofNat']; omega
      have b1 : bt ⟨([UInt8.ofNat (n % 128 + 128), UInt8.ofNat (n / 128 % 128 + 128), UInt8.ofNat (n / 128 / 128)] ++ rest).toArray⟩ 1 = n / 128 % 128 + 128 := by
        rw [bt_list (x := UInt8.ofNat (n / 128 % 128 + 128)) (by simp), UInt8.toNat_ofNat']; omega
      have b2 : bt ⟨([UInt8.ofNat (n % 128 + 128), UInt8.ofNat (n / 128 % 128 + 128), UInt8.ofNat (n / 128 / 128)] ++ rest).toArray⟩ 2 = n / 128 / 128 := by
        rw [bt_list (x := UInt8.ofNat (n / 128 / 128)) (by simp), UInt8.toNat_ofNat']; omega
      rw [csF, if_pos (by rw [hsz]; simp), b0, if_neg (by omega), csF, if_pos (by rw [hsz]; simp), b1, if_neg (by omega), csF, if_pos (by rw [hsz]; simp), b2, if_pos (by omega), ext_list]
      have : 0 < n / 128 / 128 := by omega
      simp only [Prod.mk.injEq]
      refine ⟨by omega, by simp, by simp; omega⟩
    · have e : shN n = [UInt8.ofNat (n % 128 + 128), UInt8.ofNat (n / 128)] := by
        unfold shN; rw [shF, if_pos h1, shF, if_neg h2]
      rw [e]
      have b0 : bt ⟨([UInt8.ofNat (n % 128 + 128), UInt8.ofNat (n / 128)] ++ rest).toArray⟩ 0 = n % 128 + 128 := by
        rw [bt_list (x := UInt8.ofNat (n % 128 + 128)) (by simp), UInt8.toNat_ofNat']; omega
      have b1 : bt ⟨([UInt8.ofNat (n % 128 + 128), UInt8.ofNat (n / 128)] ++ rest).toArray⟩ 1 = n / 128 := by
        rw [bt_list (x := UInt8.ofNat (n / 128)) (by simp), UInt8.toNat_ofNat']; omega
      rw [csF, if_pos (by rw [hsz]; simp), b0, if_neg (by omega), csF, if_pos (by rw [hsz]; simp), b1, if_pos (by omega), ext_list]
      have : 0 < n / 128 := by omega
      simp only [Prod.mk.injEq]
      refine ⟨by omega, by simp, by simp; omega⟩
  · have e : shN n = [UInt8.ofNat n] := by unfold shN; rw [shF, if_neg h1]
    rw [e]
    have b0 : bt ⟨([UInt8.ofNat n] ++ rest).toArray⟩ 0 = n := by
      rw [bt_list (x := UInt8.ofNat n) (by simp), UInt8.toNat_ofNat']; omega
    rw [csF, if_pos (by rw [hsz]; simp), b0, if_pos (by omega), ext_list]
    simp only [Prod.mk.injEq]
    refine ⟨by omega, by simp, by simp⟩
end Go.Proofs.Ytbldeiejlebbiaa.T
