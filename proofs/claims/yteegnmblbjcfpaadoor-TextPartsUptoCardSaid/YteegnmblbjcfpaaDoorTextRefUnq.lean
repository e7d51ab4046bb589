/-
  errataref01.digit, Unquote, Front.
-/
import Derived.Deep.RegionLaw
import Derived.Test.YteegnmblbjcfpaaDoorTextShowLink
import Derived.Test.YteegnmblbjcfpaaDoorTextFront
set_option linter.unusedVariables false
namespace Go.Proofs.YteegnmblbjcfpaaDoor.T
open Go Go.Lib Go.RowKit Go.Shelf

theorem digit_at64 (n : Nat) (h : n < 16) (W : World) : (Instr.index 9 (.string ⟨#[48, 49, 50, 51, 52, 53, 54, 55, 56, 57, 97, 98, 99, 100, 101, 102]⟩) (.int .i64 (n : Int))).run Tryd.prog W = .ok (.int .u8 (hexd n)) W := by
  obtain rfl | rfl | rfl | rfl | rfl | rfl | rfl | rfl | rfl | rfl | rfl | rfl | rfl | rfl | rfl | rfl : n = 0 ∨ n = 1 ∨ n = 2 ∨ n = 3 ∨ n = 4 ∨ n = 5 ∨ n = 6 ∨ n = 7 ∨ n = 8 ∨ n = 9 ∨ n = 10 ∨ n = 11 ∨ n = 12 ∨ n = 13 ∨ n = 14 ∨ n = 15 := by omega
  all_goals kernel_rfl
theorem digI_hexd (k c : Nat) (hk : k < 16) (h : hexd k = c) : digI c = k := by
  unfold hexd at h; unfold digI
  split at h <;> (repeat' split) <;> omega
theorem digI_none (c : Nat) (h : ∀ j, j < 16 → hexd j ≠ c) : digI c = -1 := by
  unfold digI
  split
  · rename_i hc
    have := h (c - 48) (by omega)
    unfold hexd at this; split at this <;> omega
  · split
    · rename_i hc
      have := h (c - 87) (by omega)
      unfold hexd at this; split at this <;> omega
    · rfl
set_option maxRecDepth 100000 in
set_option maxHeartbeats 1000000 in
theorem digit_in (c : Nat) (w : World) : Calls Tryd.prog 39 #[.int .u8 (c : Int)] w fun e w' => e = .returned (.int .i64 (digI c)) ∧ w = w' := by
  go_enter Tryd.func39, Tryd.ntmps39
  go_wp2
  go_loopw [3] (fun i wr => ∃ k : Nat, k ≤ 16 ∧ i = .int .i64 k ∧ (∀ j, j < k → hexd j ≠ c) ∧ wr = w) (fun i _ => 16 - (RowKit.intOf i).toNat)
  case atStart => exact ⟨0, by omega, rfl, fun j hj => by omega, rfl⟩
  case round =>
    obtain ⟨k, hk, rfl, hj, hw⟩ := hrel
    subst hw
    by_cases hlt : k < 16
    · have hd := fun W => digit_at64 k hlt W
      by_cases he : hexd k = c
      · have b1 : ((hexd k : Int) == (c : Int)) = true := by rw [he]; simp
        have HE := Lib.hid he
        have HJ := Lib.hid hj
        clear he hj
        go_wp2
        go_ret
        rw [digI_hexd k c hlt HE.out]
        exact ⟨rfl, rfl⟩
      · have b1 : ((hexd k : Int) == (c : Int)) = false := beq_f (by omega)
        have HE := Lib.hid he
        have HJ := Lib.hid hj
        clear he hj
        go_wp2
        go_roundw
        case rel =>
          refine ⟨k + 1, by omega, by go_num, fun j hj => ?_, trivial⟩
          by_cases hjk : j = k
          · rw [hjk]; exact HE.out
          · exact HJ.out j (by omega)
        case measure => simp [RowKit.intOf]; omega
    · obtain rfl : k = 16 := by omega
      have HJ := Lib.hid hj
      clear hj
      go_wp2
      go_ret
      rw [digI_none c HJ.out]
      exact ⟨rfl, rfl⟩
/-- what the quotes seem to say, from a place on -/
def unqS (t : ByteArray) : Nat → Nat → List UInt8 → List UInt8
  | 0, _, l => l
  | f + 1, i, l => if i + 1 < t.size then
      (if ¬ bt t i = 92 ∨ t.size ≤ i + 2 then unqS t f (i + 1) (l ++ [UInt8.ofNat (bt t i)])
       else if bt t (i + 1) = 120 ∧ i + 4 < t.size ∧ 0 ≤ digI (bt t (i + 2)) ∧ 0 ≤ digI (bt t (i + 3)) then unqS t f (i + 4) (l ++ [UInt8.ofNat (16 * (digI (bt t (i + 2))).toNat + (digI (bt t (i + 3))).toNat)])
       else unqS t f (i + 2) (l ++ [UInt8.ofNat (bt t (i + 1))]))
    else l
theorem unqS_len (t : ByteArray) : ∀ (f i : Nat) (l : List UInt8), l.length ≤ i → (unqS t f i l).length ≤ max l.length t.size
  | 0, i, l, h => by unfold unqS; omega
  | f + 1, i, l, h => by
    unfold unqS
    split
    · split
      · have := unqS_len t f (i + 1) (l ++ [UInt8.ofNat (bt t i)]) (by simp; omega)
        simp at this ⊢; omega
      · split
        · have := unqS_len t f (i + 4) (l ++ [UInt8.ofNat (16 * (digI (bt t (i + 2))).toNat + (digI (bt t (i + 3))).toNat)]) (by simp; omega)
          simp at this ⊢; omega
        · have := unqS_len t f (i + 2) (l ++ [UInt8.ofNat (bt t (i + 1))]) (by simp; omega)
          simp at this ⊢; omega
    · omega
theorem idx_at (s : ByteArray) (k : Nat) (i : Int) (hi : i = k) (h : k < s.size) (W : World) : (Instr.index 9 (.string s) (.int .i64 i)).run Tryd.prog W = .ok (.int .u8 (bt s k : Int)) W := by rw [hi]; exact idx_bt s k h W
/-- the text that stands in quotes -/
def unR (t : ByteArray) : Option ByteArray := if quB ⟨(unqS t t.size 1 []).toArray⟩ = t then some ⟨(unqS t t.size 1 []).toArray⟩ else none
end Go.Proofs.YteegnmblbjcfpaaDoor.T
