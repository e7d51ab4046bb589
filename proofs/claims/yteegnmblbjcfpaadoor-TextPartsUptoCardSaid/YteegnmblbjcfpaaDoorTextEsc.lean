/-
  text.readEscape and errataref01.digit.
-/
import Derived.Test.YteegnmblbjcfpaaDoorTextBuilder
import Derived.Test.YteegnmblbjcfpaaDoorTextRef
set_option linter.unusedVariables false
namespace Go.Proofs.YteegnmblbjcfpaaDoor.T
open Go Go.Lib Go.RowKit Go.Shelf

/-- what a digit is worth; -1: it is none -/
def digI (c : Nat) : Int := if 48 ≤ c ∧ c < 58 then (c : Int) - 48 else if 97 ≤ c ∧ c < 103 then (c : Int) - 87 else -1
theorem digI_bd (c : Nat) : -1 ≤ digI c ∧ digI c ≤ 15 := by unfold digI; (repeat' split) <;> omega
def hexB : ByteArray := ⟨#[48, 49, 50, 51, 52, 53, 54, 55, 56, 57, 97, 98, 99, 100, 101, 102]⟩
theorem index_dig (c : Nat) (h : c < 256) : Lib.indexByte hexB.data.toList ((c : Int)).toNat.toUInt8 = digI c := by
  have : ∀ n : Fin 256, Lib.indexByte hexB.data.toList ((n.1 : Int)).toNat.toUInt8 = digI n.1 := by decide +kernel
  exact this ⟨c, h⟩
theorem or_dig (a b : Int) (h0 : 0 ≤ a) (h1 : a ≤ 15) (h2 : 0 ≤ b) (h3 : b ≤ 15) : bits BinOp.or IntKind.i64 (a * 16) b = 16 * a + b := by
  have : ∀ m n : Fin 16, bits BinOp.or IntKind.i64 ((m.1 : Int) * 16) (n.1 : Int) = 16 * (m.1 : Int) + (n.1 : Int) := by decide +kernel
  have k := this ⟨a.toNat, by omega⟩ ⟨b.toNat, by omega⟩
  simp only [Int.toNat_of_nonneg h0, Int.toNat_of_nonneg h2] at k
  exact k
theorem dig_in (c : Nat) (h : c < 256) (w : World) : Calls Tryd.prog 64 #[.string ⟨#[48, 49, 50, 51, 52, 53, 54, 55, 56, 57, 97, 98, 99, 100, 101, 102]⟩, .int .u8 (c : Int)] w fun e w' => e = .returned (.int .i64 (digI c)) ∧ w' = w := by
  have k := Tryd.strings_IndexByte hexB (c : Int) w
  rw [index_dig c h] at k
  exact k
/-- what the escape at the front of a text is of, and how many bytes it has; 0: there is none -/
def escN (s : ByteArray) : Int × Nat :=
  if 2 ≤ s.size ∧ (bt s 1 = 92 ∨ bt s 1 = 34) then (bt s 1, 2)
  else if s.size < 4 ∨ bt s 1 ≠ 120 then (0, 0)
  else if digI (bt s 2) < 0 ∨ digI (bt s 3) < 0 then (0, 0) else (16 * digI (bt s 2) + digI (bt s 3), 4)
theorem idx_bt (s : ByteArray) (k : Nat) (h : k < s.size) (W : World) : (Instr.index 9 (.string s) (.int .i64 (k : Int))).run Tryd.prog W = .ok (.int .u8 (bt s k : Int)) W := by
  rw [run_index_string _ _ _ _ _ Tryd.underlying9, dif_pos ⟨by omega, by omega⟩, bt_get s _ h]
  simp
theorem beq_f {a b : Int} (h : ¬ a = b) : (a == b) = false := by rw [beq_eq_false_iff_ne]; exact h
set_option maxHeartbeats 2000000 in
set_option maxRecDepth 100000 in
theorem readEscape_in (s : ByteArray) (hs : s.size ≤ 9223372036854775807) (w : World) :
    Calls Tryd.prog 54 #[.string s] w fun e w' => e = .returned (.tuple #[.int .u8 (escN s).1, .int .i64 (escN s).2]) ∧ w' = w := by
  by_cases h2 : 2 ≤ s.size
  · have i1 : ∀ W : World, (Instr.index 9 (.string s) (.int .i64 1)).run Tryd.prog W = .ok (.int .u8 (bt s 1 : Int)) W := fun W => idx_bt s 1 (by omega) W
    by_cases a1 : bt s 1 = 92
    · have b1 : ((bt s 1 : Int) == 92) = true := by rw [a1]; rfl
      have e : escN s = (((bt s 1 : Nat) : Int), 2) := by unfold escN; rw [if_pos ⟨h2, .inl a1⟩]
      rw [e]
      clear a1 e
      go_enter Tryd.func54, Tryd.ntmps54
      go_wp2
      go_ret2
      exact ⟨rfl, rfl⟩
    have b1 : ((bt s 1 : Int) == 92) = false := beq_f (by omega)
    by_cases a2 : bt s 1 = 34
    · have b2 : ((bt s 1 : Int) == 34) = true := by rw [a2]; rfl
      have e : escN s = (((bt s 1 : Nat) : Int), 2) := by unfold escN; rw [if_pos ⟨h2, .inr a2⟩]
      rw [e]
      clear a1 a2 e
      go_enter Tryd.func54, Tryd.ntmps54
      go_wp2
      go_ret2
      exact ⟨rfl, rfl⟩
    have b2 : ((bt s 1 : Int) == 34) = false := beq_f (by omega)
    have e0 : ¬ (2 ≤ s.size ∧ (bt s 1 = 92 ∨ bt s 1 = 34)) := by omega
    by_cases h4 : s.size < 4
    · have e : escN s = (0, 0) := by unfold escN; rw [if_neg e0, if_pos (.inl h4)]
      rw [e]
      clear a1 a2 e e0
      go_enter Tryd.func54, Tryd.ntmps54
      go_wp2
      go_ret2
      exact ⟨rfl, rfl⟩
    have b4 : decide ((s.size : Int) < 4) = false := by simp; omega
    by_cases a3 : bt s 1 = 120
    · have b5 : ((bt s 1 : Int) != 120) = false := by rw [a3]; rfl
      have b3 : ((bt s 1 : Int) == 120) = true := by rw [a3]; rfl
      have i2 : ∀ W : World, (Instr.index 9 (.string s) (.int .i64 2)).run Tryd.prog W = .ok (.int .u8 (bt s 2 : Int)) W := fun W => idx_bt s 2 (by omega) W
      have i3 : ∀ W : World, (Instr.index 9 (.string s) (.int .i64 3)).run Tryd.prog W = .ok (.int .u8 (bt s 3 : Int)) W := fun W => idx_bt s 3 (by omega) W
      have D2 := digI_bd (bt s 2)
      have D3 := digI_bd (bt s 3)
      have e1 : escN s = if digI (bt s 2) < 0 ∨ digI (bt s 3) < 0 then (0, 0) else (16 * digI (bt s 2) + digI (bt s 3), 4) := by unfold escN; rw [if_neg e0, if_neg (by omega)]
      have d2 := fun w => dig_in (bt s 2) (bt_lt _ _) w
      have d3 := fun w => dig_in (bt s 3) (bt_lt _ _) w
      rw [e1]
      clear e1 e0 a1 a2 a3
      generalize digI (bt s 2) = x at *
      generalize digI (bt s 3) = y at *
      by_cases hx : x < 0
      · rw [if_pos (.inl hx)]
        have bx : decide (x < 0) = true := by simpa using hx
        go_enter Tryd.func54, Tryd.ntmps54
        go_wp2_with (go_at_call 64; first | (refine (d2 _).mono ?_; rintro e w' ⟨rfl, rfl⟩) | (refine (d3 _).mono ?_; rintro e w' ⟨rfl, rfl⟩))
        go_ret2
        exact ⟨rfl, rfl⟩
      have bx : decide (x < 0) = false := by simpa using hx
      by_cases hy : y < 0
      · rw [if_pos (.inr hy)]
        have bx : decide (y < 0) = true := by simpa using hy
        go_enter Tryd.func54, Tryd.ntmps54
        go_wp2_with (go_at_call 64; first | (refine (d2 _).mono ?_; rintro e w' ⟨rfl, rfl⟩) | (refine (d3 _).mono ?_; rintro e w' ⟨rfl, rfl⟩))
        go_ret2
        exact ⟨rfl, rfl⟩
      · rw [if_neg (by omega)]
        have by' : decide (y < 0) = false := by simpa using hy
        have ho := or_dig x y (by omega) (by omega) (by omega) (by omega)
        go_enter Tryd.func54, Tryd.ntmps54
        go_wp2_with (go_at_call 64; first | (refine (d2 _).mono ?_; rintro e w' ⟨rfl, rfl⟩) | (refine (d3 _).mono ?_; rintro e w' ⟨rfl, rfl⟩))
        go_ret2
        exact ⟨rfl, rfl⟩
    · have b3 : ((bt s 1 : Int) == 120) = false := beq_f (by omega)
      have b5 : ((bt s 1 : Int) != 120) = true := by rw [bne, b3]; rfl
      have e : escN s = (0, 0) := by unfold escN; rw [if_neg e0, if_pos (.inr a3)]
      rw [e]
      clear a1 a2 a3 e e0
      go_enter Tryd.func54, Tryd.ntmps54
      go_wp2
      go_ret2
      exact ⟨rfl, rfl⟩
  · have e : escN s = (0, 0) := by unfold escN; rw [if_neg (by omega), if_pos (.inl (by omega))]
    rw [e]
    clear e
    go_enter Tryd.func54, Tryd.ntmps54
    go_wp2
    go_ret2
    exact ⟨rfl, rfl⟩
end Go.Proofs.YteegnmblbjcfpaaDoor.T
