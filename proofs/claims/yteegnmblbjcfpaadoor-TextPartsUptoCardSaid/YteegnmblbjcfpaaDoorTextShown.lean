/-
  errataref01.shown: how one thing that is taken is shown.
-/
import Derived.Test.YteegnmblbjcfpaaDoorTextFit
set_option linter.unusedVariables false
namespace Go.Proofs.YteegnmblbjcfpaaDoor.T
open Go Go.Lib Go.RowKit Go.Shelf

abbrev pieceV (a : Nat) (S : ByteArray) (r : Int) : Value := .agg #[.int .i64 a, .string S, .int .i32 r]
theorem conv4d (w : World) (X : Obj) (a b c d : Int) :
    (convert 54 9 (.slice (some ⟨w.heap.size + 1, 0, none⟩) 4 4)).run Tryd.prog ((w.alloc X).alloc (.cells #[.int .u8 a, .int .u8 b, .int .u8 c, .int .u8 d] 5)).drew = .ok (.string (strOfNums [a, b, c, d])) ((w.alloc X).alloc (.cells #[.int .u8 a, .int .u8 b, .int .u8 c, .int .u8 d] 5)).drew :=
  run_convert_bytes_arg _ 54 5 Tryd.underlying54 Tryd.underlying5 (w.heap.size + 1) 0 4 4 [a, b, c, d] rfl (fun i hi => by
    show ((w.alloc X).alloc (.cells #[.int .u8 a, .int .u8 b, .int .u8 c, .int .u8 d] 5)).cell? _ = _
    rw [World.cell?_alloc_at _ _ _ _ (by simp)]
    obtain rfl | rfl | rfl | rfl : i = 0 ∨ i = 1 ∨ i = 2 ∨ i = 3 := by omega
    all_goals rfl) 9 Tryd.underlying9
theorem conv4 (w : World) (a b c d : Int) :
    (convert 54 9 (.slice (some ⟨w.heap.size, 0, none⟩) 4 4)).run Tryd.prog (w.alloc (.cells #[.int .u8 a, .int .u8 b, .int .u8 c, .int .u8 d] 5)) = .ok (.string (strOfNums [a, b, c, d])) (w.alloc (.cells #[.int .u8 a, .int .u8 b, .int .u8 c, .int .u8 d] 5)) := by
  have k := conv_new w [a, b, c, d]
  simpa using k

def digitsB : ByteArray := ⟨#[48, 49, 50, 51, 52, 53, 54, 55, 56, 57, 97, 98, 99, 100, 101, 102]⟩
/-- a digit's byte -/
def hexd (n : Nat) : Nat := if n < 10 then 48 + n else 87 + n
theorem digit_at (n : Nat) (h : n < 16) (W : World) : (Instr.index 9 (.string ⟨#[48, 49, 50, 51, 52, 53, 54, 55, 56, 57, 97, 98, 99, 100, 101, 102]⟩) (.int .u8 (n : Int))).run Tryd.prog W = .ok (.int .u8 (hexd n)) W := by
  obtain rfl | rfl | rfl | rfl | rfl | rfl | rfl | rfl | rfl | rfl | rfl | rfl | rfl | rfl | rfl | rfl : n = 0 ∨ n = 1 ∨ n = 2 ∨ n = 3 ∨ n = 4 ∨ n = 5 ∨ n = 6 ∨ n = 7 ∨ n = 8 ∨ n = 9 ∨ n = 10 ∨ n = 11 ∨ n = 12 ∨ n = 13 ∨ n = 14 ∨ n = 15 := by omega
  all_goals kernel_rfl

/-- the four signs of a byte that is shown by its digits -/
def hexS (c : Nat) : ByteArray := strOfNums [92, 120, hexd (c / 16), hexd (c % 16)]
set_option maxRecDepth 100000 in
set_option maxHeartbeats 1000000 in
theorem shown_hex (a : Nat) (S : ByteArray) (r : Int) (q : Bool) (hS : 0 < S.size) (hh : hexR r = true) (w : World) :
    Calls Tryd.prog 38 #[pieceV a S r, .bool q] w fun e w' => e = .returned (.tuple #[.string (hexS S[0].toNat), .int .i64 4]) ∧ Below w.heap.size w w' := by
  have b0 : (S[0].toNat : Int) < 256 := by have := S[0].toNat_lt; omega
  have d1 : ∀ W : World, (Instr.index 9 (.string ⟨#[48, 49, 50, 51, 52, 53, 54, 55, 56, 57, 97, 98, 99, 100, 101, 102]⟩) (.int .u8 ((S[0].toNat : Int) / 16))).run Tryd.prog W = .ok (.int .u8 (hexd (S[0].toNat / 16))) W := fun W => digit_at (S[0].toNat / 16) (by omega) W
  have d2 : ∀ W : World, (Instr.index 9 (.string ⟨#[48, 49, 50, 51, 52, 53, 54, 55, 56, 57, 97, 98, 99, 100, 101, 102]⟩) (.int .u8 ((S[0].toNat : Int) % 16))).run Tryd.prog W = .ok (.int .u8 (hexd (S[0].toNat % 16))) W := fun W => digit_at (S[0].toNat % 16) (by omega) W
  have cv := conv4d w (.cells #[.int .i64 a, .string S, .int .i32 r] 28) 92 120 (hexd (S[0].toNat / 16)) (hexd (S[0].toNat % 16))
  by_cases h1 : r < 32
  · have b1 : decide (r < 32) = true := by simpa using h1
    go_enter Tryd.func38, Tryd.ntmps38
    go_wp2
    go_region
    all_goals go_wp2
    all_goals go_ret2
    all_goals exact ⟨rfl, (((Below.refl _ w).alloc (Nat.le_refl _) _).alloc (by simp) _).drew⟩
  · have b1 : decide (r < 32) = false := by simpa using h1
    have h2 : r = 127 := by unfold hexR at hh; simp at hh; omega
    subst h2
    go_enter Tryd.func38, Tryd.ntmps38
    go_wp2
    go_region
    all_goals go_wp2
    all_goals go_ret2
    all_goals exact ⟨rfl, (((Below.refl _ w).alloc (Nat.le_refl _) _).alloc (by simp) _).drew⟩

/-- what is put ahead of it -/
def escR (r : Int) (q : Bool) : Bool := decide (r = 92) || (q && decide (r = 34))
set_option maxRecDepth 100000 in
set_option maxHeartbeats 1000000 in
theorem shown_esc (a : Nat) (S : ByteArray) (r : Int) (q : Bool) (hS4 : S.size ≤ 4) (hh : hexR r = false) (he : escR r q = true) (w : World) :
    Calls Tryd.prog 38 #[pieceV a S r, .bool q] w fun e w' => e = .returned (.tuple #[.string (⟨#[92]⟩ ++ S), .int .i64 2]) ∧ Below w.heap.size w w' := by
  have hs4 : ¬ 9223372036854775807 < 1 + S.size := by omega
  have h1 : ¬ r < 32 ∧ ¬ r = 127 := by unfold hexR at hh; simp at hh; omega
  obtain ⟨h1, h2⟩ := h1
  have b1 : decide (r < 32) = false := by simpa using h1
  have b2 : (r == 127) = false := by rw [beq_eq_false_iff_ne]; exact h2
  by_cases h3 : r = 92
  · subst h3
    go_enter Tryd.func38, Tryd.ntmps38
    go_wp2
    go_ret2
    exact ⟨rfl, (Below.refl _ w).alloc (Nat.le_refl _) _⟩
  · have b3 : (r == 92) = false := by rw [beq_eq_false_iff_ne]; exact h3
    have hq : q = true ∧ r = 34 := by unfold escR at he; simp [h3] at he; exact he
    obtain ⟨rfl, rfl⟩ := hq
    go_enter Tryd.func38, Tryd.ntmps38
    go_wp2
    go_ret2
    exact ⟨rfl, (Below.refl _ w).alloc (Nat.le_refl _) _⟩
set_option maxRecDepth 100000 in
set_option maxHeartbeats 1000000 in
theorem shown_self (a : Nat) (S : ByteArray) (r : Int) (q : Bool) (hh : hexR r = false) (he : escR r q = false) (w : World) :
    Calls Tryd.prog 38 #[pieceV a S r, .bool q] w fun e w' => e = .returned (.tuple #[.string S, .int .i64 1]) ∧ Below w.heap.size w w' := by
  have h1 : ¬ r < 32 ∧ ¬ r = 127 := by unfold hexR at hh; simp at hh; omega
  obtain ⟨h1, h2⟩ := h1
  have b1 : decide (r < 32) = false := by simpa using h1
  have b2 : (r == 127) = false := by rw [beq_eq_false_iff_ne]; exact h2
  have h3 : ¬ r = 92 := by unfold escR at he; simp at he; exact he.1
  have b3 : (r == 92) = false := by rw [beq_eq_false_iff_ne]; exact h3
  cases q with
  | false =>
    go_enter Tryd.func38, Tryd.ntmps38
    go_wp2
    go_ret2
    exact ⟨rfl, (Below.refl _ w).alloc (Nat.le_refl _) _⟩
  | true =>
    have h4 : ¬ r = 34 := by unfold escR at he; simp at he; exact he.2
    have b4 : (r == 34) = false := by rw [beq_eq_false_iff_ne]; exact h4
    go_enter Tryd.func38, Tryd.ntmps38
    go_wp2
    go_ret2
    exact ⟨rfl, (Below.refl _ w).alloc (Nat.le_refl _) _⟩

/-- how one thing is shown, and how wide -/
def shB (S : ByteArray) (r : Int) (q : Bool) : ByteArray := if hexR r then hexS (bt S 0) else if escR r q then ⟨#[92]⟩ ++ S else S
def shW (r : Int) (q : Bool) : Int := if hexR r then 4 else if escR r q then 2 else 1
theorem shW_f (r : Int) : shW r false = wOf r := by unfold shW wOf escR; simp
theorem shown_in (a : Nat) (S : ByteArray) (r : Int) (q : Bool) (hS : 0 < S.size) (hS4 : S.size ≤ 4) (w : World) :
    Calls Tryd.prog 38 #[pieceV a S r, .bool q] w fun e w' => e = .returned (.tuple #[.string (shB S r q), .int .i64 (shW r q)]) ∧ Below w.heap.size w w' := by
  unfold shB shW
  cases hh : hexR r with
  | true =>
    have := shown_hex a S r q hS hh w
    rw [← bt_get S 0 hS] at this
    simpa using this
  | false =>
    cases he : escR r q with
    | true => simpa using shown_esc a S r q hS4 hh he w
    | false => simpa using shown_self a S r q hh he w
end Go.Proofs.YteegnmblbjcfpaaDoor.T
