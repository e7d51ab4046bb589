/-
  PLAIN LEAN, no program: what is taken of a text, by the model's own decoder; and that the document's way (the shortest form of a number that is a rune) takes the same.
-/
import Derived.Lib.DecodeN
import Derived.Laws.RangeAny
import Derived.Lib.RuneCountTail
set_option linter.unusedVariables false
namespace Go.Proofs.YteegnmblbjcfpaaDoor.T
open Go Go.Lib

/-! ### what is taken at a place -/
theorem decN_pos (n b0 b1 b2 b3 : Nat) (h : 1 ≤ n) : 1 ≤ (decodeN n b0 b1 b2 b3).2 ∧ (decodeN n b0 b1 b2 b3).2 ≤ n := by
  unfold decodeN
  repeat' split
  all_goals simp
  all_goals omega
theorem dec_pos (s : ByteArray) (p : Nat) (h : p < s.size) : 1 ≤ (Utf8.decode s p).2 ∧ p + (Utf8.decode s p).2 ≤ s.size := by
  rw [decode_at]
  have := decN_pos (s.size - p) (s.get! p).toNat (s.get! (p + 1)).toNat (s.get! (p + 2)).toNat (s.get! (p + 3)).toNat (by omega)
  omega
/-- the rune that is taken, -1 of a break; and how many bytes it has -/
def pc (s : ByteArray) (p : Nat) : Int × Nat := if Utf8.decode s p = (65533, 1) then (-1, 1) else (((Utf8.decode s p).1 : Int), (Utf8.decode s p).2)
theorem pc_2 (s : ByteArray) (p : Nat) : (pc s p).2 = (Utf8.decode s p).2 := by
  unfold pc; split
  · rename_i h; rw [h]
  · rfl
theorem pc_pos (s : ByteArray) (p : Nat) (h : p < s.size) : 1 ≤ (pc s p).2 ∧ p + (pc s p).2 ≤ s.size := by rw [pc_2]; exact dec_pos s p h
theorem pc_brk (s : ByteArray) (p : Nat) (h : Utf8.decode s p = (65533, 1)) : pc s p = (-1, 1) := by unfold pc; rw [if_pos h]
theorem pc_run (s : ByteArray) (p : Nat) (h : ¬ Utf8.decode s p = (65533, 1)) : pc s p = (((Utf8.decode s p).1 : Int), (Utf8.decode s p).2) := by unfold pc; rw [if_neg h]
theorem pc_bd (s : ByteArray) (p : Nat) : -1 ≤ (pc s p).1 ∧ (pc s p).1 ≤ 1114111 := by
  have hd : (Utf8.decode s p).1 ≤ 1114111 := by
    rw [decode_at]
    have h0 := (s.get! p).toNat_lt; have h1 := (s.get! (p + 1)).toNat_lt; have h2 := (s.get! (p + 2)).toNat_lt; have h3 := (s.get! (p + 3)).toNat_lt
    unfold decodeN
    repeat' split
    all_goals simp
    all_goals omega
  unfold pc; split <;> simp <;> omega
/-- all that is taken from a place on: where it begins, and the rune -/
def pcsF (s : ByteArray) : Nat → Nat → List (Nat × Int)
  | 0, _ => []
  | f + 1, p => if p < s.size then (p, (pc s p).1) :: pcsF s f (p + (pc s p).2) else []
def pcsFrom (s : ByteArray) (p : Nat) : List (Nat × Int) := pcsF s (s.size - p) p
def pcs (s : ByteArray) : List (Nat × Int) := pcsFrom s 0
theorem pcsF_same (s : ByteArray) : ∀ (f g p : Nat), s.size ≤ p + f → s.size ≤ p + g → pcsF s f p = pcsF s g p
  | 0, 0, _, _, _ => rfl
  | 0, g + 1, p, h, _ => by simp [pcsF, show ¬ p < s.size by omega]
  | f + 1, 0, p, _, h => by simp [pcsF, show ¬ p < s.size by omega]
  | f + 1, g + 1, p, h, k => by
    unfold pcsF
    by_cases hp : p < s.size
    · have := pc_pos s p hp
      rw [if_pos hp, if_pos hp, pcsF_same s f g _ (by omega) (by omega)]
    · rw [if_neg hp, if_neg hp]
theorem pcsFrom_step (s : ByteArray) (p : Nat) (h : p < s.size) : pcsFrom s p = (p, (pc s p).1) :: pcsFrom s (p + (pc s p).2) := by
  have := pc_pos s p h
  unfold pcsFrom
  rw [show s.size - p = (s.size - p - 1) + 1 by omega, pcsF, if_pos h]
  rw [pcsF_same s (s.size - p - 1) (s.size - (p + (pc s p).2)) _ (by omega) (by omega)]
theorem pcsFrom_end (s : ByteArray) (p : Nat) (h : ¬ p < s.size) : pcsFrom s p = [] := by
  unfold pcsFrom; cases s.size - p with
  | zero => rfl
  | succ k => simp [pcsF, h]
theorem pcsFrom_mem (s : ByteArray) : ∀ (k p : Nat), s.size - p ≤ k → ∀ x ∈ pcsFrom s p, p ≤ x.1 ∧ x.1 < s.size ∧ x.2 = (pc s x.1).1
  | k, p, hk, x, hx => by
    by_cases h : p < s.size
    · have hp := pc_pos s p h
      rw [pcsFrom_step s p h] at hx
      rcases List.mem_cons.1 hx with rfl | hx
      · exact ⟨Nat.le_refl _, h, rfl⟩
      · cases k with
        | zero => omega
        | succ k =>
          have := pcsFrom_mem s k (p + (pc s p).2) (by omega) x hx
          exact ⟨by omega, this.2⟩
    · rw [pcsFrom_end s p h] at hx; cases hx
theorem pcs_mem (s : ByteArray) (x : Nat × Int) (hx : x ∈ pcs s) : x.1 < s.size ∧ x.2 = (pc s x.1).1 := (pcsFrom_mem s s.size 0 (by omega) x hx).2
theorem pcsFrom_length (s : ByteArray) : ∀ (k p : Nat), s.size - p ≤ k → (pcsFrom s p).length ≤ s.size - p
  | k, p, hk => by
    by_cases h : p < s.size
    · have hp := pc_pos s p h
      rw [pcsFrom_step s p h]
      cases k with
      | zero => omega
      | succ k =>
        have := pcsFrom_length s k (p + (pc s p).2) (by omega)
        simp; omega
    · rw [pcsFrom_end s p h]; simp
theorem pcs_length (s : ByteArray) : (pcs s).length ≤ s.size := pcsFrom_length s s.size 0 (by omega)

/-! ### the document's way: the numbers' forms -/
def codedN (r : Nat) : List Nat :=
  if r < 128 then [r] else if r < 2048 then [192 + r / 64, 128 + r % 64]
  else if r < 65536 then [224 + r / 4096, 128 + r / 64 % 64, 128 + r % 64]
  else [240 + r / 262144, 128 + r / 4096 % 64, 128 + r / 64 % 64, 128 + r % 64]
def mayN (r : Nat) : Bool := decide (r ≤ 1114111 ∧ (r < 55296 ∨ 57343 < r))
theorem hit1 (b0 : Nat) (h0 : b0 < 256) : (mayN b0 = true ∧ codedN b0 = [b0]) ↔ b0 < 128 := by
  unfold mayN codedN
  constructor
  · rintro ⟨_, h⟩
    by_cases c : b0 < 128
    · exact c
    · rw [if_neg c] at h; rw [if_pos (by omega)] at h; simp at h
  · intro h; rw [if_pos h]; exact ⟨by simp; omega, rfl⟩
theorem hit2 (b0 b1 : Nat) (h0 : b0 < 256) (h1 : b1 < 256) : (mayN (b0 % 32 * 64 + b1 % 64) = true ∧ codedN (b0 % 32 * 64 + b1 % 64) = [b0, b1]) ↔
    (b0 / 32 = 6 ∧ b1 / 64 = 2 ∧ b0 % 32 * 64 + b1 % 64 ≥ 128) := by
  generalize hr : b0 % 32 * 64 + b1 % 64 = r
  unfold mayN codedN
  constructor
  · rintro ⟨_, h⟩
    repeat' split at h
    all_goals simp at h
    omega
  · rintro ⟨a, b, c⟩
    rw [if_neg (by omega), if_pos (by omega)]
    refine ⟨by simp; omega, ?_⟩
    simp; omega
theorem hit3 (b0 b1 b2 : Nat) (h0 : b0 < 256) (h1 : b1 < 256) (h2 : b2 < 256) : (mayN ((b0 % 16 * 64 + b1 % 64) * 64 + b2 % 64) = true ∧ codedN ((b0 % 16 * 64 + b1 % 64) * 64 + b2 % 64) = [b0, b1, b2]) ↔
    (b0 / 16 = 14 ∧ b1 / 64 = 2 ∧ b2 / 64 = 2 ∧ (b0 % 16 * 64 + b1 % 64) * 64 + b2 % 64 ≥ 2048 ∧ ((b0 % 16 * 64 + b1 % 64) * 64 + b2 % 64 < 55296 ∨ 57344 ≤ (b0 % 16 * 64 + b1 % 64) * 64 + b2 % 64)) := by
  generalize hr : (b0 % 16 * 64 + b1 % 64) * 64 + b2 % 64 = r
  unfold mayN codedN
  constructor
  · rintro ⟨g, h⟩
    simp at g
    repeat' split at h
    all_goals simp at h
    omega
  · rintro ⟨a, b, c, d, e⟩
    rw [if_neg (by omega), if_neg (by omega), if_pos (by omega)]
    refine ⟨by simp; omega, ?_⟩
    simp; omega
theorem hit4 (b0 b1 b2 b3 : Nat) (h0 : b0 < 256) (h1 : b1 < 256) (h2 : b2 < 256) (h3 : b3 < 256) : (mayN (((b0 % 8 * 64 + b1 % 64) * 64 + b2 % 64) * 64 + b3 % 64) = true ∧ codedN (((b0 % 8 * 64 + b1 % 64) * 64 + b2 % 64) * 64 + b3 % 64) = [b0, b1, b2, b3]) ↔
    (b0 / 8 = 30 ∧ b1 / 64 = 2 ∧ b2 / 64 = 2 ∧ b3 / 64 = 2 ∧ ((b0 % 8 * 64 + b1 % 64) * 64 + b2 % 64) * 64 + b3 % 64 ≥ 65536 ∧ ((b0 % 8 * 64 + b1 % 64) * 64 + b2 % 64) * 64 + b3 % 64 ≤ 1114111) := by
  generalize hr : ((b0 % 8 * 64 + b1 % 64) * 64 + b2 % 64) * 64 + b3 % 64 = r
  unfold mayN codedN
  constructor
  · rintro ⟨g, h⟩
    simp at g
    repeat' split at h
    all_goals simp at h
    omega
  · rintro ⟨a, b, c, d, e, f⟩
    rw [if_neg (by omega), if_neg (by omega), if_neg (by omega)]
    refine ⟨by simp; omega, ?_⟩
    simp; omega
end Go.Proofs.YteegnmblbjcfpaaDoor.T
