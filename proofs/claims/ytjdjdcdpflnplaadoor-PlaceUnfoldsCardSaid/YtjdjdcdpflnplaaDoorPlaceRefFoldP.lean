/-
  The document's search for blocks finds the same blocks, plainly.
-/
import Derived.Test.YtjdjdcdpflnplaaDoorPlaceFoldP
set_option linter.unusedVariables false
namespace Go.Proofs.YtjdjdcdpflnplaaDoor.T
open Go Go.Lib Go.RowKit

/-- what the document's search keeps (the block's length and how many places it makes) beside the block -/
def Corr (b : Nat × Nat) (best most : Nat) : Prop := (b = (1, 1) ∧ best = 0 ∧ most = 0) ∨ (best = b.1 ∧ most = b.1 * b.2 ∧ 2 ≤ b.2 ∧ 1 ≤ b.1)
theorem Corr.start : Corr (1, 1) 0 0 := .inl ⟨rfl, rfl, rfl⟩
theorem Corr.yes {l : List Pl} {b : Nat × Nat} {best most p : Nat} (h : Corr b best most) (hp : 1 ≤ p) (hk : 2 ≤ rep l p) (hm : most < p * rep l p) : Corr (better l b p) p (p * rep l p) := by
  have e : better l b p = (p, rep l p) := by
    unfold better
    rcases h with ⟨rfl, rfl, rfl⟩ | ⟨rfl, rfl, h2, h1⟩
    · have : 1 * 2 ≤ p * rep l p := Nat.mul_le_mul hp hk
      rw [if_pos ⟨hk, by show 1 * 1 < _; omega⟩]
    · rw [if_pos ⟨hk, hm⟩]
  rw [e]
  exact .inr ⟨rfl, rfl, hk, hp⟩
theorem Corr.no {l : List Pl} {b : Nat × Nat} {best most p : Nat} (h : Corr b best most) (hp : 1 ≤ p) (hk : ¬ (2 ≤ rep l p ∧ most < p * rep l p)) : Corr (better l b p) best most := by
  have e : better l b p = b := by
    unfold better
    rcases h with ⟨rfl, rfl, rfl⟩ | ⟨rfl, rfl, h2, h1⟩
    · refine if_neg (fun hc => hk ⟨hc.1, ?_⟩)
      have : 1 * 2 ≤ p * rep l p := Nat.mul_le_mul hp hc.1
      omega
    · exact if_neg hk
  rw [e]
  exact h
theorem blkGo_stop (l : List Pl) (f p : Nat) (b : Nat × Nat) (h : ¬ (p ≤ 8 ∧ 2 * p ≤ l.length)) : blkGo l f p b = b := by
  cases f with
  | zero => rfl
  | succ f => unfold blkGo; rw [if_neg h]
theorem better_far {l : List Pl} {p : Nat} (hp : 1 ≤ p) (hpl : p ≤ l.length) (h2 : ¬ 2 * p ≤ l.length) (b : Nat × Nat) : better l b p = b := by
  unfold better
  refine if_neg (fun hc => ?_)
  have h1 := (rep_is l p hp).len hpl
  have h3 : 2 * p ≤ rep l p * p := Nat.mul_le_mul_right p hc.1
  omega
theorem blkGo_step (l : List Pl) (p : Nat) (hp : 1 ≤ p) (h8 : p ≤ 8) (hpl : p ≤ l.length) (b : Nat × Nat) : blkGo l (9 - p) p b = blkGo l (9 - (p + 1)) (p + 1) (better l b p) := by
  by_cases h2 : 2 * p ≤ l.length
  · rw [show 9 - p = (9 - (p + 1)) + 1 by omega]
    show (if p ≤ 8 ∧ 2 * p ≤ l.length then _ else _) = _
    rw [if_pos ⟨h8, h2⟩]
  · rw [better_far hp hpl h2, blkGo_stop _ _ _ _ (by omega), blkGo_stop _ _ _ _ (by omega)]
theorem blkGo_end (l : List Pl) (p : Nat) (b : Nat × Nat) (hl : 1 ≤ l.length) (h : ¬ (p ≤ 8 ∧ p ≤ l.length)) : blkGo l (9 - p) p b = b := blkGo_stop _ _ _ _ (by omega)
end Go.Proofs.YtjdjdcdpflnplaaDoor.T
