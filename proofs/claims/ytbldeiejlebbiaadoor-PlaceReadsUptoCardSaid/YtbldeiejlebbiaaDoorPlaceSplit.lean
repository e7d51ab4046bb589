/-
  Plain: a text parted at " < ", joined again; a place's digits.
-/
import Derived.Lib.IndexMore
import Derived.Lib.ItoaLen
import Derived.Lib.AtoiAllCases
set_option linter.unusedVariables false
namespace Go.Proofs.YtbldeiejlebbiaaDoor.T
open Go Go.Lib

def sepL : List UInt8 := [32, 60, 32]
def spl : Nat → List UInt8 → List (List UInt8)
  | 0, s => [s]
  | f + 1, s => if 0 ≤ index s sepL then s.take (index s sepL).toNat :: spl f (s.drop ((index s sepL).toNat + 3)) else [s]
theorem spl_ne : ∀ (f : Nat) (s : List UInt8), spl f s ≠ []
  | 0, s => by simp [spl]
  | f + 1, s => by unfold spl; split <;> simp
def jn : List (List UInt8) → List UInt8
  | [] => []
  | [x] => x
  | x :: y :: r => x ++ sepL ++ jn (y :: r)
theorem jn_cons (x : List UInt8) {l : List (List UInt8)} (h : l ≠ []) : jn (x :: l) = x ++ sepL ++ jn l := by
  cases l with
  | nil => exact absurd rfl h
  | cons y r => rfl
theorem jn_snoc : ∀ (l : List (List UInt8)) (x : List UInt8), l ≠ [] → jn (l ++ [x]) = jn l ++ sepL ++ x
  | [], x, h => absurd rfl h
  | [y], x, _ => rfl
  | y :: z :: r, x, _ => by
    have ih := jn_snoc (z :: r) x (by simp)
    rw [List.cons_append, jn_cons y (by simp), ih, jn_cons y (by simp)]
    simp
theorem jn_empty : ∀ (l : List (List UInt8)), (∀ x ∈ l, x ≠ []) → (jn l = [] ↔ l = [])
  | [], _ => by simp [jn]
  | [x], h => by simp [jn]; exact h x (by simp)
  | x :: y :: r, h => by simp [jn, sepL]
theorem occ_parts {s : List UInt8} {i : Nat} (h : occAt s sepL i = true) : s = s.take i ++ sepL ++ s.drop (i + 3) := by
  unfold occAt at h
  rw [List.isPrefixOf_iff_prefix] at h
  obtain ⟨t, ht⟩ := h
  have h2 : s.drop (i + 3) = t := by
    rw [← List.drop_drop, ← ht]
    rfl
  rw [h2, List.append_assoc, ht, List.take_append_drop]
theorem jn_spl : ∀ (f : Nat) (s : List UInt8), jn (spl f s) = s
  | 0, s => rfl
  | f + 1, s => by
    unfold spl
    rcases index_spec s sepL with ⟨h, _⟩ | ⟨i, h, hi, ho, _⟩
    · rw [h, if_neg (by decide)]; rfl
    · rw [h, if_pos (by omega), Int.toNat_natCast, jn_cons _ (spl_ne _ _), jn_spl f]
      exact (occ_parts ho).symm
/-- no blank in it -/
def noBl (x : List UInt8) : Prop := ∀ b ∈ x, b ≠ 32
theorem occ_head {s : List UInt8} {i : Nat} (h : occAt s sepL i = true) : s[i]? = some 32 := by
  have := occ_parts h
  unfold occAt at h
  rw [List.isPrefixOf_iff_prefix] at h
  obtain ⟨t, ht⟩ := h
  have : (s.drop i)[0]? = some 32 := by rw [← ht]; rfl
  rw [List.getElem?_drop] at this
  simpa using this
theorem index_noBl {x : List UInt8} (h : noBl x) : index x sepL = -1 := by
  rcases index_spec x sepL with ⟨h', _⟩ | ⟨i, _, _, ho, _⟩
  · exact h'
  · exact absurd rfl (h 32 (List.mem_of_getElem? (occ_head ho)))
theorem index_app {x r : List UInt8} (h : noBl x) : index (x ++ sepL ++ r) sepL = x.length := by
  refine index_first (by simp) ?_ (fun j hj => ?_)
  · unfold occAt
    rw [List.isPrefixOf_iff_prefix, List.append_assoc, List.drop_left]
    exact ⟨r, rfl⟩
  · cases ho : occAt (x ++ sepL ++ r) sepL j with
    | false => rfl
    | true =>
      have h1 := occ_head ho
      rw [List.append_assoc, List.getElem?_append_left hj] at h1
      exact absurd rfl (h 32 (List.mem_of_getElem? h1))
theorem spl_jn : ∀ (f : Nat) (xs : List (List UInt8)), xs ≠ [] → (∀ x ∈ xs, noBl x) → xs.length ≤ f + 1 → spl f (jn xs) = xs
  | f, [], h, _, _ => absurd rfl h
  | 0, [x], _, _, _ => rfl
  | f + 1, [x], _, h, _ => by
    show spl (f + 1) x = [x]
    unfold spl
    rw [index_noBl (h x (by simp)), if_neg (by decide)]
  | 0, x :: y :: r, _, _, hl => by simp at hl
  | f + 1, x :: y :: r, _, h, hl => by
    have ih := spl_jn f (y :: r) (by simp) (fun z hz => h z (List.mem_cons_of_mem _ hz)) (by simp at hl ⊢; omega)
    have hi := index_app (r := jn (y :: r)) (h x (by simp))
    show spl (f + 1) (x ++ sepL ++ jn (y :: r)) = _
    unfold spl
    rw [hi, if_pos (by omega), Int.toNat_natCast]
    have e1 : (x ++ sepL ++ jn (y :: r)).take x.length = x := by rw [List.append_assoc, List.take_left]
    have e2 : (x ++ sepL ++ jn (y :: r)).drop (x.length + 3) = jn (y :: r) := by
      rw [← List.drop_drop, List.append_assoc, List.drop_left]; rfl
    rw [e1, e2, ih]
theorem jn_len : ∀ (xs : List (List UInt8)), xs.length ≤ (jn xs).length + 1
  | [] => by simp
  | [x] => by simp
  | x :: y :: r => by
    have := jn_len (y :: r)
    rw [jn_cons x (by simp), List.length_append, List.length_append]
    simp [sepL] at this ⊢
    omega

/-! ### digits -/
/-- the number that some digits are -/
def val10 (l : List UInt8) : Nat := l.foldl (fun a b => 10 * a + b.toNat % 16) 0
theorem val10_snoc (l : List UInt8) (b : UInt8) : val10 (l ++ [b]) = 10 * val10 l + b.toNat % 16 := by simp [val10, List.foldl_append]
theorem dig_nat (u : Nat) (h : u < 10) : (UInt8.ofNat (48 + u)).toNat = 48 + u := by
  rw [UInt8.toNat_ofNat']; omega
theorem val10_dec (u : Nat) : val10 (decDigits u) = u := by
  induction u using Nat.strongRecOn with
  | ind u ih =>
    rw [decDigits]
    split
    · rename_i h
      show val10 ([] ++ [UInt8.ofNat (48 + u)]) = u
      rw [val10_snoc, dig_nat u h]
      simp [val10]; omega
    · rename_i h
      rw [val10_snoc, ih (u / 10) (by omega), dig_nat (u % 10) (by omega)]
      omega
theorem dec_bytes (u : Nat) : ∀ b ∈ decDigits u, 48 ≤ b.toNat ∧ b.toNat ≤ 57 := by
  induction u using Nat.strongRecOn with
  | ind u ih =>
    rw [decDigits]
    split
    · rename_i h
      intro b hb
      have hb := List.mem_singleton.1 hb
      subst hb
      rw [dig_nat u h]; omega
    · rename_i h
      intro b hb
      rcases List.mem_append.1 hb with hb | hb
      · exact ih (u / 10) (by omega) b hb
      · have hb := List.mem_singleton.1 hb
        subst hb
        rw [dig_nat (u % 10) (by omega)]; omega
theorem dec_ne (u : Nat) : decDigits u ≠ [] := by
  rw [decDigits]; split <;> simp
theorem dec_len7 (u : Nat) (h : u ≤ 1048576) : (decDigits u).length ≤ 7 := by
  have step : ∀ (k u : Nat), u < 10 ^ (k + 1) → (decDigits u).length ≤ k + 1 := by
    intro k
    induction k with
    | zero => intro u hu; rw [decDigits, dif_pos (by simpa using hu)]; simp
    | succ k ih =>
      intro u hu
      rw [decDigits]
      split
      · simp
      · have := ih (u / 10) (by rw [Nat.pow_succ] at hu; omega)
        rw [List.length_append]; simp; omega
  exact step 6 u (by omega)
end Go.Proofs.YtbldeiejlebbiaaDoor.T
