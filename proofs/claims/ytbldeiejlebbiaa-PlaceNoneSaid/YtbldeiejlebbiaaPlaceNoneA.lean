/-
  What a tree that is not there answers; PLAIN: the nodes of one long list.
-/
import Derived.Test.YtbldeiejlebbiaaPlaceFrom
import Derived.Test.YtbldeiejlebbiaaPlaceTreeAdd
import Derived.Test.YtbldeiejlebbiaaPlaceTreeAsk
set_option linter.unusedVariables false
namespace Go.Proofs.Ytbldeiejlebbiaa.T
open Go Go.Lib Go.RowKit

theorem push_nil (x : Pl) (w : World) : Calls Try.prog 4 #[.pointer none, .int .i64 0, .agg #[.string x.n, .int .i64 x.k]] w fun e w' => e = .returned (.tuple #[.int .i64 0, .int .i64 2]) ∧ Below w.heap.size w w' := by
  go_enter Try.func4, Try.ntmps4
  go_wp2
  go_ret2
  exact ⟨rfl, (Below.refl _ _).alloc (Nat.le_refl _) _⟩
theorem add_nil (v : Value) (w : World) : Calls Try.prog 5 #[.pointer none, v] w fun e w' => e = .returned (.tuple #[.int .i64 0, .int .i64 2]) ∧ Below w.heap.size w w' := by
  go_enter Try.func5, Try.ntmps5
  go_wp2
  go_ret2
  exact ⟨rfl, Below.refl _ _⟩
theorem stack_nil (w : World) : Calls Try.prog 6 #[.pointer none, .int .i64 0] w fun e w' => e = .returned (.tuple #[.slice none 0 0, .int .i64 2]) ∧ Below w.heap.size w w' := by
  go_enter Try.func6, Try.ntmps6
  go_wp2
  go_ret2
  exact ⟨rfl, Below.refl _ _⟩
theorem meet_nil (w : World) : Calls Try.prog 7 #[.pointer none, .int .i64 0, .int .i64 0] w fun e w' => e = .returned (.tuple #[.int .i64 0, .int .i64 2]) ∧ Below w.heap.size w w' := by
  go_enter Try.func7, Try.ntmps7
  go_wp2
  go_ret2
  exact ⟨rfl, Below.refl _ _⟩
theorem len_nil (w : World) : Calls Try.prog 9 #[.pointer none] w fun e w' => e = .returned (.int .i64 0) ∧ w' = w := by
  go_enter Try.func9, Try.ntmps9
  go_wp2
  go_ret
  exact ⟨rfl, rfl⟩
theorem has_nil1 (w : World) : Calls Try.prog 15 #[.pointer none, .int .i64 1] w fun e w' => e = .returned (.bool false) ∧ w' = w := by
  have c := fun W => len_nil W
  go_enter Try.func15, Try.ntmps15
  go_wp2_with (go_at_call 9; refine (c _).mono ?_; rintro e w' ⟨rfl, rfl⟩)
  go_ret
  exact ⟨rfl, rfl⟩
theorem has_nil0 (w : World) : Calls Try.prog 15 #[.pointer none, .int .i64 0] w fun e w' => e = .returned (.bool false) ∧ w' = w := by
  have c := fun W => len_nil W
  go_enter Try.func15, Try.ntmps15
  go_wp2_with (go_at_call 9; refine (c _).mono ?_; rintro e w' ⟨rfl, rfl⟩)
  go_ret
  exact ⟨rfl, rfl⟩
theorem parent_nil (w : World) : Calls Try.prog 8 #[.pointer none, .int .i64 1] w fun e w' => e = .returned (.tuple #[.int .i64 0, .bool false]) ∧ w' = w := by
  have c := fun W => has_nil1 W
  go_enter Try.func8, Try.ntmps8
  go_wp2_with (go_at_call 15; refine (c _).mono ?_; rintro e w' ⟨rfl, rfl⟩)
  go_ret2
  exact ⟨rfl, rfl⟩
theorem depth_nil (w : World) : Calls Try.prog 10 #[.pointer none, .int .i64 0] w fun e w' => e = .returned (.int .i64 0) ∧ w' = w := by
  have c := fun W => has_nil0 W
  go_enter Try.func10, Try.ntmps10
  go_wp2_with (go_at_call 15; refine (c _).mono ?_; rintro e w' ⟨rfl, rfl⟩)
  go_ret
  exact ⟨rfl, rfl⟩
theorem told_nil (w : World) : Calls Try.prog 11 #[.pointer none] w fun e w' => e = .returned (.string ⟨#[]⟩) ∧ Below w.heap.size w w' := by
  have c := fun W => len_nil W
  go_enter Try.func11, Try.ntmps11
  go_wp2_with (go_at_call 9; refine (c _).mono ?_; rintro e w' ⟨rfl, rfl⟩)
  go_ret
  exact ⟨rfl, Below.refl _ _⟩

/-- PLAIN: a stack has no more places than its number -/
theorem path_le {ns : List Nd} (h : Wf ns) : ∀ (k n : Nat) (q : Nd), n ≤ k → nodeAt ns n = some q → (path ns n).length ≤ n
  | k, 0, q, _, _ => by rw [path_zero]; exact Nat.le_refl _
  | 0, n + 1, q, hk, _ => by omega
  | k + 1, n + 1, q, hk, hq => by
    rw [nodeAt_succ] at hq
    obtain ⟨a1, ⟨r, a2, a3⟩, _⟩ := h.up n q hq
    rw [path_succ h hq, List.length_append]
    have := path_le h k q.p r (by omega) a2
    simp; omega
/-- PLAIN: where a stack has as many places as its number, the nodes are its own, one behind the other -/
theorem path_chain {ns : List Nd} (h : Wf ns) : ∀ (j : Nat) (q : Nd), nodeAt ns j = some q → (path ns j).length = j → ∀ (i : Nat) (x : Pl), (path ns j)[i]? = some x → ns[i]? = some ⟨i, x, i + 1⟩
  | 0, q, _, _, i, x, hx => by rw [path_zero] at hx; simp at hx
  | j + 1, q, hq, hl, i, x, hx => by
    have hq0 := hq
    rw [nodeAt_succ] at hq
    obtain ⟨a1, ⟨r, a2, a3⟩, _⟩ := h.up j q hq
    have hd := path_depth h (j + 1) (j + 1) q (Nat.le_refl _) hq0
    rw [path_succ h hq] at hl hx hd
    have hp := path_le h q.p q.p r (Nat.le_refl _) a2
    rw [List.length_append] at hl hd
    have hqp : q.p = j := by simp at hl; omega
    rw [hqp] at hl hx a2 hd
    have hlj : (path ns j).length = j := by simpa using hl
    rcases Nat.lt_or_ge i j with hi | hi
    · rw [List.getElem?_append_left (by omega)] at hx
      exact path_chain h j r a2 hlj i x hx
    · rw [List.getElem?_append_right (by omega)] at hx
      have : i = j := by
        rcases Nat.lt_or_ge (i - (path ns j).length) 1 with h1 | h1
        · omega
        · rw [List.getElem?_eq_none (by simpa using h1)] at hx; cases hx
      subst this
      rw [hlj, Nat.sub_self] at hx
      simp at hx
      rw [hq]
      cases q
      simp only at hqp hx hd
      subst hqp hx
      simp at hd
      rw [← hd, hlj]
end Go.Proofs.Ytbldeiejlebbiaa.T
