/-
  What a tree is asked: Depth, Parent.
-/
import Derived.Test.YtbldeiejlebbiaaPlaceTree
set_option linter.unusedVariables false
namespace Go.Proofs.Ytbldeiejlebbiaa.T
open Go Go.Lib Go.RowKit

theorem hasB_true {n j : Nat} (h : j < n + 1) : hasB n (j : Int) = true := by unfold hasB; simp; omega
theorem hasB_nat {n : Nat} {k : Int} (h : hasB n k = true) : ∃ j : Nat, k = j ∧ j < n + 1 := by
  unfold hasB at h
  simp at h
  exact ⟨k.toNat, by omega, by omega⟩
def depthOf (ns : List Nd) (k : Int) : Nat := if hasB ns.length k then (((zeroNd :: ns)[k.toNat]?).map (·.d)).getD 0 else 0
theorem Depth_in {B : Nat} {T : Nat} {v : Value} {m : Nat} {ns : List Nd} (k : Int) (w : World) (h : TreeAt B w T v m ns) :
    Calls Try.prog 10 #[.pointer (some ⟨T, 0, none⟩), .int .i64 k] w fun e w' => e = .returned (.int .i64 (depthOf ns k)) ∧ w = w' := by
  have cH := has_in k w h
  obtain ⟨g, cap, rfl, _, _, hat⟩ := h.nodes
  have c0 := h.c0
  have hn := h.few
  unfold depthOf
  go_enter Try.func10, Try.ntmps10
  cases hb : hasB ns.length k with
  | false =>
    rw [hb] at cH
    go_wp2_with (go_at_call 15; refine cH.mono ?_; rintro e w' ⟨rfl, rfl⟩)
    go_ret
    exact ⟨rfl, rfl⟩
  | true =>
    rw [hb] at cH
    obtain ⟨j, rfl, hj⟩ := hasB_nat hb
    obtain ⟨q, hq⟩ : ∃ q, (zeroNd :: ns)[j]? = some q := ⟨_, List.getElem?_eq_getElem (by simpa using hj)⟩
    obtain ⟨e1, e2, e3, e4⟩ := hat j q hq
    generalize hl : ns.length = n at *
    go_wp2_with (go_at_call 15; refine cH.mono ?_; rintro e w' ⟨rfl, rfl⟩)
    go_ret
    exact ⟨by simp, rfl⟩
def parentOf (ns : List Nd) (k : Int) : Nat × Bool := if k != 0 && hasB ns.length k then ((((zeroNd :: ns)[k.toNat]?).map (·.p)).getD 0, true) else (0, false)
theorem Parent_in {B : Nat} {T : Nat} {v : Value} {m : Nat} {ns : List Nd} (k : Int) (w : World) (h : TreeAt B w T v m ns) :
    Calls Try.prog 8 #[.pointer (some ⟨T, 0, none⟩), .int .i64 k] w fun e w' => e = .returned (.tuple #[.int .i64 (parentOf ns k).1, .bool (parentOf ns k).2]) ∧ w = w' := by
  have cH := has_in k w h
  obtain ⟨g, cap, rfl, _, _, hat⟩ := h.nodes
  have c0 := h.c0
  have hn := h.few
  by_cases h0 : k = 0
  · have hp : parentOf ns k = (0, false) := by subst h0; rfl
    rw [hp]
    clear hp
    subst h0
    go_enter Try.func8, Try.ntmps8
    go_wp2
    go_ret2
    exact ⟨rfl, rfl⟩
  · cases hb : hasB ns.length k with
    | false =>
      have hp : parentOf ns k = (0, false) := by unfold parentOf; simp [hb]
      rw [hp]
      clear hp
      rw [hb] at cH
      go_enter Try.func8, Try.ntmps8
      go_wp2_with (go_at_call 15; refine cH.mono ?_; rintro e w' ⟨rfl, rfl⟩)
      go_ret2
      exact ⟨rfl, rfl⟩
    | true =>
      obtain ⟨j, rfl, hj⟩ := hasB_nat hb
      obtain ⟨q, hq⟩ : ∃ q, (zeroNd :: ns)[j]? = some q := ⟨_, List.getElem?_eq_getElem (by simpa using hj)⟩
      have hp : parentOf ns (j : Int) = (q.p, true) := by
        have hk : ((j : Int) != 0) = true := by simpa using h0
        unfold parentOf
        rw [hb, hk]
        simp [hq]
      rw [hp]
      clear hp
      rw [hb] at cH
      obtain ⟨e1, e2, e3, e4⟩ := hat j q hq
      clear hb hq hat
      generalize hl : ns.length = n at *
      go_enter Try.func8, Try.ntmps8
      go_wp2_with (go_at_call 15; refine cH.mono ?_; rintro e w' ⟨rfl, rfl⟩)
      go_ret2
      exact ⟨rfl, rfl⟩
end Go.Proofs.Ytbldeiejlebbiaa.T
