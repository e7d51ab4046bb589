/-
  PLAIN: a tree's nodes as a list: stacks of nodes; a list that is added is some node's stack; two nodes have two stacks; where two meet.
-/
import Derived.Test.YtbldeiejlebbiaaPlaceTreeNode
import Derived.Test.YtbldeiejlebbiaaPlaceCommon
set_option linter.unusedVariables false
namespace Go.Proofs.Ytbldeiejlebbiaa.T
open Go Go.Lib Go.RowKit

/-- a node's number (0: the root) -/
def nodeAt (ns : List Nd) (n : Nat) : Option Nd := (zeroNd :: ns)[n]?
theorem nodeAt_zero (ns : List Nd) : nodeAt ns 0 = some zeroNd := rfl
theorem nodeAt_succ (ns : List Nd) (n : Nat) : nodeAt ns (n + 1) = ns[n]? := rfl
/-- what a tree keeps: a parent's number is the lesser one, a depth is the parent's and one more, no step leads to two nodes, each place may be -/
structure Wf (ns : List Nd) : Prop where
  up : ∀ (n : Nat) (q : Nd), ns[n]? = some q → q.p ≤ n ∧ (∃ r, nodeAt ns q.p = some r ∧ q.d = r.d + 1) ∧ q.d ≤ 64 ∧ mayB q.x = true
  one : ∀ (i j : Nat) (q r : Nd), ns[i]? = some q → ns[j]? = some r → q.p = r.p → q.x = r.x → i = j
theorem Wf.nil : Wf [] := ⟨fun n q h => by simp at h, fun i j q r h => by simp at h⟩
theorem nodeAt_pre {ns ms : List Nd} (h : ns <+: ms) {n : Nat} {q : Nd} (hq : nodeAt ns n = some q) : nodeAt ms n = some q := by
  obtain ⟨t, rfl⟩ := h
  unfold nodeAt at *
  have hl : n < (zeroNd :: ns).length := (List.getElem?_eq_some_iff.1 hq).1
  rw [← List.cons_append, List.getElem?_append_left hl]; exact hq
theorem Wf.push {ns : List Nd} (h : Wf ns) {j : Nat} {q : Nd} {x : Pl} (hq : nodeAt ns j = some q) (hd : q.d < 64) (hm : mayB x = true) (hi : (j, x) ∉ ns.map stepOf) : Wf (ns ++ [⟨j, x, q.d + 1⟩]) := by
  have hj : j ≤ ns.length := by have := (List.getElem?_eq_some_iff.1 hq).1; simp at this; omega
  refine ⟨fun n r hr => ?_, fun a b r t hr ht h1 h2 => ?_⟩
  · rcases Nat.lt_or_ge n ns.length with hl | hl
    · rw [List.getElem?_append_left hl] at hr
      obtain ⟨a1, ⟨a2, a3, a4⟩, a5, a6⟩ := h.up n r hr
      exact ⟨a1, ⟨a2, nodeAt_pre (List.prefix_append _ _) a3, a4⟩, a5, a6⟩
    · rw [List.getElem?_append_right hl] at hr
      have h0 : n - ns.length = 0 := by
        rcases Nat.eq_zero_or_pos (n - ns.length) with h | h
        · exact h
        · rw [List.getElem?_eq_none (by simp; omega)] at hr; cases hr
      rw [h0] at hr
      simp at hr
      subst hr
      exact ⟨by simp only; omega, ⟨q, nodeAt_pre (List.prefix_append _ _) hq, rfl⟩, by simp only; omega, hm⟩
  · have hnew : ∀ c (u : Nd), (ns ++ [⟨j, x, q.d + 1⟩])[c]? = some u → (c < ns.length ∧ ns[c]? = some u) ∨ (c = ns.length ∧ u = ⟨j, x, q.d + 1⟩) := fun c u hu => by
      rcases Nat.lt_or_ge c ns.length with hl | hl
      · rw [List.getElem?_append_left hl] at hu; exact .inl ⟨hl, hu⟩
      · rw [List.getElem?_append_right hl] at hu
        have h0 : c - ns.length = 0 := by
          rcases Nat.eq_zero_or_pos (c - ns.length) with h | h
          · exact h
          · rw [List.getElem?_eq_none (by simp; omega)] at hu; cases hu
        rw [h0] at hu
        simp at hu
        exact .inr ⟨by omega, hu.symm⟩
    have hno : ∀ (c : Nat) (u : Nd), ns[c]? = some u → u.p = j → u.x = x → False := fun c u hu e1 e2 => hi (List.mem_map.2 ⟨u, List.mem_of_getElem? hu, by unfold stepOf; rw [e1, e2]⟩)
    rcases hnew a r hr with ⟨_, ha⟩ | ⟨ha, rfl⟩ <;> rcases hnew b t ht with ⟨_, hb⟩ | ⟨hb, rfl⟩
    · exact h.one a b r t ha hb h1 h2
    · exact (hno a r ha h1 h2).elim
    · exact (hno b t hb h1.symm h2.symm).elim
    · omega
/-- a node's stack -/
def pathF (ns : List Nd) : Nat → Nat → List Pl
  | 0, _ => []
  | _ + 1, 0 => []
  | f + 1, n + 1 => match ns[n]? with
    | none => []
    | some q => pathF ns f q.p ++ [q.x]
def path (ns : List Nd) (n : Nat) : List Pl := pathF ns n n
theorem pathF_same {ns : List Nd} (h : Wf ns) : ∀ (f g n : Nat), n ≤ f → n ≤ g → pathF ns f n = pathF ns g n
  | 0, 0, _, _, _ => rfl
  | 0, g + 1, n, h1, _ => by obtain rfl : n = 0 := by omega
                             rfl
  | f + 1, 0, n, _, h2 => by obtain rfl : n = 0 := by omega
                             rfl
  | f + 1, g + 1, 0, _, _ => rfl
  | f + 1, g + 1, n + 1, h1, h2 => by
    unfold pathF
    cases hq : ns[n]? with
    | none => rfl
    | some q =>
      have := (h.up n q hq).1
      simp only
      rw [pathF_same h f g q.p (by omega) (by omega)]
theorem path_zero (ns : List Nd) : path ns 0 = [] := rfl
theorem path_succ {ns : List Nd} (h : Wf ns) {n : Nat} {q : Nd} (hq : ns[n]? = some q) : path ns (n + 1) = path ns q.p ++ [q.x] := by
  have := (h.up n q hq).1
  have e : path ns (n + 1) = pathF ns n q.p ++ [q.x] := by
    unfold path; rw [pathF, hq]
  rw [e, pathF_same h n q.p q.p (by omega) (Nat.le_refl _)]; rfl
theorem path_depth {ns : List Nd} (h : Wf ns) : ∀ (k n : Nat) (q : Nd), n ≤ k → nodeAt ns n = some q → (path ns n).length = q.d
  | k, 0, q, _, hq => by rw [nodeAt_zero] at hq; cases hq; rfl
  | 0, n + 1, q, hk, _ => by omega
  | k + 1, n + 1, q, hk, hq => by
    rw [nodeAt_succ] at hq
    obtain ⟨a1, ⟨r, a2, a3⟩, _⟩ := h.up n q hq
    rw [path_succ h hq, List.length_append, path_depth h k q.p r (by omega) a2, a3]; rfl
theorem path_inj {ns : List Nd} (h : Wf ns) : ∀ (k a b : Nat) (q r : Nd), a ≤ k → nodeAt ns a = some q → nodeAt ns b = some r → path ns a = path ns b → a = b
  | k, 0, 0, _, _, _, _, _, _ => rfl
  | k, 0, b + 1, q, r, _, hq, hr, e => by
    rw [nodeAt_succ] at hr
    rw [path_zero, path_succ h hr] at e
    have := congrArg List.length e
    simp at this
  | k, a + 1, 0, q, r, _, hq, hr, e => by
    rw [nodeAt_succ] at hq
    rw [path_zero, path_succ h hq] at e
    have := congrArg List.length e
    simp at this
  | 0, a + 1, b + 1, _, _, hk, _, _, _ => by omega
  | k + 1, a + 1, b + 1, q, r, hk, hq, hr, e => by
    rw [nodeAt_succ] at hq hr
    obtain ⟨a1, ⟨qp, a2, _⟩, _⟩ := h.up a q hq
    obtain ⟨b1, ⟨rp, b2, _⟩, _⟩ := h.up b r hr
    rw [path_succ h hq, path_succ h hr] at e
    obtain ⟨e1, e2⟩ := List.append_inj' e rfl
    have := path_inj h k q.p r.p qp rp (by omega) a2 b2 e1
    have := h.one a b q r hq hr this (by simpa using e2)
    omega
theorem path_pre {ns ms : List Nd} (h : Wf ns) (h' : Wf ms) (hp : ns <+: ms) : ∀ (k n : Nat) (q : Nd), n ≤ k → nodeAt ns n = some q → path ms n = path ns n
  | k, 0, _, _, _ => rfl
  | 0, n + 1, _, hk, _ => by omega
  | k + 1, n + 1, q, hk, hq => by
    have hq' := nodeAt_pre hp hq
    rw [nodeAt_succ] at hq hq'
    obtain ⟨a1, ⟨qp, a2, _⟩, _⟩ := h.up n q hq
    rw [path_succ h hq, path_succ h' hq', path_pre h h' hp k q.p qp (by omega) a2]
/-- what a push that goes well comes to -/
def Pushed (ns : List Nd) (j : Nat) (x : Pl) (ms : List Nd) (n : Nat) : Prop :=
  Wf ms ∧ ns <+: ms ∧ ms.length ≤ ns.length + 1 ∧ (∃ q, nodeAt ms n = some q ∧ q.p = j ∧ q.x = x ∧ 0 < n) ∧ ((j, x) ∈ ns.map stepOf → ms = ns)
theorem Pushed.path {ns ms : List Nd} {j n : Nat} {x : Pl} {q : Nd} (h : Wf ns) (hp : Pushed ns j x ms n) (hj : nodeAt ns j = some q) : path ms n = path ns j ++ [x] := by
  obtain ⟨h1, h2, _, ⟨r, h3, rfl, rfl, h4⟩, _⟩ := hp
  obtain ⟨n, rfl⟩ : ∃ k, n = k + 1 := ⟨n - 1, by omega⟩
  rw [nodeAt_succ] at h3
  rw [path_succ h1 h3, path_pre h h1 h2 r.p r.p q (Nat.le_refl _) hj]
end Go.Proofs.Ytbldeiejlebbiaa.T
