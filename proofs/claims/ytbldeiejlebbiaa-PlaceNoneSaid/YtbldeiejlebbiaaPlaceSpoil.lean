/-
  erratalaw03.spoil: a row of places is written over, and grown.
-/
import Derived.Test.YtbldeiejlebbiaaPlaceOwn
set_option linter.unusedVariables false
namespace Go.Proofs.Ytbldeiejlebbiaa.T
open Go Go.Lib Go.RowKit

theorem cell_heap {w : World} {b o : Nat} {cur : Array Value} {t : TypeId} {z : Nat × Nat} {u : Value} (h : w.heap[b]? = some (.cells cur t z)) (hu : cur[o]? = some u) : w.cell? ⟨b, o, none⟩ = some u := by
  simp [World.cell?, h, hu]
theorem frozen_heap {w : World} {b o : Nat} {cur : Array Value} {t : TypeId} (h : w.heap[b]? = some (.cells cur t (0, 0))) : w.frozen? ⟨b, o, none⟩ = false := by
  simp [World.frozen?, h]
theorem set_heap {w : World} {b : Nat} {cur : Array Value} {t : TypeId} {z : Nat × Nat} (h : w.heap[b]? = some (.cells cur t z)) (o : Nat) (u : Value) : ∃ cur', (w.setCell ⟨b, o, none⟩ u).heap[b]? = some (.cells cur' t z) ∧ cur'.size = cur.size := by
  have hlt : b < w.heap.size := (Array.getElem?_eq_some_iff.1 h).1
  have h' : w.heap[b] = .cells cur t z := by
    rw [Array.getElem?_eq_getElem hlt] at h; exact Option.some.inj h
  refine ⟨cur.setIfInBounds o u, ?_, by simp⟩
  simp [World.setCell, Array.getElem?_modify, h]
/-- a row of n things of two cells each, whatever they are -/
def AnyRow (e : TypeId) (B : Nat) (w : World) (v : Value) (n : Nat) : Prop := ∃ xs, w.ownsRow B e 2 v n xs
theorem AnyRow.set {e : TypeId} {B : Nat} {w : World} {g n cap : Nat} (h : AnyRow e B w (.slice (some ⟨g, 0, none⟩) n cap) n) (o : Nat) (u : Value) : AnyRow e B (w.setCell ⟨g, o, none⟩ u) (.slice (some ⟨g, 0, none⟩) n cap) n := by
  obtain ⟨xs, hl, h | ⟨g', cap', cur, hv, h1, h2, h3, h4, h5, h6⟩⟩ := h
  · cases h.1
  · cases hv
    obtain ⟨cur', e1, e2⟩ := set_heap h2 o u
    exact ⟨_, by rw [List.length_take, Array.length_toList, e2, h5]; exact Nat.min_eq_left (Nat.mul_le_mul_right _ h3), .inr ⟨g, cap, cur', rfl, h1, e1, h3, h4, by rw [e2, h5], rfl⟩⟩
theorem any_parts {e : TypeId} {B : Nat} {w : World} {v : Value} {n : Nat} (h : AnyRow e B w v n) (hn : 0 < n) : ∃ g cap cur, v = .slice (some ⟨g, 0, none⟩) n cap ∧ B ≤ g ∧ w.heap[g]? = some (.cells cur e (0, 0)) ∧ cur.size = cap * 2 ∧ n ≤ cap := by
  obtain ⟨xs, hl, h | ⟨g', cap', cur, hv, h1, h2, h3, h4, h5, h6⟩⟩ := h
  · omega
  · exact ⟨g', cap', cur, hv, h1, h2, h5, h3⟩
theorem grown_set {w w' : World} {row : Option Nat} {g : Nat} (h : w.grownBy w' row) (hr : row = some g) (o : Nat) (u : Value) : w.grownBy (w'.setCell ⟨g, o, none⟩ u) row :=
  ⟨h.os, h.tape, h.output, by simpa using h.size, fun k hk hne => (Below.heap_setCell w' ⟨g, o, none⟩ u k (fun e => hne (by subst e; exact hr.symm))).trans (h.block k hk hne)⟩
theorem grown_far {w a b : World} {row r2 : Option Nat} (h : w.grownBy a row) (k : a.grownBy b r2) (hr : r2 = row ∨ ∀ g, r2 = some g → w.heap.size ≤ g) : w.grownBy b row :=
  ⟨k.os.trans h.os, k.tape.trans h.tape, k.output.trans h.output, Nat.le_trans h.size k.size, fun i hi hne => (k.block i (Nat.lt_of_lt_of_le hi h.size) (by
    rcases hr with rfl | hr
    · exact hne
    · intro e
      have := hr i e.symm
      omega)).trans (h.block i hi hne)⟩

end Go.Proofs.Ytbldeiejlebbiaa.T
