/-
  erratalaw03.lent, same, kept.
-/
import Derived.Test.YtbldeiejlebbiaaPlaceSpoil
import Derived.Laws.StructEq
set_option linter.unusedVariables false
namespace Go.Proofs.Ytbldeiejlebbiaa.T
open Go Go.Lib Go.RowKit

/-- the place that marks the end -/
def mark : Pl := ⟨⟨#[35]⟩, 7⟩
/-- places that were lent: they lie in a block of their own at least B, the mark behind them -/
def Lent (B : Nat) (w : World) (v : Value) (l : List Pl) : Prop :=
  ∃ g cap, v = .slice (some ⟨g, 0, none⟩) l.length cap ∧ w.ownsRow B 24 2 (.slice (some ⟨g, 0, none⟩) (l.length + 1) cap) (l.length + 1) (plCs (l ++ [mark]))
theorem Lent.grown {B : Nat} {w w' : World} {v : Value} {l : List Pl} {row : Option Nat} (h : Lent B w v l) (hg : w.grownBy w' row) (hne : v.ownBlock ≠ row) : Lent B w' v l := by
  obtain ⟨g, cap, rfl, hr⟩ := h
  exact ⟨g, cap, rfl, World.ownsRow.kept hr hg (.inr hne)⟩
theorem Lent.below {B : Nat} {w w' : World} {v : Value} {l : List Pl} (h : Lent B w v l) (hb : Below w.heap.size w w') : Lent B w' v l := by
  obtain ⟨g, cap, rfl, hr⟩ := h
  exact ⟨g, cap, rfl, row_none hr (below_grown hb)⟩
theorem Lent.sl {B : Nat} {w : World} {v : Value} {l : List Pl} (h : Lent B w v l) : PlSl w.heap.size w v l := by
  obtain ⟨g, cap, rfl, hr⟩ := h
  have hr' : PRow 24 B w (.slice (some ⟨g, 0, none⟩) (l.length + 1) cap) (l ++ [mark]) := by
    unfold PRow
    rw [List.length_append]
    exact hr
  obtain ⟨a, c, e, h1, h2, h3⟩ := PRow.sl hr'
  obtain ⟨bk, o, e2, h4, h5⟩ := h3 (by simp)
  simp only [Value.slice.injEq] at e
  obtain ⟨rfl, _, rfl⟩ := e
  cases e2
  have := h5.take l.length
  rw [List.take_left] at this
  simp at h1
  exact ⟨_, _, rfl, by omega, h2, fun _ => ⟨g, 0, rfl, h4, this⟩⟩
theorem Lent.any {B : Nat} {w : World} {v : Value} {l : List Pl} (h : Lent B w v l) : AnyRow 24 B w v l.length := by
  obtain ⟨g, cap, rfl, hl, h | ⟨g', cap', cur, hv, h1, h2, h3, h4, h5, h6⟩⟩ := h
  · cases h.1
  · cases hv
    exact ⟨_, by rw [List.length_take, show cur.toList.length = cap * 2 from by rw [Array.length_toList]; exact h5]; exact Nat.min_eq_left (Nat.mul_le_mul_right _ (by omega)), .inr ⟨g, cap, cur, rfl, h1, h2, by omega, h4, h5, rfl⟩⟩

theorem own_slice {w : World} {B : Nat} {e : TypeId} {size : Nat} {v : Value} {n : Nat} {xs : List Value} (h : w.ownsRow B e size v (n + 1) xs) : ∃ g cap, v = .slice (some ⟨g, 0, none⟩) (n + 1) cap ∧ n + 1 ≤ cap := by
  rcases h.2 with ⟨_, h0⟩ | ⟨g, cap, cur, hv, _, _, h3, _⟩
  · omega
  · exact ⟨g, cap, hv, h3⟩
theorem slice_front (bk o n c k : Nat) (hk : k ≤ c) (hc : 0 < c) (W : World) : (Instr.slice 29 (.slice (some ⟨bk, o, none⟩) n c) none (some (.int .i64 (k : Int))) none).run Try.prog W = .ok (.slice (some ⟨bk, o, none⟩) k c) W := by
  rw [run_slice_h (P := Try.prog) W 29 (some ⟨bk, o, none⟩) n c (by kernel_rfl) .i64 (k : Int) (by omega) (by omega)]
  have hz : (sizeOf (Try.prog.elem 29)).run Try.prog W = .ok 2 W := by kernel_rfl
  rw [hz]
  simp only [Result.andThen, sliced, Int.toNat_natCast]
  rw [if_neg (by omega)]
  simp [Addr.add]

theorem slice_more (bk o n c : Nat) (hk : n + 1 ≤ c) (W : World) : (Instr.slice 29 (.slice (some ⟨bk, o, none⟩) n c) none (some (.int .i64 ((n : Int) + 1))) none).run Try.prog W = .ok (.slice (some ⟨bk, o, none⟩) (n + 1) c) W := by
  have h := slice_front bk o n c (n + 1) hk (by omega) W
  simpa using h
theorem Lent.last {B : Nat} {w : World} {g n cap : Nat} {l : List Pl} (h : Lent B w (.slice (some ⟨g, 0, none⟩) n cap) l) : n = l.length ∧ n + 1 ≤ cap ∧ g < w.heap.size ∧ w.cell? ⟨g, n * 2, none⟩ = some (.string ⟨#[35]⟩) ∧ w.cell? ⟨g, n * 2 + 1, none⟩ = some (.int .i64 7) := by
  obtain ⟨g', cap', e, hr⟩ := h
  simp only [Value.slice.injEq] at e
  obtain ⟨e1, rfl, rfl⟩ := e
  cases e1
  have hr' : PRow 24 B w (.slice (some ⟨g, 0, none⟩) (l.length + 1) cap) (l ++ [mark]) := by
    unfold PRow
    rw [List.length_append]
    exact hr
  obtain ⟨g2, c2, e2, h2⟩ := own_slice hr
  cases e2
  obtain ⟨a, c, e, h1, _, h3⟩ := PRow.sl hr'
  obtain ⟨bk, o, e2, h4, h5⟩ := h3 (by simp)
  simp only [Value.slice.injEq] at e
  obtain ⟨rfl, _, rfl⟩ := e
  cases e2
  have := h5 l.length mark (by simp)
  simp only [Nat.zero_add] at this
  exact ⟨rfl, h2, h4, this.1, this.2⟩
end Go.Proofs.Ytbldeiejlebbiaa.T
