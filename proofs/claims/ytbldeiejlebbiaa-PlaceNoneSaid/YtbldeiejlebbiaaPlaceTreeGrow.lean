/-
  Push on a tree that is full, or that takes a new node.
-/
import Derived.Test.YtbldeiejlebbiaaPlaceTreePush
import Derived.Test.YtbldeiejlebbiaaPlaceCopies
set_option linter.unusedVariables false
namespace Go.Proofs.Ytbldeiejlebbiaa.T
open Go Go.Lib Go.RowKit

set_option maxRecDepth 100000 in
set_option maxHeartbeats 4000000 in
theorem Push_full {B : Nat} {T : Nat} {v : Value} {m : Nat} {ns : List Nd} (j : Nat) (q : Nd) (x : Pl) (hx : x.n.size ≤ 140737488351232) (w : World) (h : TreeAt B w T v m ns) (hq : (zeroNd :: ns)[j]? = some q) (hm : mayB x = true) (hd : q.d ≠ 64)
    (hi : (j, x) ∉ ns.map stepOf) (ho : StOk (j, x)) (hful : ns.length = 4095) :
    Calls Try.prog 4 #[.pointer (some ⟨T, 0, none⟩), .int .i64 (j : Int), .agg #[.string x.n, .int .i64 x.k]] w fun e w' => e = .returned (.tuple #[.int .i64 0, .int .i64 3]) ∧ Below w.heap.size w w' := by
  have hlt := h.lt
  have hj : j < ns.length + 1 := by have := (List.getElem?_eq_some_iff.1 hq).1; simpa using this
  go_enter Try.func4, Try.ntmps4
  have hB1 : Below w.heap.size w (w.alloc (.cells #[.string x.n, .int .i64 x.k] 24)) := (Below.refl _ w).alloc (Nat.le_refl _) _
  have k0 : (w.alloc (.cells #[.string x.n, .int .i64 x.k] 24)).cell? ⟨w.heap.size, 0, none⟩ = some (.string x.n) := by simp
  have k1 : (w.alloc (.cells #[.string x.n, .int .i64 x.k] 24)).cell? ⟨w.heap.size, 1, none⟩ = some (.int .i64 x.k) := by simp
  have hz1 : (w.alloc (.cells #[.string x.n, .int .i64 x.k] 24)).heap.size = w.heap.size + 1 := by simp
  have cH := has_in (j : Int) _ (h.below hB1)
  rw [hasB_true hj] at cH
  have cM := mayBe_in x (by omega) (w.alloc (.cells #[.string x.n, .int .i64 x.k] 24))
  rw [hm] at cM
  obtain ⟨g, cap, rfl, _, _, hat⟩ := h.nodes
  obtain ⟨e1, e2, e3, e4⟩ := hat j q hq
  have c0 := h.c0
  have c1 := h.c1
  have hn := h.few
  have hg : g < w.heap.size := by assumption
  have hdd : ((q.d : Int) == 64) = false := by simp; omega
  clear hat hq
  generalize hl : ns.length = n at *
  subst hful
  go_wp2_with (first | (go_at_call 15; refine cH.mono ?_; rintro e w' ⟨rfl, rfl⟩) | (go_at_call 16; refine cM.mono ?_; rintro e w' ⟨rfl, hb2⟩; have hB2 := hB1.trans (hb2.mono hB1.size); have c0' := (hB2.cell (p := ⟨T, 0, none⟩) hlt).trans c0; have c1' := (hB2.cell (p := ⟨T, 1, none⟩) hlt).trans c1; have e4' := (hB2.cell (p := ⟨g, j * 4 + 3, none⟩) hg).trans e4; have hFd := (h.below hB2.drew).map.none hi ho; unfold stV at hFd; have k0' := (hb2.cell (p := ⟨w.heap.size, 0, none⟩) (by rw [hz1]; exact Nat.lt_succ_self _)).trans k0; have k1' := (hb2.cell (p := ⟨w.heap.size, 1, none⟩) (by rw [hz1]; exact Nat.lt_succ_self _)).trans k1))
  go_region
  have c0d : w'.drew.cell? ⟨T, 0, none⟩ = _ := c0'
  go_wp2
  go_ret2
  exact ⟨rfl, (hB1.trans (hb2.mono hB1.size)).drew⟩
end Go.Proofs.Ytbldeiejlebbiaa.T
