/-
  Push on a tree where nothing is added: a refusal, or a step that is known.
-/
import Derived.Test.YtbldeiejlebbiaaPlaceTreeAsk
set_option linter.unusedVariables false
namespace Go.Proofs.Ytbldeiejlebbiaa.T
open Go Go.Lib Go.RowKit

theorem grown_of_below {w w' : World} (hb : Below w.heap.size w w') : w.grownBy w' none := ⟨hb.os, hb.tape, hb.output, hb.size, fun j hj _ => hb.block j hj⟩
theorem TreeAt.below {B : Nat} {w w' : World} {T : Nat} {v : Value} {m : Nat} {ns : List Nd} (h : TreeAt B w T v m ns) (hb : Below w.heap.size w w') : TreeAt B w' T v m ns where
  blk := by rw [hb.block T h.lt]; exact h.blk
  row := h.row.kept (grown_of_below hb) (by cases hv : v.ownBlock <;> simp)
  map := h.map.grown (grown_of_below hb) (by simp)
  lo := h.lo
  ok := h.ok
  few := h.few


set_option maxRecDepth 100000 in
set_option maxHeartbeats 4000000 in
theorem Push_arg {B : Nat} {T : Nat} {v : Value} {m : Nat} {ns : List Nd} (k : Int) (x : Pl) (w : World) (h : TreeAt B w T v m ns) (hb : hasB ns.length k = false) :
    Calls Try.prog 4 #[.pointer (some ⟨T, 0, none⟩), .int .i64 k, .agg #[.string x.n, .int .i64 x.k]] w fun e w' => e = .returned (.tuple #[.int .i64 0, .int .i64 1]) ∧ Below w.heap.size w w' := by
  have hlt := h.lt
  go_enter Try.func4, Try.ntmps4
  have hB1 : Below w.heap.size w (w.alloc (.cells #[.string x.n, .int .i64 x.k] 24)) := (Below.refl _ w).alloc (Nat.le_refl _) _
  have cH := has_in k _ (h.below hB1)
  rw [hb] at cH
  go_wp2_with (go_at_call 15; refine cH.mono ?_; rintro e w' ⟨rfl, rfl⟩)
  go_ret2
  exact ⟨rfl, hB1⟩
set_option maxRecDepth 100000 in
set_option maxHeartbeats 4000000 in
theorem Push_place {B : Nat} {T : Nat} {v : Value} {m : Nat} {ns : List Nd} (k : Int) (x : Pl) (hx : x.n.size ≤ 140737488351232) (w : World) (h : TreeAt B w T v m ns) (hb : hasB ns.length k = true) (hm : mayB x = false) :
    Calls Try.prog 4 #[.pointer (some ⟨T, 0, none⟩), .int .i64 k, .agg #[.string x.n, .int .i64 x.k]] w fun e w' => e = .returned (.tuple #[.int .i64 0, .int .i64 30]) ∧ Below w.heap.size w w' := by
  have hlt := h.lt
  go_enter Try.func4, Try.ntmps4
  have hB1 : Below w.heap.size w (w.alloc (.cells #[.string x.n, .int .i64 x.k] 24)) := (Below.refl _ w).alloc (Nat.le_refl _) _
  have cH := has_in k _ (h.below hB1)
  rw [hb] at cH
  have cM := mayBe_in x (by omega) (w.alloc (.cells #[.string x.n, .int .i64 x.k] 24))
  rw [hm] at cM
  go_wp2_with (first | (go_at_call 15; refine cH.mono ?_; rintro e w' ⟨rfl, rfl⟩) | (go_at_call 16; refine cM.mono ?_; rintro e w' ⟨rfl, hb2⟩))
  go_ret2
  exact ⟨rfl, hB1.trans (hb2.mono hB1.size)⟩
set_option maxRecDepth 100000 in
set_option maxHeartbeats 4000000 in
theorem Push_deep {B : Nat} {T : Nat} {v : Value} {m : Nat} {ns : List Nd} (j : Nat) (q : Nd) (x : Pl) (hx : x.n.size ≤ 140737488351232) (w : World) (h : TreeAt B w T v m ns) (hq : (zeroNd :: ns)[j]? = some q) (hm : mayB x = true) (hd : q.d = 64) :
    Calls Try.prog 4 #[.pointer (some ⟨T, 0, none⟩), .int .i64 (j : Int), .agg #[.string x.n, .int .i64 x.k]] w fun e w' => e = .returned (.tuple #[.int .i64 0, .int .i64 31]) ∧ Below w.heap.size w w' := by
  have hlt := h.lt
  have hj : j < ns.length + 1 := by have := (List.getElem?_eq_some_iff.1 hq).1; simpa using this
  go_enter Try.func4, Try.ntmps4
  have hB1 : Below w.heap.size w (w.alloc (.cells #[.string x.n, .int .i64 x.k] 24)) := (Below.refl _ w).alloc (Nat.le_refl _) _
  have cH := has_in (j : Int) _ (h.below hB1)
  rw [hasB_true hj] at cH
  have cM := mayBe_in x (by omega) (w.alloc (.cells #[.string x.n, .int .i64 x.k] 24))
  rw [hm] at cM
  obtain ⟨g, cap, rfl, _, _, hat⟩ := h.nodes
  obtain ⟨e1, e2, e3, e4⟩ := hat j q hq
  have c0 := h.c0
  have hn := h.few
  have hg : g < w.heap.size := by assumption
  rw [hd] at e4
  clear hat hq
  generalize hl : ns.length = n at *
  go_wp2_with (first | (go_at_call 15; refine cH.mono ?_; rintro e w' ⟨rfl, rfl⟩) | (go_at_call 16; refine cM.mono ?_; rintro e w' ⟨rfl, hb2⟩; have c0' := ((hB1.trans (hb2.mono hB1.size)).cell (p := ⟨T, 0, none⟩) hlt).trans c0; have e4' := ((hB1.trans (hb2.mono hB1.size)).cell (p := ⟨g, j * 4 + 3, none⟩) hg).trans e4))
  go_ret2
  exact ⟨rfl, hB1.trans (hb2.mono hB1.size)⟩
set_option maxRecDepth 100000 in
set_option maxHeartbeats 4000000 in
theorem Push_known {B : Nat} {T : Nat} {v : Value} {m : Nat} {ns : List Nd} (j i : Nat) (q : Nd) (x : Pl) (hx : x.n.size ≤ 140737488351232) (w : World) (h : TreeAt B w T v m ns) (hq : (zeroNd :: ns)[j]? = some q) (hm : mayB x = true) (hd : q.d ≠ 64)
    (hi : (ns.map stepOf)[i]? = some (j, x)) (ho : StOk (j, x)) :
    Calls Try.prog 4 #[.pointer (some ⟨T, 0, none⟩), .int .i64 (j : Int), .agg #[.string x.n, .int .i64 x.k]] w fun e w' => e = .returned (.tuple #[.int .i64 ((i : Int) + 1), .int .i64 0]) ∧ Below w.heap.size w w' := by
  have hlt := h.lt
  have hj : j < ns.length + 1 := by have := (List.getElem?_eq_some_iff.1 hq).1; simpa using this
  go_enter Try.func4, Try.ntmps4
  have hB1 : Below w.heap.size w (w.alloc (.cells #[.string x.n, .int .i64 x.k] 24)) := (Below.refl _ w).alloc (Nat.le_refl _) _
  have k0 : (w.alloc (.cells #[.string x.n, .int .i64 x.k] 24)).cell? ⟨w.heap.size, 0, none⟩ = some (.string x.n) := by simp
  have k1 : (w.alloc (.cells #[.string x.n, .int .i64 x.k] 24)).cell? ⟨w.heap.size, 1, none⟩ = some (.int .i64 x.k) := by simp
  have hz1 : (w.alloc (.cells #[.string x.n, .int .i64 x.k] 24)).heap.size = w.heap.size + 1 := by simp
  have cH := has_in (j : Int) _ (h.below hB1)
  rw [hasB_true hj] at cH
  have cM := mayBe_in x (by omega) (w.alloc (.cells #[.string x.n, .int .i64 x.k] 24))
  rw [hm] at cM
  obtain ⟨g, cap, rfl, _, _, hat⟩ := h.nodes
  obtain ⟨e1, e2, e3, e4⟩ := hat j q hq
  have c0 := h.c0
  have c1 := h.c1
  have hn := h.few
  have hg : g < w.heap.size := by assumption
  have hdd : ((q.d : Int) == 64) = false := by simp; omega
  clear hat hq
  generalize hl : ns.length = n at *
  go_wp2_with (first | (go_at_call 15; refine cH.mono ?_; rintro e w' ⟨rfl, rfl⟩) | (go_at_call 16; refine cM.mono ?_; rintro e w' ⟨rfl, hb2⟩; have hB2 := hB1.trans (hb2.mono hB1.size); have c0' := (hB2.cell (p := ⟨T, 0, none⟩) hlt).trans c0; have c1' := (hB2.cell (p := ⟨T, 1, none⟩) hlt).trans c1; have e4' := (hB2.cell (p := ⟨g, j * 4 + 3, none⟩) hg).trans e4; have hFd := (h.below hB2.drew).map.found hi ho; unfold stV at hFd; have k0' := (hb2.cell (p := ⟨w.heap.size, 0, none⟩) (by rw [hz1]; exact Nat.lt_succ_self _)).trans k0; have k1' := (hb2.cell (p := ⟨w.heap.size, 1, none⟩) (by rw [hz1]; exact Nat.lt_succ_self _)).trans k1))
  go_region
  go_wp2
  go_ret2
  exact ⟨rfl, (hB1.trans (hb2.mono hB1.size)).drew⟩
end Go.Proofs.Ytbldeiejlebbiaa.T
