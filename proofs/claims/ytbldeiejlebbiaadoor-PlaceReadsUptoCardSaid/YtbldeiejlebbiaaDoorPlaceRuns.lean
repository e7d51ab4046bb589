/-
  Rows of runs: a row of pairs, a slice of places in a block of its own and a number.
-/
import Derived.Test.YtbldeiejlebbiaaDoorPlaceFoldP
import Derived.Test.YtbldeiejlebbiaaDoorPlaceBase
set_option linter.unusedVariables false
namespace Go.Proofs.YtbldeiejlebbiaaDoor.T
open Go Go.Lib Go.RowKit

theorem infoRunOwn : (Tryd.prog.info? 37).map (fun i => (i.zero, i.size, i.bytes)) = some (some (.agg #[.slice none 0 0, .int .i64 0]), 2, 32) := by kernel_rfl
theorem infoRunRef : (Tryd.prog.info? 47).map (fun i => (i.zero, i.size, i.bytes)) = some (some (.agg #[.slice none 0 0, .int .i64 0]), 2, 32) := by kernel_rfl
def qcs (qs : List (Value × Rn)) : List Value := qs.flatMap fun q => [q.1, .int .i64 (q.2.t : Int)]
theorem qcs_snoc (qs : List (Value × Rn)) (q : Value × Rn) : qcs (qs ++ [q]) = qcs qs ++ [q.1, .int .i64 (q.2.t : Int)] := by simp [qcs]
/-- the blocks of some rows, each behind the one before -/
def Inc (vs : List Value) : Prop := vs.Pairwise fun a b => ∀ k j, a.ownBlock = some k → b.ownBlock = some j → k < j
structure RunsAt (e ts : TypeId) (B : Nat) (w : World) (v : Value) (qs : List (Value × Rn)) : Prop where
  row : w.ownsRow B ts 2 v qs.length (qcs qs)
  each : ∀ q ∈ qs, PRow e B w q.1 q.2.ps
  inc : Inc (qs.map (·.1))
theorem RunsAt.nil (e ts : TypeId) (B : Nat) (w : World) : RunsAt e ts B w (.slice none 0 0) [] := ⟨World.ownsRow_nil _ _ _ _, (fun q h => by cases h), List.Pairwise.nil⟩
theorem RunsAt.below {e ts : TypeId} {B : Nat} {w w' : World} {v : Value} {qs : List (Value × Rn)} (h : RunsAt e ts B w v qs) (hb : Below w.heap.size w w') : RunsAt e ts B w' v qs :=
  ⟨row_none h.row (below_grown hb), fun q hq => (h.each q hq).below hb, h.inc⟩
/-- rows whose elements are of two types lie in two blocks -/
theorem apart_ty {w : World} {B B' : Nat} {e e' : TypeId} {n n' m m' : Nat} {v v' : Value} {xs xs' : List Value} (he : e ≠ e') (h : w.ownsRow B e n v m xs) (h' : w.ownsRow B' e' n' v' m' xs') : v.ownBlock = none ∨ v.ownBlock ≠ v'.ownBlock := by
  obtain ⟨_, ⟨rfl, _⟩ | ⟨g, cap, cur, rfl, _, hg, _⟩⟩ := h
  · exact .inl rfl
  · obtain ⟨_, ⟨rfl, _⟩ | ⟨g', cap', cur', rfl, _, hg', _⟩⟩ := h'
    · right; simp [Value.ownBlock]
    · right
      intro eq
      simp only [Value.ownBlock, Option.some.injEq] at eq
      subst eq
      rw [hg] at hg'
      cases hg'
      exact he rfl
theorem PRow.isSl {e : TypeId} {B : Nat} {w : World} {v : Value} {l : List Pl} (h : PRow e B w v l) : ∃ a c, v = .slice a l.length c := by
  obtain ⟨a, c, e, _⟩ := h.sl
  exact ⟨a, c, e⟩
/-- one run more -/
theorem push_run {e ts sl : TypeId} (hne : e ≠ ts) (hu : Tryd.prog.underlying sl = some (.slice ts)) (hinf : (Tryd.prog.info? ts).map (fun i => (i.zero, i.size, i.bytes)) = some (some (.agg #[.slice none 0 0, .int .i64 0]), 2, 32))
    (B N : Nat) (W : World) (v : Value) (qs : List (Value × Rn)) (hR : RunsAt e ts B W v qs) (u : Value) (r : Rn) (hrow : PRow e B W u r.ps)
    (hN : ∀ q ∈ qs, ∀ k, q.1.ownBlock = some k → k < N) (hNu : ∀ k, u.ownBlock = some k → N ≤ k) (h64 : qs.length ≤ 1000000000) (hB : B ≤ W.heap.size) (W1 : World)
    (hW1 : W1 = W.alloc (.cells #[u, .int .i64 (r.t : Int)] ts) ∨ W1 = (W.alloc (.cells #[u, .int .i64 (r.t : Int)] ts)).drew) :
    ∃ v' w', (Builtin.append_ #[sl, sl] sl #[v, .slice (some ⟨W.heap.size, 0, none⟩) 1 1]).run Tryd.prog W1 = .ok v' w' ∧ RunsAt e ts B w' v' (qs ++ [(u, r)]) ∧ W.grownBy w' v.ownBlock := by
  obtain ⟨i0, hi, hz0, hz1, hz2⟩ := info_parts hinf
  have hsz : W1.heap.size = W.heap.size + 1 := by rcases hW1 with rfl | rfl <;> simp
  have hg1 : W.grownBy W1 none := by
    rcases hW1 with rfl | rfl
    · exact grown_of_alloc' (o := .cells #[u, .int .i64 (r.t : Int)] ts) ⟨rfl, rfl, rfl, Nat.le_refl _, fun _ _ _ => rfl⟩
    · exact grown_of_alloc (o := .cells #[u, .int .i64 (r.t : Int)] ts) ⟨rfl, rfl, rfl, Nat.le_refl _, fun _ _ _ => rfl⟩
  have hrow1 := row_none hR.row hg1
  obtain ⟨a, c, hus⟩ := hrow.isSl
  have hcell : ∀ j x, [u, Value.int .i64 (r.t : Int)][j]? = some x → W1.cell? ((⟨W.heap.size, 0, none⟩ : Addr).add j) = some x := by
    rcases hW1 with rfl | rfl
    · exact cell2_new W u (.int .i64 (r.t : Int)) ts
    · exact cell2_new W u (.int .i64 (r.t : Int)) ts
  obtain ⟨v', w', h1, h2, h3, _⟩ := run_append_own (P := Tryd.prog) W1 B sl sl ts i0 (.agg #[.slice none 0 0, .int .i64 0]) 2 32 hu hi hz0 hz1 hz2 rfl (by decide) v qs.length (qcs qs) hrow1 ⟨W.heap.size, 0, none⟩ 1 1 [u, .int .i64 (r.t : Int)] rfl hcell
    (by intro x hx; rcases List.mem_cons.1 hx with rfl | hx
        · rw [hus]; rfl
        · obtain rfl := List.mem_singleton.1 hx; rfl) (by unfold maxLen; omega) (by omega) (by omega)
  have hgw : W.grownBy w' v.ownBlock := by
    refine ⟨h3.os.trans hg1.os, h3.tape.trans hg1.tape, h3.output.trans hg1.output, Nat.le_trans hg1.size h3.size, fun k hk hne => ?_⟩
    exact (h3.block k (by omega) hne).trans (hg1.block k hk (by simp))
  have hk : ∀ (x : Value) (l : List Pl), PRow e B W x l → PRow e B w' x l := fun x l hx => PRow.kept' hx hgw (apart_ty hne hx hR.row)
  refine ⟨v', w', h1, ⟨?_, fun q hq => ?_, ?_⟩, hgw⟩
  · rw [qcs_snoc, List.length_append]
    exact h2
  · rcases List.mem_append.1 hq with hq | hq
    · exact hk _ _ (hR.each q hq)
    · obtain rfl := List.mem_singleton.1 hq
      exact hk _ _ hrow
  · unfold Inc
    rw [List.map_append, List.pairwise_append]
    refine ⟨hR.inc, by simp, fun x hx y hy k j hxk hyj => ?_⟩
    obtain ⟨q, hq, rfl⟩ := List.mem_map.1 hx
    obtain rfl := List.mem_singleton.1 hy
    exact Nat.lt_of_lt_of_le (hN q hq k hxk) (hNu j hyj)
end Go.Proofs.YtbldeiejlebbiaaDoor.T
