/-
  Places behind the last run's.
-/
import Derived.Test.YtbldeiejlebbiaaDoorPlaceRuns
set_option linter.unusedVariables false
namespace Go.Proofs.YtbldeiejlebbiaaDoor.T
open Go Go.Lib Go.RowKit

theorem qcs_length (qs : List (Value × Rn)) : (qcs qs).length = 2 * qs.length := by
  induction qs with
  | nil => rfl
  | cons q qs ih => simp only [qcs, List.flatMap_cons, List.length_append, List.length_cons, List.length_nil] at ih ⊢; omega
theorem qcs_set (qs : List (Value × Rn)) (u v : Value) (r r' : Rn) (ht : r'.t = r.t) : (qcs (qs ++ [(u, r)])).set (2 * qs.length) v = qcs (qs ++ [(v, r')]) := by
  rw [qcs_snoc, qcs_snoc, List.set_append, if_neg (by rw [qcs_length]; omega), qcs_length, Nat.sub_self]
  simp [ht]
theorem RunsAt.slice {e ts : TypeId} {B : Nat} {w : World} {v : Value} {qs : List (Value × Rn)} (h : RunsAt e ts B w v qs) (hne : qs ≠ []) : ∃ g cap, v = .slice (some ⟨g, 0, none⟩) qs.length cap ∧ B ≤ g ∧ g < w.heap.size := by
  rcases h.row with ⟨_, ⟨rfl, h0⟩ | ⟨g, cap, cur, rfl, hg, hg1, _⟩⟩
  · exact absurd (List.eq_nil_of_length_eq_zero h0) hne
  · exact ⟨g, cap, rfl, hg, (Array.getElem?_eq_some_iff.1 hg1).1⟩
theorem join_run {e ts sl : TypeId} (hne : e ≠ ts) (hu : Tryd.prog.underlying sl = some (.slice e)) (hinf : (Tryd.prog.info? e).map (fun i => (i.zero, i.size, i.bytes)) = some (some (.agg #[.string ⟨#[]⟩, .int .i64 0]), 2, 24))
    (B B' : Nat) (W : World) (g cap : Nat) (qs : List (Value × Rn)) (u : Value) (r : Rn) (hR : RunsAt e ts B W (.slice (some ⟨g, 0, none⟩) (qs.length + 1) cap) (qs ++ [(u, r)])) (s : Value) (m : List Pl) (hs : PlSl B' W s m)
    (h63 : r.ps.length + m.length ≤ 5864062014800) (hB : B ≤ W.heap.size) :
    W.cell? ⟨g, 2 * qs.length, none⟩ = some u ∧ ∃ v' w', (Builtin.append_ #[sl, sl] sl #[u, s]).run Tryd.prog W = .ok v' w' ∧ w'.cell? ⟨g, 2 * qs.length, none⟩ = some u ∧ w'.frozen? ⟨g, 2 * qs.length, none⟩ = false ∧
      RunsAt e ts B (w'.setCell ⟨g, 2 * qs.length, none⟩ v') (.slice (some ⟨g, 0, none⟩) (qs.length + 1) cap) (qs ++ [(v', ⟨r.ps ++ m, r.t⟩)]) ∧ Below B W (w'.setCell ⟨g, 2 * qs.length, none⟩ v') := by
  have hrow := hR.row
  rw [List.length_append, List.length_singleton] at hrow
  have hgB := World.ownsRow.lt hrow g rfl
  have hat : ∀ {w1 : World} {xs : List Value}, xs = qcs (qs ++ [(u, r)]) → w1.ownsRow B ts 2 (.slice (some ⟨g, 0, none⟩) (qs.length + 1) cap) (qs.length + 1) xs → w1.cell? ⟨g, 2 * qs.length, none⟩ = some u := by
    intro w1 xs hx h
    rw [h.cellAt (2 * qs.length) (by omega), hx, qcs_snoc, List.getElem?_append_right (by rw [qcs_length]; exact Nat.le_refl _), qcs_length, Nat.sub_self]
    rfl
  have hup : PRow e B W u r.ps := hR.each (u, r) (by simp)
  obtain ⟨b0, hb0, hBb, hb0W, hlt⟩ : ∃ b0, PRow e b0 W u r.ps ∧ B ≤ b0 ∧ b0 ≤ W.heap.size ∧ ∀ q ∈ qs, ∀ k, q.1.ownBlock = some k → k < b0 := by
    have hinc := hR.inc
    unfold Inc at hinc
    rw [List.map_append, List.pairwise_append] at hinc
    obtain ⟨h1, ⟨h2, h0⟩ | ⟨g2, cap2, cur, hv, hg0, hg1, h3⟩⟩ := hup
    · exact ⟨W.heap.size, ⟨h1, .inl ⟨h2, h0⟩⟩, hB, Nat.le_refl _, fun q hq k hk => (World.ownsRow.lt (hR.each q (List.mem_append_left _ hq)) k hk).2⟩
    · refine ⟨g2, ⟨h1, .inr ⟨g2, cap2, cur, hv, Nat.le_refl _, hg1, h3⟩⟩, hg0, Nat.le_of_lt (Array.getElem?_eq_some_iff.1 hg1).1, fun q hq k hk => ?_⟩
      exact hinc.2.2 q.1 (List.mem_map.2 ⟨q, hq, rfl⟩) u (by simp) k g2 hk (by rw [hv]; rfl)
  obtain ⟨v', w', hrun, hrow', hgr⟩ := app_all hu hinf b0 B' W u s r.ps m hb0 hs h63 hb0W
  have hrw' := hrow.kept hgr (apart_ty (fun e => hne e.symm) hrow hup)
  have hub : ∀ k, u.ownBlock = some k → B ≤ k := fun k hk => (World.ownsRow.lt hup k hk).1
  refine ⟨hat rfl hrow, v', w', hrun, hat rfl hrw', hrw'.frozenAt _, ?_, ?_⟩
  · obtain ⟨hst, hgs⟩ := hrw'.stored (2 * qs.length) v'
    rw [qcs_set qs u v' r ⟨r.ps ++ m, r.t⟩ rfl] at hst
    refine ⟨by rw [List.length_append, List.length_singleton]; exact hst, fun q hq => ?_, ?_⟩
    · have hk2 : ∀ (x : Value) (l : List Pl), PRow e B w' x l → PRow e B (w'.setCell ⟨g, 2 * qs.length, none⟩ v') x l := fun x l hx => PRow.kept' hx hgs (apart_ty hne hx hrw')
      rcases List.mem_append.1 hq with hq | hq
      · refine hk2 _ _ (PRow.kept' (hR.each q (List.mem_append_left _ hq)) hgr ?_)
        cases hqb : q.1.ownBlock with
        | none => exact .inl rfl
        | some k =>
          right
          intro eq
          have h1 := hlt q hq k hqb
          have h2 := (World.ownsRow.lt hb0 k eq.symm).1
          omega
      · obtain rfl := List.mem_singleton.1 hq
        exact hk2 _ _ (hrow'.base hBb)
    · have hinc := hR.inc
      unfold Inc at hinc ⊢
      rw [List.map_append, List.pairwise_append] at hinc ⊢
      refine ⟨hinc.1, by simp, fun x hx y hy k j hxk hyj => ?_⟩
      obtain ⟨q, hq, rfl⟩ := List.mem_map.1 hx
      obtain rfl := List.mem_singleton.1 hy
      exact Nat.lt_of_lt_of_le (hlt q hq k hxk) (World.ownsRow.lt hrow' j hyj).1
  · have h1 : Below B W w' := (Below.refl B W).grown hgr hB hub
    have h2 := (hrw'.stored (2 * qs.length) v').2
    exact h1.grown h2 (by have := h1.size; omega) (fun k hk => by cases hk; exact hgB.1)
end Go.Proofs.YtbldeiejlebbiaaDoor.T
