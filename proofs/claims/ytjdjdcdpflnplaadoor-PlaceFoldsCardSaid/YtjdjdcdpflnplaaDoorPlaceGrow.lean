/-
  A run's places grown in their spare room: the runs read as before.
-/
import Derived.Test.YtjdjdcdpflnplaaDoorPlaceKeep
set_option linter.unusedVariables false
namespace Go.Proofs.YtjdjdcdpflnplaaDoor.T
open Go Go.Lib Go.RowKit

/-- g is u with j places behind it; u, and all else that was there, reads as before -/
structure Gro (lo : Nat) (W1 : World) (u : Value) (ps : List Pl) (j : Nat) (g : Value) (w : World) : Prop where
  row : ∃ ms, ms.length = j ∧ PRow 39 lo w g (ps ++ ms)
  base : PRow 39 lo w u ps
  oth : W1.grownBy w u.ownBlock
  spot : (∃ b n c, u = .slice (some ⟨b, 0, none⟩) n c ∧ g = .slice (some ⟨b, 0, none⟩) (n + j) c) ∨ ∀ k, g.ownBlock = some k → W1.heap.size ≤ k
theorem Gro.start {lo : Nat} {W1 : World} {u : Value} {ps : List Pl} (h : PRow 39 lo W1 u ps) : Gro lo W1 u ps 0 u W1 := by
  refine ⟨⟨[], rfl, by rw [List.append_nil]; exact h⟩, h, ⟨rfl, rfl, rfl, Nat.le_refl _, fun _ _ _ => rfl⟩, ?_⟩
  rcases h.2 with ⟨rfl, _⟩ | ⟨g, cap, cur, hv, _⟩
  · right; intro k hk; cases hk
  · left; exact ⟨g, ps.length, cap, hv, hv⟩
theorem grown_none_trans {a b c : World} {row : Option Nat} (h : a.grownBy b row) (k : b.grownBy c none) : a.grownBy c row :=
  ⟨k.os.trans h.os, k.tape.trans h.tape, k.output.trans h.output, Nat.le_trans h.size k.size, fun i hi hne => (k.block i (Nat.lt_of_lt_of_le hi h.size) (by simp)).trans (h.block i hi hne)⟩
theorem Gro.step {lo : Nat} {W1 : World} {u : Value} {ps : List Pl} {j : Nat} {g : Value} {w : World} (h : Gro lo W1 u ps j g w) (hlo : lo ≤ w.heap.size) (hub : ∀ k, u.ownBlock = some k → k < W1.heap.size) (x : Pl) (hlen : ps.length + j + 1 ≤ 1000000) :
    ∃ g' w', (Builtin.append_ #[23, 23] 23 #[g, .slice (some ⟨w.heap.size, 0, none⟩) 1 1]).run Tryd.prog (w.alloc (.cells #[.string x.n, .int .i64 x.k] 39)) = .ok g' w' ∧ Gro lo W1 u ps (j + 1) g' w' ∧ w.heap.size ≤ w'.heap.size := by
  obtain ⟨ms, hms, hrow⟩ := h.row
  obtain ⟨g', w', hrun, hrow', hgr, hcase⟩ := app_keep (sl := 23) (by kernel_rfl) infoOwn lo w g (ps ++ ms) hrow x (by rw [List.length_append]; omega) hlo
  refine ⟨g', w', hrun, ?_, hgr.size⟩
  have hrow2 : PRow 39 lo w' g' (ps ++ (ms ++ [x])) := by rw [← List.append_assoc]; exact hrow'
  have hR : ∃ ms', ms'.length = j + 1 ∧ PRow 39 lo w' g' (ps ++ ms') := ⟨ms ++ [x], by rw [List.length_append, hms, List.length_singleton], hrow2⟩
  rcases hcase with ⟨b, n, c, rfl, rfl⟩ | ⟨hnone, hnew⟩
  · rcases h.spot with ⟨b', n', c', rfl, hg⟩ | hnw
    · simp only [Value.slice.injEq] at hg
      obtain ⟨e1, rfl, rfl⟩ := hg
      cases e1
      have hbl := h.base.1
      have hn' : n' = ps.length := by
        rcases h.base.2 with ⟨h0, _⟩ | ⟨_, _, _, hv, _⟩
        · cases h0
        · simp only [Value.slice.injEq] at hv; exact hv.2.1
      refine ⟨hR, ?_, ?_, .inl ⟨b, n', c, rfl, by rw [Nat.add_assoc]⟩⟩
      · subst hn'
        have h2 : w'.ownsRow lo 39 2 (.slice (some ⟨b, 0, none⟩) (ps.length + j + 1) c) (ps.length + j + 1) (plCs ps ++ plCs (ms ++ [x])) := by
          have h3 : w'.ownsRow lo 39 2 _ _ _ := hrow2
          rw [plCs_app] at h3
          have e : (ps ++ (ms ++ [x])).length = ps.length + j + 1 := by simp [hms]; omega
          rw [e] at h3
          exact h3
        exact row_front h2 (by omega) (plCs_length ps)
      · exact grown_far h.oth hgr (.inl rfl)
    · have hbN : W1.heap.size ≤ b := hnw b rfl
      refine ⟨hR, ?_, grown_far h.oth hgr (.inr fun k hk => by cases hk; exact hbN), .inr fun k hk => by cases hk; exact hbN⟩
      refine PRow.kept' h.base hgr ?_
      cases hu : u.ownBlock with
      | none => exact .inl rfl
      | some k =>
        right
        intro e
        have := hub k hu
        simp only [Value.ownBlock, Option.some.injEq] at e
        omega
  · exact ⟨hR, PRow.kept' h.base hnone (by cases u.ownBlock with | none => exact .inl rfl | some k => exact .inr (by simp)), grown_none_trans h.oth hnone, .inr fun k hk => Nat.le_trans h.oth.size (hnew k hk)⟩
theorem Inc.ne {vs : List Value} (h : Inc vs) {i j : Nat} {a b : Value} (hij : i ≠ j) (ha : vs[i]? = some a) (hb : vs[j]? = some b) : a.ownBlock = none ∨ a.ownBlock ≠ b.ownBlock := by
  cases hx : a.ownBlock with
  | none => exact .inl rfl
  | some k =>
    right
    intro e
    unfold Inc at h
    rw [List.pairwise_iff_getElem] at h
    obtain ⟨hi, ea⟩ := List.getElem?_eq_some_iff.1 ha
    obtain ⟨hj, eb⟩ := List.getElem?_eq_some_iff.1 hb
    rcases Nat.lt_or_ge i j with hl | hl
    · have := h i j hi hj hl k k (by rw [ea]; exact hx) (by rw [eb]; exact e.symm)
      omega
    · have := h j i hj hi (by omega) k k (by rw [eb]; exact e.symm) (by rw [ea]; exact hx)
      omega
/-- runs of which one's places were grown -/
theorem RunsAt.regrow {ts : TypeId} {lo : Nat} {W w : World} {v : Value} {qs : List (Value × Rn)} (hne : 39 ≠ ts) (hR : RunsAt 39 ts lo W v qs) {i : Nat} {q : Value × Rn} (hq : qs[i]? = some q) (hg : W.grownBy w q.1.ownBlock) (hu : PRow 39 lo w q.1 q.2.ps) : RunsAt 39 ts lo w v qs := by
  have hqr := hR.each q (List.mem_of_getElem? hq)
  refine ⟨hR.row.kept hg (apart_ty (fun e => hne e.symm) hR.row hqr), fun p hp => ?_, hR.inc⟩
  obtain ⟨j, hj⟩ := List.mem_iff_getElem?.1 hp
  by_cases hij : i = j
  · subst hij
    rw [hq] at hj
    cases hj
    exact hu
  · refine PRow.kept' (hR.each p hp) hg ?_
    exact hR.inc.ne (fun e => hij e.symm) (by rw [List.getElem?_map, hj]; rfl) (by rw [List.getElem?_map, hq]; rfl)
end Go.Proofs.YtjdjdcdpflnplaaDoor.T
