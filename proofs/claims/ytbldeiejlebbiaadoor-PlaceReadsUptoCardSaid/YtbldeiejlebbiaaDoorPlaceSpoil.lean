/-
  erratalaw03.spoil: a row of places is written over, and grown.
-/
import Derived.Test.YtbldeiejlebbiaaDoorPlaceOwn
set_option linter.unusedVariables false
namespace Go.Proofs.YtbldeiejlebbiaaDoor.T
open Go Go.Lib Go.RowKit

theorem cell_heap {w : World} {b o : Nat} {cur : Array Value} {t : TypeId} {z : Nat × Nat} {u : Value} (h : w.heap[b]? = some (.cells cur t z)) (hu : cur[o]? = some u) : w.cell? ⟨b, o, none⟩ = some u := by
  simp [World.cell?, h, hu]
theorem frozen_heap {w : World} {b o : Nat} {cur : Array Value} {t : TypeId} (h : w.heap[b]? = some (.cells cur t (0, 0))) : w.frozen? ⟨b, o, none⟩ = false := by
  simp [World.frozen?, h]
theorem set_heap {w : World} {b : Nat} {cur : Array Value} {t : TypeId} {z : Nat × Nat} (h : w.heap[b]? = some (.cells cur t z)) (o : Nat) (u : Value) : ∃ cur', (w.setCell ⟨b, o, none⟩ u).heap[b]? = some (.cells cur' t z) ∧ cur'.size = cur.size := by
  have hlt : b < w.heap.size := (Array.getElem?_eq_some_iff.1 h).1
  have h' : w.heap[b] = .cells cur t z := by
    rw [Array.getElem?_eq_getElem hlt] at h; exact Option.some.inj h
  refine ⟨cur.setIfInBounds o u, ?_, by simp⟩
  simp [World.setCell, Array.getElem?_modify, h]
/-- a row of n things of two cells each, whatever they are -/
def AnyRow (e : TypeId) (B : Nat) (w : World) (v : Value) (n : Nat) : Prop := ∃ xs, w.ownsRow B e 2 v n xs
theorem AnyRow.set {e : TypeId} {B : Nat} {w : World} {g n cap : Nat} (h : AnyRow e B w (.slice (some ⟨g, 0, none⟩) n cap) n) (o : Nat) (u : Value) : AnyRow e B (w.setCell ⟨g, o, none⟩ u) (.slice (some ⟨g, 0, none⟩) n cap) n := by
  obtain ⟨xs, hl, h | ⟨g', cap', cur, hv, h1, h2, h3, h4, h5, h6⟩⟩ := h
  · cases h.1
  · cases hv
    obtain ⟨cur', e1, e2⟩ := set_heap h2 o u
    exact ⟨_, by rw [List.length_take, Array.length_toList, e2, h5]; exact Nat.min_eq_left (Nat.mul_le_mul_right _ h3), .inr ⟨g, cap, cur', rfl, h1, e1, h3, h4, by rw [e2, h5], rfl⟩⟩
theorem any_parts {e : TypeId} {B : Nat} {w : World} {v : Value} {n : Nat} (h : AnyRow e B w v n) (hn : 0 < n) : ∃ g cap cur, v = .slice (some ⟨g, 0, none⟩) n cap ∧ B ≤ g ∧ w.heap[g]? = some (.cells cur e (0, 0)) ∧ cur.size = cap * 2 ∧ n ≤ cap := by
  obtain ⟨xs, hl, h | ⟨g', cap', cur, hv, h1, h2, h3, h4, h5, h6⟩⟩ := h
  · omega
  · exact ⟨g', cap', cur, hv, h1, h2, h5, h3⟩
theorem grown_set {w w' : World} {row : Option Nat} {g : Nat} (h : w.grownBy w' row) (hr : row = some g) (o : Nat) (u : Value) : w.grownBy (w'.setCell ⟨g, o, none⟩ u) row :=
  ⟨h.os, h.tape, h.output, by simpa using h.size, fun k hk hne => (Below.heap_setCell w' ⟨g, o, none⟩ u k (fun e => hne (by subst e; exact hr.symm))).trans (h.block k hk hne)⟩
theorem grown_far {w a b : World} {row r2 : Option Nat} (h : w.grownBy a row) (k : a.grownBy b r2) (hr : r2 = row ∨ ∀ g, r2 = some g → w.heap.size ≤ g) : w.grownBy b row :=
  ⟨k.os.trans h.os, k.tape.trans h.tape, k.output.trans h.output, Nat.le_trans h.size k.size, fun i hi hne => (k.block i (Nat.lt_of_lt_of_le hi h.size) (by
    rcases hr with rfl | hr
    · exact hne
    · intro e
      have := hr i e.symm
      omega)).trans (h.block i hi hne)⟩

set_option maxRecDepth 100000 in
set_option maxHeartbeats 4000000 in
theorem spoil_in (B n : Nat) (hn : n ≤ 5864062014700) (v : Value) (w : World) (h : AnyRow 39 B w v n) (hB : B ≤ w.heap.size) :
    Calls Tryd.prog 15 #[v] w fun e w' => e = .returned (.tuple #[]) ∧ w.grownBy w' v.ownBlock := by
  obtain ⟨a, c, rfl⟩ : ∃ a c, v = .slice a n c := by
    obtain ⟨xs, hl, ⟨rfl, rfl⟩ | ⟨g', cap', cur, hv, h1⟩⟩ := h
    · exact ⟨none, 0, rfl⟩
    · exact ⟨_, _, hv⟩
  obtain ⟨i0, hi, hz0, hz1, hz2⟩ := info_parts infoOwn
  generalize hOB : (Value.slice a n c).ownBlock = ob at *
  go_enter Tryd.func15, Tryd.ntmps15
  go_wp2
  go_loopw [2] (fun i wr => ∃ (k : Nat), k ≤ n ∧ i = .int .i64 k ∧ AnyRow 39 B wr (.slice a n c) n ∧ w.grownBy wr ob)
    (fun i _ => n - (intOf i).toNat)
  case atStart => exact ⟨0, Nat.zero_le _, rfl, h, ⟨rfl, rfl, rfl, Nat.le_refl _, fun _ _ _ => rfl⟩⟩
  case round =>
    obtain ⟨k, hk, rfl, hrow, hg⟩ := hrel
    have hszr := hg.size
    by_cases hlt : k < n
    · obtain ⟨g, cap, cur, hv, hBg, hh, hcs, hnc⟩ := any_parts hrow (by omega)
      cases hv
      have f0 := frozen_heap (o := k * 2) hh
      have f1 := frozen_heap (o := k * 2 + 1) hh
      obtain ⟨x0, hx0⟩ : ∃ x0, cur[k * 2]? = some x0 := ⟨_, Array.getElem?_eq_getElem (by omega)⟩
      obtain ⟨x1, hx1⟩ : ∃ x1, cur[k * 2 + 1]? = some x1 := ⟨_, Array.getElem?_eq_getElem (by omega)⟩
      have c0 := cell_heap hh hx0
      have c1 := cell_heap hh hx1
      have hr1 := (hrow.set (k * 2) (.string ⟨#[126]⟩)).set (k * 2 + 1) (.int .i64 0)
      have hg1 := grown_set (grown_set hg hOB.symm (k * 2) (.string ⟨#[126]⟩)) hOB.symm (k * 2 + 1) (.int .i64 0)
      have hN : decide ((k : Int) < (n : Int)) = true := by simp; omega
      go_wp2
      go_roundw
      case rel => exact ⟨k + 1, hlt, by go_num, hr1, hg1⟩
      case measure => simp [intOf]; omega
    · have : k = n := by omega
      subst this
      obtain ⟨wo, rfl⟩ : ∃ wo : World, wo = wr := ⟨_, rfl⟩
      go_wp2
      go_loopw [0, 3] (fun s i wr => ∃ (j : Nat), j ≤ 40 ∧ i = .int .i64 j ∧ AnyRow 39 B wr s (k + j) ∧ w.grownBy wr ob ∧ (s.ownBlock = ob ∨ ∀ g, s.ownBlock = some g → w.heap.size ≤ g))
        (fun _ i _ => 40 - (intOf i).toNat)
      case atStart => exact ⟨0, Nat.zero_le _, rfl, hrow, hg, .inl hOB⟩
      case round =>
        obtain ⟨j, hj, rfl, hrow2, hg2, hob⟩ := hrel
        have hsz2 := hg2.size
        by_cases hj4 : j < 40
        · have hN : decide ((j : Int) < 40) = true := by simp; omega
          obtain ⟨xs, hrow2⟩ := hrow2
          go_wp2_with (at_builtin; refine wpList_append_own_at _ rfl _ _ 23 rfl B 39 i0 (.agg #[.string ⟨#[]⟩, .int .i64 0]) 2 24 Tryd.underlying23 hi hz0 hz1 hz2 rfl (by decide) _ (k + j) _ rfl (hrow2.alloc _) ⟨wr.heap.size, 0, none⟩ 1 1 [.string ⟨#[94]⟩, .int .i64 0] rfl rfl (cell2_new _ _ _ _) (by simp [Value.oneCell']) (by unfold maxLen; omega) (by omega) (by simp; omega) ?_; intro v' w' hown' hgrow _ hat)
          have hg3 := grown_far hg2 (grown_of_alloc' hgrow) hob
          go_roundw
          case rel =>
            refine ⟨j + 1, hj4, by go_num, ⟨_, hown'⟩, hg3, ?_⟩
            rw [World.size_alloc] at hat
            rcases hat with hat | hat
            · rw [hat]; exact hob
            · right; intro g e; rw [hat] at e; cases e; omega
          case measure => simp [intOf]; omega
        · have : j = 40 := by omega
          subst this
          go_wp2
          go_end0
          exact ⟨rfl, hg2⟩
end Go.Proofs.YtbldeiejlebbiaaDoor.T
