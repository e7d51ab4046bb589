/-
  slices.Reverse of a row of places.
-/
import Derived.Test.YtbldeiejlebbiaaDoorPlaceParseOne
set_option linter.unusedVariables false
namespace Go.Proofs.YtbldeiejlebbiaaDoor.T
open Go Go.Lib Go.RowKit

theorem plCs_get : ∀ (l : List Pl) (j : Nat), (plCs l)[j]? = (l[j / 2]?).map (fun p => if j % 2 = 0 then .string p.n else .int .i64 p.k)
  | l, j => by
    rcases Nat.lt_or_ge j (l.length * 2) with h | h
    · have hx : l[j / 2]? = some l[j / 2] := List.getElem?_eq_getElem (by omega)
      have hp := plCs_at l _ _ hx
      rw [hx]
      rcases Nat.mod_two_eq_zero_or_one j with e | e
      · rw [show (plCs l)[j]? = (plCs l)[2 * (j / 2)]? from by rw [show 2 * (j / 2) = j from by omega], hp.1]; simp [e]
      · rw [show (plCs l)[j]? = (plCs l)[2 * (j / 2) + 1]? from by rw [show 2 * (j / 2) + 1 = j from by omega], hp.2]; simp [e]
    · rw [List.getElem?_eq_none (by rw [plCs_length]; exact h), List.getElem?_eq_none (by omega)]; rfl
/-- one place of a row is written over -/
theorem PRow.put {e : TypeId} {B : Nat} {w : World} {g cap : Nat} {l : List Pl} (h : PRow e B w (.slice (some ⟨g, 0, none⟩) l.length cap) l) (i : Nat) (hi : i < l.length) (p : Pl) :
    PRow e B ((w.setCell ⟨g, i * 2, none⟩ (.string p.n)).setCell ⟨g, i * 2 + 1, none⟩ (.int .i64 p.k)) (.slice (some ⟨g, 0, none⟩) l.length cap) (l.set i p) := by
  obtain ⟨hl, h | ⟨g', cap', cur, hv, h1, h2, h3, h4, h5, h6⟩⟩ := h
  · cases h.1
  · simp only [Value.slice.injEq] at hv
    obtain ⟨e1, _, rfl⟩ := hv
    cases e1
    have hlt : g < w.heap.size := (Array.getElem?_eq_some_iff.1 h2).1
    have hg' : w.heap[g] = .cells cur e (0, 0) := by
      rw [Array.getElem?_eq_getElem hlt] at h2; exact Option.some.inj h2
    refine ⟨by rw [plCs_length], .inr ⟨g, cap, (cur.setIfInBounds (i * 2) (.string p.n)).setIfInBounds (i * 2 + 1) (.int .i64 p.k), by rw [List.length_set], h1, ?_, by rw [List.length_set]; exact h3, h4, by simpa using h5, ?_⟩⟩
    · simp [World.setCell, Array.getElem?_modify, h2]
    · apply List.ext_getElem?
      intro j
      rw [plCs_get, List.getElem?_take, List.length_set]
      split
      · rename_i hj
        have h6' : (plCs l)[j]? = cur[j]? := by
          rw [← h6, List.getElem?_take, if_pos hj]; simp
        rw [plCs_get] at h6'
        rw [List.getElem?_set, Array.getElem?_toList, Array.getElem?_setIfInBounds, Array.getElem?_setIfInBounds]
        by_cases e1 : i * 2 + 1 = j
        · rw [if_pos e1, if_pos (by simp; omega), if_pos (by omega), if_pos hi]
          simp [show ¬ j % 2 = 0 from by omega]
        · rw [if_neg e1]
          by_cases e2 : i * 2 = j
          · rw [if_pos e2, if_pos (by omega), if_pos (by omega), if_pos hi]
            simp [show j % 2 = 0 from by omega]
          · rw [if_neg e2, if_neg (by omega), ← h6']
      · rename_i hj
        rw [List.getElem?_eq_none (by rw [List.length_set]; omega)]
        rfl
theorem PRow.parts {e : TypeId} {B : Nat} {w : World} {v : Value} {l : List Pl} (h : PRow e B w v l) (hn : 0 < l.length) :
    ∃ g cap, v = .slice (some ⟨g, 0, none⟩) l.length cap ∧ B ≤ g ∧ (∀ o, w.frozen? ⟨g, o, none⟩ = false) ∧ PlAt w g 0 l := by
  have hsl := PRow.sl h
  rcases h.2 with ⟨_, h0⟩ | ⟨g, cap, cur, rfl, h1, h2, h3, _⟩
  · omega
  · refine ⟨g, cap, rfl, h1, fun o => frozen_heap h2, ?_⟩
    obtain ⟨a, c, e, _, _, h3⟩ := hsl
    obtain ⟨bk, o, e2, _, h5⟩ := h3 (by intro e; subst e; simp at hn)
    simp only [Value.slice.injEq] at e
    obtain ⟨rfl, _, rfl⟩ := e
    cases e2
    exact h5
/-- what stands where, when the outer k on either side have been changed about -/
def RevTo (l m : List Pl) (k : Nat) : Prop := m.length = l.length ∧ ∀ j, j < l.length → m[j]? = if j < k ∨ l.length ≤ j + k then l[l.length - 1 - j]? else l[j]?
theorem RevTo.step {l m : List Pl} {k : Nat} (h : RevTo l m k) (hk : 2 * k + 1 < l.length) {a b : Pl} (ha : m[k]? = some a) (hb : m[l.length - 1 - k]? = some b) :
    RevTo l ((m.set k b).set (l.length - 1 - k) a) (k + 1) := by
  refine ⟨by rw [List.length_set, List.length_set]; exact h.1, fun j hj => ?_⟩
  have hA := h.2 k (by omega)
  have hB := h.2 (l.length - 1 - k) (by omega)
  rw [if_neg (by omega), ha] at hA
  rw [if_neg (by omega), hb] at hB
  rw [List.getElem?_set, List.getElem?_set, List.length_set]
  by_cases e1 : l.length - 1 - k = j
  · rw [if_pos e1, if_pos (by rw [h.1]; omega), if_pos (by omega), hA]
    congr 1; omega
  · rw [if_neg e1]
    by_cases e2 : k = j
    · rw [if_pos e2, if_pos (by rw [h.1]; omega), if_pos (by omega), hB]
      congr 1; omega
    · rw [if_neg e2, h.2 j hj]
      by_cases e3 : j < k ∨ l.length ≤ j + k
      · rw [if_pos e3, if_pos (by omega)]
      · rw [if_neg e3, if_neg (by omega)]
theorem RevTo.done {l m : List Pl} {k : Nat} (h : RevTo l m k) (hk : l.length ≤ 2 * k + 1) : m = l.reverse := by
  apply List.ext_getElem?
  intro j
  rcases Nat.lt_or_ge j l.length with hj | hj
  · rw [h.2 j hj, List.getElem?_reverse hj]
    split
    · rfl
    · congr 1; omega
  · rw [List.getElem?_eq_none (by rw [h.1]; exact hj), List.getElem?_eq_none (by simpa using hj)]
theorem RevTo.nil (l : List Pl) : RevTo l l 0 := ⟨rfl, fun j hj => by rw [if_neg (by omega)]⟩
theorem cell_far (w : World) (g i j : Nat) (u : Value) (h : i ≠ j) : (w.setCell ⟨g, i, none⟩ u).cell? ⟨g, j, none⟩ = w.cell? ⟨g, j, none⟩ := cell_other w g u i j h
set_option maxRecDepth 100000 in
set_option maxHeartbeats 8000000 in
theorem Reverse_in (l : List Pl) (hl : l.length ≤ 5864062014700) (B : Nat) (v : Value) (w : World) (h : PRow 39 B w v l) :
    Calls Tryd.prog 68 #[v] w fun e w' => e = .returned (.tuple #[]) ∧ PRow 39 B w' v l.reverse ∧ w.grownBy w' v.ownBlock := by
  obtain ⟨a, c, rfl⟩ : ∃ a c, v = .slice a l.length c := by
    rcases h.2 with ⟨rfl, h0⟩ | ⟨g', cap', cur, hv, h1⟩
    · rw [h0]; exact ⟨none, 0, rfl⟩
    · exact ⟨_, _, hv⟩
  generalize hOB : (Value.slice a l.length c).ownBlock = ob at *
  go_enter Tryd.func68, Tryd.ntmps68
  go_wp2
  go_loopw [2, 3] (fun i j wr => ∃ (k : Nat) (m : List Pl), i = .int .i64 k ∧ j = .int .i64 ((l.length : Int) - 1 - k) ∧ 2 * k ≤ l.length + 1 ∧ RevTo l m k ∧ PRow 39 B wr (.slice a l.length c) m ∧ w.grownBy wr ob)
    (fun i _ _ => l.length + 1 - 2 * (RowKit.intOf i).toNat)
  case atStart => exact ⟨0, l, rfl, by simp, by omega, RevTo.nil l, h, ⟨rfl, rfl, rfl, Nat.le_refl _, fun _ _ _ => rfl⟩⟩
  case round =>
    obtain ⟨k, m, rfl, rfl, hk, hm, hrow, hg⟩ := hrel
    by_cases hlt : 2 * k + 1 < l.length
    · have hml := hm.1
      obtain ⟨g, cap, hv, hBg, hfz, hat⟩ := hrow.parts (by omega)
      rw [hml] at hv
      cases hv
      obtain ⟨j, hj⟩ : ∃ j, j = l.length - 1 - k := ⟨_, rfl⟩
      have hjI : ((l.length : Int) - 1 - k) = (j : Int) := by omega
      have ha : m[k]? = some m[k] := List.getElem?_eq_getElem (by omega)
      have hb : m[j]? = some m[j] := List.getElem?_eq_getElem (by omega)
      have hstep := hm.step hlt ha (by rw [← hj]; exact hb)
      have c0 := (hat k _ ha).1
      have c1 := (hat k _ ha).2
      have d0 := (hat j _ hb).1
      have d1 := (hat j _ hb).2
      have hrow2 : PRow 39 B wr (.slice (some ⟨g, 0, none⟩) m.length c) m := by rw [hml]; exact hrow
      have hput := (hrow2.put k (by omega) m[j])
      have hput' : PRow 39 B ((wr.setCell ⟨g, k * 2, none⟩ (.string m[j].n)).setCell ⟨g, k * 2 + 1, none⟩ (.int .i64 m[j].k)) (.slice (some ⟨g, 0, none⟩) (m.set k m[j]).length c) (m.set k m[j]) := by rw [List.length_set]; exact hput
      have hput2 := hput'.put j (by rw [List.length_set]; omega) m[k]
      generalize m[k] = x at *
      generalize m[j] = y at *
      rw [List.length_set, hml] at hput2
      simp only [Nat.zero_add] at c0 c1 d0 d1
      have f0 := hfz (k * 2)
      have f1 := hfz (k * 2 + 1)
      have f2 := hfz (j * 2)
      have f3 := hfz (j * 2 + 1)
      have e0 : ((wr.setCell ⟨g, k * 2, none⟩ (.string y.n)).setCell ⟨g, k * 2 + 1, none⟩ (.int .i64 y.k)).cell? ⟨g, j * 2, none⟩ = some (.string y.n) := by
        rw [cell_other _ _ _ _ _ (by omega), cell_other _ _ _ _ _ (by omega)]; exact d0
      have e1 : (((wr.setCell ⟨g, k * 2, none⟩ (.string y.n)).setCell ⟨g, k * 2 + 1, none⟩ (.int .i64 y.k)).setCell ⟨g, j * 2, none⟩ (.string x.n)).cell? ⟨g, j * 2 + 1, none⟩ = some (.int .i64 y.k) := by
        rw [cell_other _ _ _ _ _ (by omega), cell_other _ _ _ _ _ (by omega), cell_other _ _ _ _ _ (by omega)]; exact d1
      have e2 : (wr.setCell ⟨g, k * 2, none⟩ (.string y.n)).cell? ⟨g, k * 2 + 1, none⟩ = some (.int .i64 x.k) := by
        rw [cell_other _ _ _ _ _ (by omega)]; exact c1
      have hg1 := grown_set (grown_set (grown_set (grown_set hg hOB.symm (k * 2) (.string y.n)) hOB.symm (k * 2 + 1) (.int .i64 y.k)) hOB.symm (j * 2) (.string x.n)) hOB.symm (j * 2 + 1) (.int .i64 x.k)
      rw [← hj] at hstep
      clear hput hput' hrow2 ha hb hat hfz hrow
      have HS := Lib.hid hstep
      clear hstep
      rw [hjI]
      have hlj : l.length = j + k + 1 := by omega
      have hkn : k < l.length := by omega
      have hjn : j < l.length := by omega
      have HLJ := Lib.hid hlj
      have hkj : k < j := by omega
      clear hlj hj hjI
      generalize l.length = n at *
      have hN : decide ((k : Int) < (j : Int)) = true := by simp; omega
      go_wp2
      go_region
      all_goals
        go_wp2
        go_roundw
        case rel => exact ⟨k + 1, _, by go_num, by have := HLJ.out; first | go_num | (congr 1; omega), by have := HLJ.out; omega, HS.out, hput2, ⟨hg1.os, hg1.tape, hg1.output, hg1.size, hg1.block⟩⟩
        case measure => simp [RowKit.intOf]; omega
    · have : m = l.reverse := hm.done (by omega)
      subst this
      have hN : decide ((k : Int) < (l.length : Int) - 1 - (k : Int)) = false := by simp; omega
      go_wp2
      go_end0
      exact ⟨rfl, hrow, hg⟩
end Go.Proofs.YtbldeiejlebbiaaDoor.T
