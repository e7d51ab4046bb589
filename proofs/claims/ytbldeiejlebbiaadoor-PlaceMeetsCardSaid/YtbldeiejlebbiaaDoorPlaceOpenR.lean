/-
  An argument [][]Spot, opened.
-/
import Derived.Test.YtbldeiejlebbiaaDoorPlaceOpenB
import Derived.Test.YtbldeiejlebbiaaDoorPlaceMeetsI
set_option linter.unusedVariables false
namespace Go.Proofs.YtbldeiejlebbiaaDoor.T
open Go.ChangeShapes Go.WideShapes Go.ChangeAt Go.RowKit Go.Lib Go.Deep

theorem bytesSl : Tryd.prog.bytesOf 22 = 24 := by kernel_rfl
set_option maxRecDepth 100000 in
theorem open_rows {H : Type} {enc : TypeId × Value → H} {W : World} {r : Reach} {b0 : Nat} {v : Value} {d : DataW H} {ps : List MemPlace}
    (hval : Value.okWide Tryd.prog W r b0 78 v) (hd : DataW.Trod enc Tryd.prog W 0 (fun _ => true) true 78 v d ps) :
    ∃ qs : List (Value × List T.Pl), T.RowsSl W.heap.size W v qs ∧ ∀ M : Nat, (∀ n ∈ d.weights Tryd.prog 78, n ≤ M) → qs.length * 24 ≤ M ∧ ∀ q ∈ qs, q.2.length * 24 ≤ M ∧ ∀ p ∈ q.2, p.n.size ≤ M := by
  have ht : Tryd.prog.underlying 78 = some (.slice 22) := by kernel_rfl
  obtain ⟨a0, n0, c0, rfl⟩ := okWide_slice ht hval
  obtain ⟨fuel, hf⟩ := hd
  have e0 : (Value.slice a0 n0 c0).cells.toList = [.slice a0 n0 c0] := rfl
  rw [e0] at hf
  rcases open_slice1 ht (by kernel_rfl) hf with ⟨h1, h2⟩ | ⟨a, len, cap, m, n, V, D, P, h1, _, hlc, hcm, hm, hx, hcells⟩
  · simp only [List.cons.injEq, Value.slice.injEq, and_true] at h1
    obtain ⟨rfl, rfl, rfl⟩ := h1
    exact ⟨[], ⟨⟨none, 0, rfl, (fun h => absurd rfl h)⟩, (fun z hz => by cases hz)⟩, fun M _ => ⟨by simp, fun z hz => by cases hz⟩⟩
  · simp only [List.cons.injEq, Value.slice.injEq, and_true] at h1
    obtain ⟨rfl, rfl, rfl⟩ := h1
    have hd : d = .slice ((List.range n0).map D) ((List.range (m - n0)).map fun j => D (n0 + j)) := congrArg Prod.fst hx
    have hmn : n0 ≤ m := by rw [hm]; split <;> omega
    have hs : ∀ i, i < n0 → ∃ z : Value × List T.Pl, W.cell? (a.add i) = some z.1 ∧ T.PlSl W.heap.size W z.1 z.2 ∧ ∀ M : Nat, (∀ n ∈ (D i).weights Tryd.prog 22, n ≤ M) → z.2.length * 24 ≤ M ∧ ∀ p ∈ z.2, p.n.size ≤ M := fun i hi => by
      obtain ⟨k0, t0⟩ := hcells i (by omega)
      obtain ⟨l, hl, _, _, hM⟩ := open_spots_at t0
      exact ⟨⟨V i, l⟩, k0, hl, hM⟩
    obtain ⟨g, hg⟩ : ∃ g : Nat → Value × List T.Pl, ∀ i, i < n0 → W.cell? (a.add i) = some (g i).1 ∧ T.PlSl W.heap.size W (g i).1 (g i).2 ∧ ∀ M : Nat, (∀ n ∈ (D i).weights Tryd.prog 22, n ≤ M) → (g i).2.length * 24 ≤ M ∧ ∀ p ∈ (g i).2, p.n.size ≤ M :=
      ⟨fun i => if h : i < n0 then Classical.choose (hs i h) else ⟨.nilIface, []⟩, fun i hi => by simp only [dif_pos hi]; exact Classical.choose_spec (hs i hi)⟩
    refine ⟨(List.range n0).map g, ⟨⟨some a, c0, by simp, fun hne => ?_⟩, fun z hz => ?_⟩, fun M hM => ?_⟩
    · have hn : 0 < n0 := by
        rcases Nat.eq_zero_or_pos n0 with h | h
        · subst h; simp at hne
        · exact h
      have hc := (hg 0 hn).1
      obtain ⟨b, o, rfl⟩ := spot_none hc
      refine ⟨b, o, rfl, World.block_lt_of_cell? _ _ hc, fun j z hj => ?_⟩
      have hjn : j < n0 := by
        rcases Nat.lt_or_ge j n0 with h | h
        · exact h
        · rw [List.getElem?_eq_none (by simpa using h)] at hj; cases hj
      have hgp : g j = z := by simpa [hjn] using hj
      have q1 := (hg j hjn).1
      rw [hgp] at q1
      have a1 : ((⟨b, o, none⟩ : Addr).add j) = ⟨b, o + j, none⟩ := by unfold Addr.add; split <;> simp_all
      rw [a1] at q1
      exact q1
    · obtain ⟨i, hi, rfl⟩ := List.mem_map.1 hz
      exact (hg i (List.mem_range.1 hi)).2.1
    · rw [hd] at hM
      simp only [DataW.weights, ht, bytesSl, List.length_map, List.length_range] at hM
      have h1 := hM _ (List.mem_cons_self ..)
      refine ⟨by simp only [List.length_map, List.length_range]; omega, fun z hz => ?_⟩
      obtain ⟨i, hi, rfl⟩ := List.mem_map.1 hz
      have hin := List.mem_range.1 hi
      refine (hg i hin).2.2 M (fun n hn => ?_)
      exact hM _ (List.mem_cons_of_mem _ (List.mem_append_left _ (weights_all hn (List.mem_map.2 ⟨i, hi, rfl⟩))))
end Go.Proofs.YtbldeiejlebbiaaDoor.T
