/-
  An argument []Step, opened.
-/
import Derived.Test.YtbldeiejlebbiaaDoorPlaceOpenB
import Derived.Test.YtbldeiejlebbiaaDoorPlaceTreesWalk
set_option linter.unusedVariables false
namespace Go.Proofs.YtbldeiejlebbiaaDoor.T
open Go.ChangeShapes Go.WideShapes Go.ChangeAt Go.RowKit Go.Lib Go.Deep

theorem lawStepFields : Tryd.prog.underlying 63 = some (.struct #[{ name := "Kind", type := 3, offset := 0, embedded := false, tag := "", pkgPath := "", byteOffset := 0 }, { name := "A", type := 3, offset := 1, embedded := false, tag := "", pkgPath := "", byteOffset := 8 }, { name := "B", type := 3, offset := 2, embedded := false, tag := "", pkgPath := "", byteOffset := 16 }, { name := "Raw", type := 4, offset := 3, embedded := false, tag := "", pkgPath := "", byteOffset := 24 }, { name := "Spot", type := 61, offset := 4, embedded := false, tag := "", pkgPath := "", byteOffset := 32 }, { name := "List", type := 22, offset := 6, embedded := false, tag := "", pkgPath := "", byteOffset := 56 }]) := by kernel_rfl
theorem bytesStep : Tryd.prog.bytesOf 63 = 80 := by kernel_rfl
theorem cellsStep : Tryd.prog.cellsOf 63 = 7 := by kernel_rfl
theorem cellsInt : Tryd.prog.cellsOf 3 = 1 := by kernel_rfl
theorem cellsBool : Tryd.prog.cellsOf 4 = 1 := by kernel_rfl
theorem cellsStr : Tryd.prog.cellsOf 9 = 1 := by kernel_rfl
theorem cellsSpot : Tryd.prog.cellsOf 61 = 2 := by kernel_rfl
theorem cellsSpots : Tryd.prog.cellsOf 22 = 1 := by kernel_rfl
set_option maxRecDepth 100000 in
theorem open_step {H : Type} {enc : TypeId × Value → H} {W : World} {fuel : Nat} {cs : List Value} {d : DataW H} {ps : List MemPlace}
    (h : DataW.trod enc Tryd.prog W 0 (fun _ => true) true fuel 63 cs = some (d, ps)) :
    ∃ s : St, cs = stCs s ∧ i64B s.a ∧ i64B s.b ∧ PlSl W.heap.size W s.lv s.l ∧ ∀ M : Nat, (∀ n ∈ d.weights Tryd.prog 63, n ≤ M) → s.x.n.size ≤ M ∧ s.l.length * 24 ≤ M ∧ ∀ p ∈ s.l, p.n.size ≤ M := by
  obtain ⟨xs, n, _, hx, hl, hlen, hf⟩ := DataW.trod_struct lawStepFields h
  rw [cellsStep] at hl
  match xs, hlen, cs, hl with
  | [y0, y1, y2, y3, y4, y5], _, [v0, v1, v2, v3, v4, v5, v6], _ =>
    have g0 := hf 0 _ rfl
    have g1 := hf 1 _ rfl
    have g2 := hf 2 _ rfl
    have g3 := hf 3 _ rfl
    have g4 := hf 4 _ rfl
    have g5 := hf 5 _ rfl
    simp [cellsInt, cellsBool, cellsSpot, cellsSpots] at g0 g1 g2 g3 g4 g5
    have hint : Tryd.prog.underlying 3 = some (.int .i64) := by kernel_rfl
    obtain ⟨z0, e0, _, w0⟩ := DataW.trod_int hint g0
    obtain ⟨z1, e1, _, w1⟩ := DataW.trod_int hint g1
    obtain ⟨z2, e2, _, w2⟩ := DataW.trod_int hint g2
    obtain ⟨b3, e3, _⟩ := DataW.trod_bool (show Tryd.prog.underlying 4 = some .bool by kernel_rfl) g3
    obtain ⟨ys, n4, _, hy, _, hyl, hfy⟩ := DataW.trod_struct spotFields g4
    match ys, hyl with
    | [q0, q1], _ =>
      have k0 := hfy 0 _ rfl
      have k1 := hfy 1 _ rfl
      simp [cellsInt, cellsStr] at k0 k1
      obtain ⟨s4, e4, d4, _⟩ := DataW.trod_string (show Tryd.prog.underlying 9 = some .string by kernel_rfl) k0
      obtain ⟨z5, e5, _, _⟩ := DataW.trod_int hint k1
      obtain ⟨l, hl6, _, _, hM⟩ := open_spots_at (ps := y5.2) (d := y5.1) g5
      simp only [List.cons.injEq, and_true] at e0 e1 e2 e3 e4 e5
      subst e0 e1 e2 e3 e4 e5
      refine ⟨⟨z0, z1, z2, b3, ⟨s4, z5⟩, v6, l⟩, rfl, bounds_i64 w1, bounds_i64 w2, hl6, fun M hW => ?_⟩
      have hd : d = .agg [y0.1, y1.1, y2.1, y3.1, y4.1, y5.1] := congrArg Prod.fst hx
      have hy4 : y4.1 = .agg [q0.1, q1.1] := by rw [hy]; rfl
      have hq0 : q0.1 = .lit (.string s4.data.toList) := by rw [d4]
      rw [hd] at hW
      have h5 := hM M (fun n hn => hW n (by
        simp only [DataW.weights, lawStepFields, DataW.weightsEach, List.map_cons, List.mem_append]
        right; right; right; right; right; left
        exact hn))
      refine ⟨?_, h5.1, h5.2⟩
      refine hW _ ?_
      simp only [DataW.weights, lawStepFields, DataW.weightsEach, List.map_cons, List.mem_append]
      right; right; right; right; left
      rw [hy4, hq0]
      simp only [DataW.weights, spotFields, DataW.weightsEach, List.map_cons, List.mem_append]
      left
      exact List.mem_cons_self ..
theorem step_none {w : World} {a : Addr} {v : Value} (h : w.cell? ((a.add (0 * 7)).add 0) = some v) : ∃ b o, a = ⟨b, o, none⟩ := by
  rw [add_add] at h
  exact spot_none h
set_option maxRecDepth 100000 in
theorem open_steps {H : Type} {enc : TypeId × Value → H} {W : World} {r : Reach} {b0 : Nat} {v : Value} {d : DataW H} {ps : List MemPlace}
    (hval : Value.okWide Tryd.prog W r b0 54 v) (hd : DataW.Trod enc Tryd.prog W 0 (fun _ => true) true 54 v d ps) :
    ∃ ls : List St, StepsSl W.heap.size W v ls ∧ (∀ s ∈ ls, i64B s.a ∧ i64B s.b) ∧ ∀ M : Nat, (∀ n ∈ d.weights Tryd.prog 54, n ≤ M) → ls.length * 80 ≤ M ∧ ∀ s ∈ ls, s.x.n.size ≤ M ∧ s.l.length * 24 ≤ M ∧ ∀ p ∈ s.l, p.n.size ≤ M := by
  have ht : Tryd.prog.underlying 54 = some (.slice 63) := by kernel_rfl
  obtain ⟨a0, n0, c0, rfl⟩ := okWide_slice ht hval
  obtain ⟨fuel, hf⟩ := hd
  have e0 : (Value.slice a0 n0 c0).cells.toList = [.slice a0 n0 c0] := rfl
  rw [e0] at hf
  rcases open_slice ht hf with ⟨h1, h2⟩ | ⟨a, len, cap, m, n, D, P, h1, _, hlc, hcm, hm, hx, hcells⟩
  · simp only [List.cons.injEq, Value.slice.injEq, and_true] at h1
    obtain ⟨rfl, rfl, rfl⟩ := h1
    exact ⟨[], ⟨⟨none, 0, rfl, (fun h => absurd rfl h)⟩, (fun z hz => by cases hz)⟩, (fun z hz => by cases hz), fun M _ => ⟨by simp, fun z hz => by cases hz⟩⟩
  · simp only [List.cons.injEq, Value.slice.injEq, and_true] at h1
    obtain ⟨rfl, rfl, rfl⟩ := h1
    rw [cellsStep] at hcells
    have hd : d = .slice ((List.range n0).map D) ((List.range (m - n0)).map fun j => D (n0 + j)) := congrArg Prod.fst hx
    have hmn : n0 ≤ m := by rw [hm]; split <;> omega
    have hs : ∀ i, i < n0 → ∃ s : St, (∀ (k : Nat), k < 7 → W.cell? ((a.add (i * 7)).add k) = (stCs s)[k]?) ∧ i64B s.a ∧ i64B s.b ∧ PlSl W.heap.size W s.lv s.l ∧ ∀ M : Nat, (∀ n ∈ (D i).weights Tryd.prog 63, n ≤ M) → s.x.n.size ≤ M ∧ s.l.length * 24 ≤ M ∧ ∀ p ∈ s.l, p.n.size ≤ M := fun i hi => by
      obtain ⟨cs, k0, t0⟩ := hcells i (by omega)
      obtain ⟨_, hlen, hc⟩ := World.cells?_some k0
      obtain ⟨s, rfl, ha, hb, hl, hM⟩ := open_step t0
      exact ⟨s, hc, ha, hb, hl, hM⟩
    obtain ⟨g, hg⟩ : ∃ g : Nat → St, ∀ i, i < n0 → (∀ (k : Nat), k < 7 → W.cell? ((a.add (i * 7)).add k) = (stCs (g i))[k]?) ∧ i64B (g i).a ∧ i64B (g i).b ∧ PlSl W.heap.size W (g i).lv (g i).l ∧ ∀ M : Nat, (∀ n ∈ (D i).weights Tryd.prog 63, n ≤ M) → (g i).x.n.size ≤ M ∧ (g i).l.length * 24 ≤ M ∧ ∀ p ∈ (g i).l, p.n.size ≤ M :=
      ⟨fun i => if h : i < n0 then Classical.choose (hs i h) else ⟨0, 0, 0, false, ⟨⟨#[]⟩, 0⟩, .nilIface, []⟩, fun i hi => by simp only [dif_pos hi]; exact Classical.choose_spec (hs i hi)⟩
    refine ⟨(List.range n0).map g, ⟨⟨some a, c0, by simp, fun hne => ?_⟩, fun z hz => ?_⟩, fun z hz => ?_, fun M hM => ?_⟩
    · have hn : 0 < n0 := by
        rcases Nat.eq_zero_or_pos n0 with h | h
        · subst h; simp at hne
        · exact h
      obtain ⟨b, o, rfl⟩ := step_none ((hg 0 hn).1 0 (by omega))
      have hbk : b < W.heap.size := by
        have h0 := (hg 0 hn).1 0 (by omega)
        have := World.block_lt_of_cell? _ _ h0
        rw [add_add] at this
        exact this
      refine ⟨b, o, rfl, hbk, fun j z hj i c hi => ?_⟩
      have hjn : j < n0 := by
        rcases Nat.lt_or_ge j n0 with h | h
        · exact h
        · rw [List.getElem?_eq_none (by simpa using h)] at hj; cases hj
      have hgp : g j = z := by simpa [hjn] using hj
      have hi7 : i < 7 := (List.getElem?_eq_some_iff.1 hi).1
      have q1 := (hg j hjn).1 i hi7
      rw [hgp, hi, add_add] at q1
      have a1 : ((⟨b, o, none⟩ : Addr).add (j * 7 + i)) = ⟨b, o + j * 7 + i, none⟩ := by unfold Addr.add; split <;> simp_all <;> omega
      rw [a1] at q1
      exact q1
    · obtain ⟨i, hi, rfl⟩ := List.mem_map.1 hz
      exact (hg i (List.mem_range.1 hi)).2.2.2.1
    · obtain ⟨i, hi, rfl⟩ := List.mem_map.1 hz
      exact ⟨(hg i (List.mem_range.1 hi)).2.1, (hg i (List.mem_range.1 hi)).2.2.1⟩
    · rw [hd] at hM
      simp only [DataW.weights, ht, bytesStep, List.length_map, List.length_range] at hM
      have h1 := hM _ (List.mem_cons_self ..)
      refine ⟨by simp only [List.length_map, List.length_range]; omega, fun z hz => ?_⟩
      obtain ⟨i, hi, rfl⟩ := List.mem_map.1 hz
      have hin := List.mem_range.1 hi
      refine (hg i hin).2.2.2.2 M (fun n hn => ?_)
      exact hM _ (List.mem_cons_of_mem _ (List.mem_append_left _ (weights_all hn (List.mem_map.2 ⟨i, hi, rfl⟩))))
end Go.Proofs.YtbldeiejlebbiaaDoor.T
