/-
  An argument []Bunch, opened: slices of places within structs.
-/
import Derived.Test.YtbldeiejlebbiaaDoorPlaceOpen
import Derived.Test.YtbldeiejlebbiaaDoorPlaceMany
set_option linter.unusedVariables false
namespace Go.Proofs.YtbldeiejlebbiaaDoor.T
open Go.ChangeShapes Go.WideShapes Go.ChangeAt Go.RowKit Go.Lib Go.Deep

set_option maxRecDepth 100000 in
theorem open_spots_at {H : Type} {enc : TypeId × Value → H} {W : World} {fuel : Nat} {v : Value} {d : DataW H} {ps : List MemPlace}
    (hf : DataW.trod enc Tryd.prog W 0 (fun _ => true) true fuel 22 [v] = some (d, ps)) :
    ∃ l : List T.Pl, T.PlSl W.heap.size W v l ∧ l.length ≤ Rows.uptoBulk d ∧ (∀ p ∈ l, p.n.size ≤ Rows.uptoBulk d) ∧ ∀ M : Nat, (∀ n ∈ d.weights Tryd.prog 22, n ≤ M) → l.length * 24 ≤ M ∧ ∀ p ∈ l, p.n.size ≤ M := by
  have ht : Tryd.prog.underlying 22 = some (.slice 61) := by kernel_rfl
  have hval : ∃ a n c, v = .slice a n c := by
    rcases open_slice_pairs ht spotFields (by kernel_rfl) rfl rfl (by kernel_rfl) (by kernel_rfl) hf with ⟨h1, _⟩ | ⟨a, len, cap, _, _, _, _, _, _, _, _, h1, _⟩
    · exact ⟨_, _, _, (List.cons.inj h1).1⟩
    · exact ⟨_, _, _, (List.cons.inj h1).1⟩
  obtain ⟨a0, n0, c0, rfl⟩ := hval
  rcases open_slice_pairs ht spotFields (by kernel_rfl) rfl rfl (by kernel_rfl) (by kernel_rfl) hf with ⟨h1, h2⟩ | ⟨a, len, cap, m, n, V0, V1, D0, D1, P0, P1, h1, _, hlc, hcm, hm, hx, hcells⟩
  · simp only [List.cons.injEq, Value.slice.injEq, and_true] at h1
    obtain ⟨rfl, rfl, rfl⟩ := h1
    exact ⟨[], ⟨none, 0, rfl, by simp, by omega, fun h => absurd rfl h⟩, by simp, (fun p hp => by cases hp), fun M _ => ⟨by simp, fun p hp => by cases hp⟩⟩
  · simp only [List.cons.injEq, Value.slice.injEq, and_true] at h1
    obtain ⟨rfl, rfl, rfl⟩ := h1
    have hd : d = .slice ((List.range n0).map fun i => .agg [D0 i, D1 i]) ((List.range (m - n0)).map fun j => .agg [D0 (n0 + j), D1 (n0 + j)]) := congrArg Prod.fst hx
    have hmn : n0 ≤ m := by rw [hm]; split <;> omega
    have hs : ∀ i, i < n0 → ∃ p : T.Pl, W.cell? (a.add (i * 2)) = some (.string p.n) ∧ W.cell? (a.add (i * 2 + 1)) = some (.int .i64 p.k) ∧ D0 i = .lit (.string p.n.data.toList) := fun i hi => by
      obtain ⟨k0, k1, t0, t1⟩ := hcells i (by omega)
      obtain ⟨s, e1, e2, _⟩ := DataW.trod_string (show Tryd.prog.underlying 9 = some .string by kernel_rfl) t0
      obtain ⟨z, f1, f2, _⟩ := DataW.trod_int (show Tryd.prog.underlying 3 = some (.int .i64) by kernel_rfl) t1
      simp only [List.cons.injEq, and_true] at e1 f1
      exact ⟨⟨s, z⟩, by rw [k0, e1], by rw [k1, f1], congrArg Prod.fst e2⟩
    obtain ⟨g, hg⟩ : ∃ g : Nat → T.Pl, ∀ i, i < n0 → W.cell? (a.add (i * 2)) = some (.string (g i).n) ∧ W.cell? (a.add (i * 2 + 1)) = some (.int .i64 (g i).k) ∧ D0 i = .lit (.string (g i).n.data.toList) :=
      ⟨fun i => if h : i < n0 then Classical.choose (hs i h) else ⟨⟨#[]⟩, 0⟩, fun i hi => by simp only [dif_pos hi]; exact Classical.choose_spec (hs i hi)⟩
    have hbk := bulk_all ((List.range n0).map fun i => (.agg [D0 i, D1 i] : DataW H))
    have hdb : Rows.uptoBulkAll ((List.range n0).map fun i => (.agg [D0 i, D1 i] : DataW H)) ≤ Rows.uptoBulk d := by
      rw [hd]; simp [Rows.uptoBulk]; omega
    rw [List.length_map, List.length_range] at hbk
    refine ⟨(List.range n0).map g, ⟨some a, c0, by simp, by simpa using hlc, by unfold maxLen at hcm; omega, fun hne => ?_⟩, by simp; omega, fun p hp => ?_, fun M hM => ?_⟩
    · have hn : 0 < n0 := by
        rcases Nat.eq_zero_or_pos n0 with h | h
        · subst h; simp at hne
        · exact h
      have hc := (hg 0 hn).1
      rw [Nat.zero_mul] at hc
      obtain ⟨b, o, rfl⟩ := spot_none hc
      refine ⟨b, o, rfl, World.block_lt_of_cell? _ _ hc, fun j p hj => ?_⟩
      have hjn : j < n0 := by
        rcases Nat.lt_or_ge j n0 with h | h
        · exact h
        · rw [List.getElem?_eq_none (by simpa using h)] at hj; cases hj
      have hgp : g j = p := by simpa [hjn] using hj
      obtain ⟨q1, q2, _⟩ := hg j hjn
      rw [hgp] at q1 q2
      have a1 : ((⟨b, o, none⟩ : Addr).add (j * 2)) = ⟨b, o + j * 2, none⟩ := by unfold Addr.add; split <;> simp_all
      have a2 : ((⟨b, o, none⟩ : Addr).add (j * 2 + 1)) = ⟨b, o + j * 2 + 1, none⟩ := by unfold Addr.add; split <;> simp_all <;> omega
      rw [a1] at q1
      rw [a2] at q2
      exact ⟨q1, q2⟩
    · obtain ⟨i, hi, rfl⟩ := List.mem_map.1 hp
      have hin := List.mem_range.1 hi
      have hb := hbk.2 (.agg [D0 i, D1 i]) (List.mem_map.2 ⟨i, hi, rfl⟩)
      rw [(hg i hin).2.2] at hb
      have e : (g i).n.data.toList.length = (g i).n.size := rfl
      simp only [Rows.uptoBulk, Rows.uptoBulkAll, e] at hb
      omega
    · rw [hd] at hM
      simp only [DataW.weights, ht, bytesSpot, List.length_map, List.length_range] at hM
      have h1 := hM _ (List.mem_cons_self ..)
      refine ⟨by simp only [List.length_map, List.length_range]; omega, fun p hp => ?_⟩
      obtain ⟨i, hi, rfl⟩ := List.mem_map.1 hp
      have hin := List.mem_range.1 hi
      refine hM _ (List.mem_cons_of_mem _ (List.mem_append_left _ (weights_all ?_ (List.mem_map.2 ⟨i, hi, rfl⟩))))
      rw [(hg i hin).2.2]
      simp only [DataW.weights, spotFields, DataW.weightsEach, List.map_cons, List.mem_append]
      left
      exact List.mem_cons_self ..

theorem bunchFields : Tryd.prog.underlying 45 = some (.struct #[{ name := "Spots", type := 22, offset := 0, embedded := false, tag := "", pkgPath := "", byteOffset := 0 }, { name := "Times", type := 3, offset := 1, embedded := false, tag := "", pkgPath := "", byteOffset := 24 }]) := by kernel_rfl
theorem bytesBunch : Tryd.prog.bytesOf 45 = 32 := by kernel_rfl
set_option maxRecDepth 100000 in
theorem open_bunches {H : Type} {enc : TypeId × Value → H} {W : World} {r : Reach} {b0 : Nat} {v : Value} {d : DataW H} {ps : List MemPlace}
    (hval : Value.okWide Tryd.prog W r b0 43 v) (hd : DataW.Trod enc Tryd.prog W 0 (fun _ => true) true 43 v d ps) :
    ∃ zs : List T.Rz, T.RzSl W.heap.size W v zs ∧ (∀ z ∈ zs, -9223372036854775808 ≤ z.t ∧ z.t ≤ 9223372036854775807) ∧ ∀ M : Nat, (∀ n ∈ d.weights Tryd.prog 43, n ≤ M) → zs.length * 32 ≤ M ∧ ∀ z ∈ zs, z.ps.length * 24 ≤ M ∧ ∀ p ∈ z.ps, p.n.size ≤ M := by
  have ht : Tryd.prog.underlying 43 = some (.slice 45) := by kernel_rfl
  obtain ⟨a0, n0, c0, rfl⟩ := okWide_slice ht hval
  obtain ⟨fuel, hf⟩ := hd
  have e0 : (Value.slice a0 n0 c0).cells.toList = [.slice a0 n0 c0] := rfl
  rw [e0] at hf
  rcases open_slice_pairs ht bunchFields (by kernel_rfl) rfl rfl (by kernel_rfl) (by kernel_rfl) hf with ⟨h1, h2⟩ | ⟨a, len, cap, m, n, V0, V1, D0, D1, P0, P1, h1, _, hlc, hcm, hm, hx, hcells⟩
  · simp only [List.cons.injEq, Value.slice.injEq, and_true] at h1
    obtain ⟨rfl, rfl, rfl⟩ := h1
    exact ⟨[], ⟨none, 0, rfl, (fun h => absurd rfl h), (fun z hz => by cases hz)⟩, (fun z hz => by cases hz), fun M _ => ⟨by simp, fun z hz => by cases hz⟩⟩
  · simp only [List.cons.injEq, Value.slice.injEq, and_true] at h1
    obtain ⟨rfl, rfl, rfl⟩ := h1
    have hd : d = .slice ((List.range n0).map fun i => .agg [D0 i, D1 i]) ((List.range (m - n0)).map fun j => .agg [D0 (n0 + j), D1 (n0 + j)]) := congrArg Prod.fst hx
    have hmn : n0 ≤ m := by rw [hm]; split <;> omega
    have hs : ∀ i, i < n0 → ∃ z : T.Rz, W.cell? (a.add (i * 2)) = some z.v ∧ W.cell? (a.add (i * 2 + 1)) = some (.int .i64 z.t) ∧ T.PlSl W.heap.size W z.v z.ps ∧ (-9223372036854775808 ≤ z.t ∧ z.t ≤ 9223372036854775807) ∧ ∀ M : Nat, (∀ n ∈ (D0 i).weights Tryd.prog 22, n ≤ M) → z.ps.length * 24 ≤ M ∧ ∀ p ∈ z.ps, p.n.size ≤ M := fun i hi => by
      obtain ⟨k0, k1, t0, t1⟩ := hcells i (by omega)
      obtain ⟨l, hl, _, _, hM⟩ := open_spots_at t0
      obtain ⟨z, f1, f2, hz⟩ := DataW.trod_int (show Tryd.prog.underlying 3 = some (.int .i64) by kernel_rfl) t1
      simp only [List.cons.injEq, and_true] at f1
      exact ⟨⟨V0 i, l, z⟩, k0, by rw [k1, f1], hl, bounds_i64 hz, hM⟩
    obtain ⟨g, hg⟩ : ∃ g : Nat → T.Rz, ∀ i, i < n0 → W.cell? (a.add (i * 2)) = some (g i).v ∧ W.cell? (a.add (i * 2 + 1)) = some (.int .i64 (g i).t) ∧ T.PlSl W.heap.size W (g i).v (g i).ps ∧ (-9223372036854775808 ≤ (g i).t ∧ (g i).t ≤ 9223372036854775807) ∧ ∀ M : Nat, (∀ n ∈ (D0 i).weights Tryd.prog 22, n ≤ M) → (g i).ps.length * 24 ≤ M ∧ ∀ p ∈ (g i).ps, p.n.size ≤ M :=
      ⟨fun i => if h : i < n0 then Classical.choose (hs i h) else ⟨.nilIface, [], 0⟩, fun i hi => by simp only [dif_pos hi]; exact Classical.choose_spec (hs i hi)⟩
    refine ⟨(List.range n0).map g, ⟨some a, c0, by simp, fun hne => ?_, fun z hz => ?_⟩, fun z hz => ?_, fun M hM => ?_⟩
    · have hn : 0 < n0 := by
        rcases Nat.eq_zero_or_pos n0 with h | h
        · subst h; simp at hne
        · exact h
      have hc := (hg 0 hn).1
      rw [Nat.zero_mul] at hc
      obtain ⟨b, o, rfl⟩ := spot_none hc
      refine ⟨b, o, rfl, World.block_lt_of_cell? _ _ hc, fun j z hj => ?_⟩
      have hjn : j < n0 := by
        rcases Nat.lt_or_ge j n0 with h | h
        · exact h
        · rw [List.getElem?_eq_none (by simpa using h)] at hj; cases hj
      have hgp : g j = z := by simpa [hjn] using hj
      obtain ⟨q1, q2, _⟩ := hg j hjn
      rw [hgp] at q1 q2
      have a1 : ((⟨b, o, none⟩ : Addr).add (j * 2)) = ⟨b, o + j * 2, none⟩ := by unfold Addr.add; split <;> simp_all
      have a2 : ((⟨b, o, none⟩ : Addr).add (j * 2 + 1)) = ⟨b, o + j * 2 + 1, none⟩ := by unfold Addr.add; split <;> simp_all <;> omega
      rw [a1] at q1
      rw [a2] at q2
      exact ⟨q1, q2⟩
    · obtain ⟨i, hi, rfl⟩ := List.mem_map.1 hz
      exact (hg i (List.mem_range.1 hi)).2.2.1
    · obtain ⟨i, hi, rfl⟩ := List.mem_map.1 hz
      exact (hg i (List.mem_range.1 hi)).2.2.2.1
    · rw [hd] at hM
      simp only [DataW.weights, ht, bytesBunch, List.length_map, List.length_range] at hM
      have h1 := hM _ (List.mem_cons_self ..)
      refine ⟨by simp only [List.length_map, List.length_range]; omega, fun z hz => ?_⟩
      obtain ⟨i, hi, rfl⟩ := List.mem_map.1 hz
      have hin := List.mem_range.1 hi
      refine (hg i hin).2.2.2.2 M (fun n hn => ?_)
      refine hM _ (List.mem_cons_of_mem _ (List.mem_append_left _ (weights_all ?_ (List.mem_map.2 ⟨i, hi, rfl⟩))))
      simp only [DataW.weights, bunchFields, DataW.weightsEach, List.map_cons, List.mem_append]
      left
      exact hn
end Go.Proofs.YtbldeiejlebbiaaDoor.T
