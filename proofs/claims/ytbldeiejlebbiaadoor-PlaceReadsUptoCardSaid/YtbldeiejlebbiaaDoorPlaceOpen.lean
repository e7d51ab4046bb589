/-
  The arguments of the statements of layer 3, opened; what the listed variables hold.
-/
import Derived.Test.YtbldeiejlebbiaaDoorCards
import Derived.Deep.SlicePairs
import Derived.Deep.Strs
import Derived.WideShapes
import Derived.Carry
import Derived.Lay
import Derived.LaidMore
import Derived.Stop.LaidErr
import Derived.Lib.LaidTab
import Derived.ProofKit
import Derived.OpenShut
import Derived.Test.YtbldeiejlebbiaaDoorPlaceBase
set_option linter.unusedVariables false
namespace Go.Proofs.YtbldeiejlebbiaaDoor.T
open Go.ChangeShapes Go.WideShapes Go.ChangeAt Go.RowKit Go.Lib Go.Deep

theorem laidOut : laidOutB Tryd.prog = true := by kernel_rfl
theorem spotFields : Tryd.prog.underlying 61 = some (.struct #[{ name := "Name", type := 9, offset := 0, embedded := false, tag := "", pkgPath := "", byteOffset := 0 }, { name := "Line", type := 3, offset := 1, embedded := false, tag := "", pkgPath := "", byteOffset := 16 }]) := by kernel_rfl
theorem bulk_pos {H : Type} : ∀ d : DataW H, 1 ≤ Rows.uptoBulk d
  | .lit l => by cases l <;> simp [Rows.uptoBulk]
  | .nil => by simp [Rows.uptoBulk]
  | .ptr d => by simp [Rows.uptoBulk]
  | .slice e s => by simp [Rows.uptoBulk]
  | .agg p => by simp [Rows.uptoBulk]
  | .iface n d => by simp [Rows.uptoBulk]
  | .map e => by simp [Rows.uptoBulk]
  | .held h => by simp [Rows.uptoBulk]
theorem bulk_all {H : Type} : ∀ l : List (DataW H), l.length ≤ Rows.uptoBulkAll l ∧ ∀ d ∈ l, Rows.uptoBulk d ≤ Rows.uptoBulkAll l
  | [] => ⟨by simp, fun _ h => by cases h⟩
  | d :: l => by
    obtain ⟨h1, h2⟩ := bulk_all l
    have := bulk_pos d
    refine ⟨by simp [Rows.uptoBulkAll]; omega, fun e he => ?_⟩
    rcases List.mem_cons.1 he with rfl | he
    · simp [Rows.uptoBulkAll]
    · have := h2 e he
      simp [Rows.uptoBulkAll]; omega
theorem weights_all {H : Type} {P : Program} {e : TypeId} {d : DataW H} {n : Nat} (hn : n ∈ d.weights P e) : ∀ {l : List (DataW H)}, d ∈ l → n ∈ DataW.weightsAll P e l
  | [], h => by cases h
  | x :: l, h => by
    simp only [DataW.weightsAll, List.mem_append]
    rcases List.mem_cons.1 h with rfl | h
    · exact .inl hn
    · exact .inr (weights_all hn h)
theorem bytesSpot : Tryd.prog.bytesOf 61 = 24 := by kernel_rfl
theorem bytesStr : Tryd.prog.bytesOf 9 = 16 := by kernel_rfl
theorem spot_none {w : World} {a : Addr} {v : Value} (h : w.cell? (a.add 0) = some v) : ∃ b o, a = ⟨b, o, none⟩ := by
  obtain ⟨b, o, s⟩ := a
  cases s with
  | none => exact ⟨b, o, rfl⟩
  | some s =>
    exfalso
    unfold World.cell? Addr.add at h
    simp at h
    split at h
    · simp at h
    · cases h
set_option maxRecDepth 100000 in
theorem open_spots {H : Type} {enc : TypeId × Value → H} {W : World} {r : Reach} {b0 : Nat} {v : Value} {d : DataW H} {ps : List MemPlace}
    (hval : Value.okWide Tryd.prog W r b0 22 v) (hd : DataW.Trod enc Tryd.prog W 0 (fun _ => true) true 22 v d ps) :
    ∃ l : List T.Pl, T.PlSl W.heap.size W v l ∧ l.length ≤ Rows.uptoBulk d ∧ (∀ p ∈ l, p.n.size ≤ Rows.uptoBulk d) ∧ ∀ M : Nat, (∀ n ∈ d.weights Tryd.prog 22, n ≤ M) → l.length * 24 ≤ M ∧ ∀ p ∈ l, p.n.size ≤ M := by
  have ht : Tryd.prog.underlying 22 = some (.slice 61) := by kernel_rfl
  obtain ⟨a0, n0, c0, rfl⟩ := okWide_slice ht hval
  obtain ⟨fuel, hf⟩ := hd
  have e0 : (Value.slice a0 n0 c0).cells.toList = [.slice a0 n0 c0] := rfl
  rw [e0] at hf
  rcases open_slice_pairs ht spotFields (by kernel_rfl) rfl rfl (by kernel_rfl) (by kernel_rfl) hf with ⟨h1, h2⟩ | ⟨a, len, cap, m, n, V0, V1, D0, D1, P0, P1, h1, _, hlc, hcm, hm, hx, hcells⟩
  · simp only [List.cons.injEq, Value.slice.injEq, and_true] at h1
    obtain ⟨rfl, rfl, rfl⟩ := h1
    exact ⟨[], ⟨none, 0, rfl, by simp, by omega, fun h => absurd rfl h⟩, by simp, (fun p hp => by cases hp), fun M _ => ⟨by simp, fun p hp => by cases hp⟩⟩
  · simp only [List.cons.injEq, Value.slice.injEq, and_true] at h1
    obtain ⟨rfl, rfl, rfl⟩ := h1
    have hd : d = .slice ((List.range n0).map fun i => .agg [D0 i, D1 i]) ((List.range (m - n0)).map fun j => .agg [D0 (n0 + j), D1 (n0 + j)]) := congrArg Prod.fst hx
    have hmn : n0 ≤ m := by rw [hm]; split <;> omega
    have hs : ∀ i, i < n0 → ∃ p : T.Pl, W.cell? (a.add (i * 2)) = some (.string p.n) ∧ W.cell? (a.add (i * 2 + 1)) = some (.int .i64 p.k) ∧ D0 i = .lit (.string p.n.data.toList) := fun i hi => by
      obtain ⟨k0, k1, t0, t1⟩ := hcells i (by omega)
      obtain ⟨s, e1, e2, _⟩ := DataW.trod_string (show Tryd.prog.underlying 9 = some .string by kernel_rfl) t0
      obtain ⟨z, f1, f2, _⟩ := DataW.trod_int (show Tryd.prog.underlying 3 = some (.int .i64) by kernel_rfl) t1
      simp only [List.cons.injEq, and_true] at e1 f1
      exact ⟨⟨s, z⟩, by rw [k0, e1], by rw [k1, f1], congrArg Prod.fst e2⟩
    obtain ⟨g, hg⟩ : ∃ g : Nat → T.Pl, ∀ i, i < n0 → W.cell? (a.add (i * 2)) = some (.string (g i).n) ∧ W.cell? (a.add (i * 2 + 1)) = some (.int .i64 (g i).k) ∧ D0 i = .lit (.string (g i).n.data.toList) :=
      ⟨fun i => if h : i < n0 then Classical.choose (hs i h) else ⟨⟨#[]⟩, 0⟩, fun i hi => by simp only [dif_pos hi]; exact Classical.choose_spec (hs i hi)⟩
    have hbk := bulk_all ((List.range n0).map fun i => (.agg [D0 i, D1 i] : DataW H))
    have hdb : Rows.uptoBulkAll ((List.range n0).map fun i => (.agg [D0 i, D1 i] : DataW H)) ≤ Rows.uptoBulk d := by
      rw [hd]; simp [Rows.uptoBulk]; omega
    rw [List.length_map, List.length_range] at hbk
    refine ⟨(List.range n0).map g, ⟨some a, c0, by simp, by simpa using hlc, by unfold maxLen at hcm; omega, fun hne => ?_⟩, by simp; omega, fun p hp => ?_, fun M hM => ?_⟩
    · have hn : 0 < n0 := by
        rcases Nat.eq_zero_or_pos n0 with h | h
        · subst h; simp at hne
        · exact h
      have hc := (hg 0 hn).1
      rw [Nat.zero_mul] at hc
      obtain ⟨b, o, rfl⟩ := spot_none hc
      refine ⟨b, o, rfl, World.block_lt_of_cell? _ _ hc, fun j p hj => ?_⟩
      have hjn : j < n0 := by
        rcases Nat.lt_or_ge j n0 with h | h
        · exact h
        · rw [List.getElem?_eq_none (by simpa using h)] at hj; cases hj
      have hgp : g j = p := by simpa [hjn] using hj
      obtain ⟨q1, q2, _⟩ := hg j hjn
      rw [hgp] at q1 q2
      have a1 : ((⟨b, o, none⟩ : Addr).add (j * 2)) = ⟨b, o + j * 2, none⟩ := by unfold Addr.add; split <;> simp_all
      have a2 : ((⟨b, o, none⟩ : Addr).add (j * 2 + 1)) = ⟨b, o + j * 2 + 1, none⟩ := by unfold Addr.add; split <;> simp_all <;> omega
      rw [a1] at q1
      rw [a2] at q2
      exact ⟨q1, q2⟩
    · obtain ⟨i, hi, rfl⟩ := List.mem_map.1 hp
      have hin := List.mem_range.1 hi
      have hb := hbk.2 (.agg [D0 i, D1 i]) (List.mem_map.2 ⟨i, hi, rfl⟩)
      rw [(hg i hin).2.2] at hb
      have e : (g i).n.data.toList.length = (g i).n.size := rfl
      simp only [Rows.uptoBulk, Rows.uptoBulkAll, e] at hb
      omega
    · rw [hd] at hM
      simp only [DataW.weights, ht, bytesSpot, List.length_map, List.length_range] at hM
      have h1 := hM _ (List.mem_cons_self ..)
      refine ⟨by simp only [List.length_map, List.length_range]; omega, fun p hp => ?_⟩
      obtain ⟨i, hi, rfl⟩ := List.mem_map.1 hp
      have hin := List.mem_range.1 hi
      refine hM _ (List.mem_cons_of_mem _ (List.mem_append_left _ (weights_all ?_ (List.mem_map.2 ⟨i, hi, rfl⟩))))
      rw [(hg i hin).2.2]
      simp only [DataW.weights, spotFields, DataW.weightsEach, List.map_cons, List.mem_append]
      left
      exact List.mem_cons_self ..
end Go.Proofs.YtbldeiejlebbiaaDoor.T
