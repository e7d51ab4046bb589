import Derived.Test.YtbldeiejlebbiaaDoorPlaceBase
import Derived.Maps.OwnSet
import Derived.DeepKeys4
import Derived.MapViews
import Derived.Lay
import Derived.Test.YtbldeiejlebbiaaDoorPlaceMay
import Derived.Test.YtbldeiejlebbiaaDoorPlaceEnv
import Derived.Test.YtbldeiejlebbiaaDoorPlaceCopies
import Derived.Maps.AppendAt

/-
  The map of a tree: which node a step leads to.
-/
set_option linter.unusedVariables false
namespace Go.Proofs.YtbldeiejlebbiaaDoor.T
open Go Go.Lib Go.RowKit

theorem laidOutM : laidOutB Tryd.prog = true := by kernel_rfl
theorem rowStep : (100 : TypeId) < Tryd.prog.types.size := of_decide_eq_true (by kernel_rfl)
theorem deepStep : Tryd.prog.keyTypeAt (Tryd.prog.types.size + 1) 100 = true := by kernel_rfl
theorem wideStep : (match Tryd.prog.underlying 100 with | some (.array _ _) | some (.struct _) => true | _ => false) = true := by kernel_rfl
set_option maxRecDepth 100000 in
theorem keyedStep : Maps.Keyed Tryd.prog 100 := Maps.Keyed.of_law (deep_law_laid laidOutM (m := 3) (by omega) rowStep (by kernel_rfl) wideStep)
theorem stepFields : Tryd.prog.underlying 100 = some (.struct #[{ name := "parent", type := 3, offset := 0, embedded := false, tag := "", pkgPath := "errata/place", byteOffset := 0 }, { name := "place", type := 39, offset := 1, embedded := false, tag := "", pkgPath := "errata/place", byteOffset := 8 }]) := by kernel_rfl
theorem placeFields : Tryd.prog.underlying 39 = some (.struct #[{ name := "Name", type := 9, offset := 0, embedded := false, tag := "", pkgPath := "", byteOffset := 0 }, { name := "Line", type := 3, offset := 1, embedded := false, tag := "", pkgPath := "", byteOffset := 16 }]) := by kernel_rfl
/-- a step: the parent's number, and the place -/
def stV (p : Int) (x : Pl) : Value := .agg #[.int .i64 p, .string x.n, .int .i64 x.k]
/-- how a step's cells are told as a key's, over any program -/
theorem keyLits_step {P : Program} {ts tp ti tq : TypeId} {f0 f1 g0 g1 : Field} (h1 : P.underlying ts = some (.struct #[f0, f1])) (h2 : P.underlying tp = some (.struct #[g0, g1])) (h3 : P.underlying ti = some (.int .i64)) (h4 : P.underlying tq = some .string)
    (c1 : P.cellsOf ts = 3) (c2 : P.cellsOf tp = 2) (c3 : P.cellsOf ti = 1) (c4 : P.cellsOf tq = 1)
    (a0 : f0.offset = 0) (a1 : f1.offset = 1) (b0 : g0.offset = 0) (b1 : g1.offset = 1) (t0 : f0.type = ti) (t1 : f1.type = tp) (s0 : g0.type = tq) (s1 : g1.type = ti)
    (n0 : (f0.name != "_") = true) (n1 : (f1.name != "_") = true) (m0 : (g0.name != "_") = true) (m1 : (g1.name != "_") = true)
    (d : Nat) (p k : Int) (n : ByteArray) (hp : (Lit.int .i64 p).wf = true) (hk : (Lit.int .i64 k).wf = true) (hn : n.size ≤ maxLen) :
    P.keyLits (d + 1 + 1 + 1) ts [.int .i64 p, .string n, .int .i64 k] = some [.int .i64 p, .string n.data.toList, .int .i64 k] := by
  have ei : ∀ (e : Nat) (z : Int), (Lit.int .i64 z).wf = true → P.keyLits (e + 1) ti [.int .i64 z] = some [.int .i64 z] := fun e z hz => by
    unfold Program.keyLits; rw [h3]; simp [hz]
  have es : P.keyLits (d + 1) tq [.string n] = some [.string n.data.toList] := by
    unfold Program.keyLits; rw [h4]; simp [hn]
  have ep : P.keyLits (d + 1 + 1) tp [.string n, .int .i64 k] = some [.string n.data.toList, .int .i64 k] := by
    unfold Program.keyLits; rw [h2]
    simp [c2, c3, c4, b0, b1, s0, s1, m0, m1, es, ei d k hk]
  unfold Program.keyLits; rw [h1]
  simp [c1, c2, c3, a0, a1, t0, t1, n0, n1, ep, ei (d + 1) p hp]
theorem keyStep (p : Int) (x : Pl) (hp : (Lit.int .i64 p).wf = true) (hk : (Lit.int .i64 x.k).wf = true) (hn : x.n.size ≤ maxLen) : ∃ kl, keyOf Tryd.prog 100 (stV p x) = some kl := by
  have e1 : Tryd.prog.keyType 100 = true := deepStep
  have e2 : (stV p x).formed Tryd.prog 100 = true := by
    unfold stV Value.formed
    rw [stepFields]
    simp [show Tryd.prog.cellsOf 100 = 3 by kernel_rfl]
  have sz : Tryd.prog.types.size + 1 = (Tryd.prog.types.size - 2) + 1 + 1 + 1 := by
    have h : 3 ≤ Tryd.prog.types.size := of_decide_eq_true (by kernel_rfl)
    omega
  have hl := keyLits_step (P := Tryd.prog) stepFields placeFields (show Tryd.prog.underlying 3 = some (.int .i64) by kernel_rfl) (show Tryd.prog.underlying 9 = some .string by kernel_rfl) (by kernel_rfl) (by kernel_rfl) (by kernel_rfl) (by kernel_rfl) rfl rfl rfl rfl rfl rfl rfl rfl rfl rfl rfl rfl (Tryd.prog.types.size - 2) p x.k x.n hp hk hn
  rw [← sz] at hl
  have e3 : (stV p x).cells.toList = [.int .i64 p, .string x.n, .int .i64 x.k] := rfl
  refine ⟨.string (keyBytes [.int .i64 p, .string x.n.data.toList, .int .i64 x.k]), ?_⟩
  unfold keyOf
  rw [stepFields, e1, e2, e3, hl]
  rfl
theorem mapTy : Tryd.prog.underlying 104 = some (.map 100 3) := by kernel_rfl
theorem intTy : Tryd.prog.underlying 3 = some (.int .i64) := by kernel_rfl
theorem zeroInt (w : World) : (zeroValue 3).run Tryd.prog w = .ok (.int .i64 0) w := by kernel_rfl
theorem wf_small (n : Int) (h0 : -9223372036854775808 ≤ n) (h1 : n ≤ 9223372036854775807) : (Lit.int .i64 n).wf = true := by
  simp only [Lit.wf, IntKind.min, IntKind.max, IntKind.signed, IntKind.bits]
  simp
  omega
/-- a step that may be a key -/
def StOk (q : Nat × Pl) : Prop := q.1 ≤ 1000000 ∧ -9223372036854775808 ≤ q.2.k ∧ q.2.k ≤ 9223372036854775807 ∧ q.2.n.size ≤ 1000000
theorem StOk.key {q : Nat × Pl} (h : StOk q) : ∃ kl, keyOf Tryd.prog 100 (stV q.1 q.2) = some kl := by
  obtain ⟨h1, h2, h3, h4⟩ := h
  exact keyStep q.1 q.2 (wf_small _ (by omega) (by omega)) (wf_small _ h2 h3) (by unfold maxLen; omega)
theorem stV_inj {p p' : Nat} {x x' : Pl} (h : stV p x = stV p' x') : (p, x) = (p', x') := by
  unfold stV at h
  simp only [Value.agg.injEq, Array.mk.injEq, List.cons.injEq, Value.int.injEq, true_and, Value.string.injEq, and_true] at h
  obtain ⟨h1, h2, h3⟩ := h
  obtain ⟨n, k⟩ := x
  obtain ⟨n', k'⟩ := x'
  simp only at h2 h3
  subst h2 h3
  simp only [Prod.mk.injEq, and_true]
  omega
/-- block m is a map from the steps of the nodes 1, 2 .. to their numbers -/
def StMap (w : World) (m : Nat) (ns : List (Nat × Pl)) : Prop :=
  ∃ D : DataW Unit, w.ownsMap Tryd.prog 100 (plainElem Tryd.prog 3) m ns.length D ∧
    (∀ (i : Nat) q, ns[i]? = some q → ∀ kl, keyOf Tryd.prog 100 (stV q.1 q.2) = some kl → Maps.has D kl = true ∧ ∀ z, D.atKey kl z = .lit (.int .i64 ((i : Int) + 1))) ∧
    (∀ (p : Nat) (x : Pl), (p, x) ∉ ns → ∀ kl, keyOf Tryd.prog 100 (stV p x) = some kl → Maps.has D kl = false ∧ ∀ z, D.atKey kl z = z)
theorem StMap.lt {w : World} {m : Nat} {ns : List (Nat × Pl)} (h : StMap w m ns) : m < w.heap.size := by obtain ⟨D, h1, _⟩ := h; exact h1.lt
theorem StMap.grown {w w' : World} {m : Nat} {ns : List (Nat × Pl)} {row : Option Nat} (h : StMap w m ns) (hg : w.grownBy w' row) (hne : some m ≠ row) : StMap w' m ns := by
  obtain ⟨D, h1, h2, h3⟩ := h
  exact ⟨D, h1.kept hg hne, h2, h3⟩
theorem StMap.made (w : World) : StMap (w.alloc (.map #[] 0)) w.heap.size [] :=
  ⟨.map [], World.ownsMap_made _ _ _ _, fun i q h => by simp at h, fun p x _ kl _ => ⟨rfl, fun z => rfl⟩⟩
/-- a step that leads to a node is found -/
theorem StMap.found {w : World} {m : Nat} {ns : List (Nat × Pl)} (h : StMap w m ns) {i p : Nat} {x : Pl} (hi : ns[i]? = some (p, x)) (ho : StOk (p, x)) :
    (Instr.lookup 104 (.map (some m)) (stV p x) true).run Tryd.prog w = .ok (.tuple #[.int .i64 ((i : Int) + 1), .bool true]) w := by
  obtain ⟨D, h1, h2, h3⟩ := h
  obtain ⟨kl, hk⟩ := ho.key
  obtain ⟨ha, hb⟩ := h2 i _ hi kl hk
  obtain ⟨v, ps, hr, hv⟩ := h1.look_ok keyedStep mapTy (zeroInt w) (plainElem_int intTy (wf_small 0 (by omega) (by omega))) hk
  rw [hb] at hv
  obtain ⟨a, rfl, e, _⟩ := plainElem_int_inv intTy hv
  simp only [Prod.mk.injEq, DataW.lit.injEq, Lit.int.injEq, true_and] at e
  rw [hr, ha, e.1]
/-- another one is not -/
theorem StMap.none {w : World} {m : Nat} {ns : List (Nat × Pl)} (h : StMap w m ns) {p : Nat} {x : Pl} (hi : (p, x) ∉ ns) (ho : StOk (p, x)) :
    (Instr.lookup 104 (.map (some m)) (stV p x) true).run Tryd.prog w = .ok (.tuple #[.int .i64 0, .bool false]) w := by
  obtain ⟨D, h1, h2, h3⟩ := h
  obtain ⟨kl, hk⟩ := ho.key
  obtain ⟨ha, hb⟩ := h3 p x hi kl hk
  obtain ⟨v, ps, hr, hv⟩ := h1.look_ok keyedStep mapTy (zeroInt w) (plainElem_int intTy (wf_small 0 (by omega) (by omega))) hk
  rw [hb] at hv
  obtain ⟨a, rfl, e, _⟩ := plainElem_int_inv intTy hv
  simp only [Prod.mk.injEq, DataW.lit.injEq, Lit.int.injEq, true_and] at e
  rw [hr, ha, ← e.1]
/-- a new step, with the next number -/
theorem StMap.store {w : World} {m : Nat} {ns : List (Nat × Pl)} (h : StMap w m ns) {p : Nat} {x : Pl} (hi : (p, x) ∉ ns) (ho : StOk (p, x)) (hall : ∀ q ∈ ns, StOk q) (hn : ns.length ≤ 1000000) :
    ∃ w', (Instr.mapUpdate 104 (.map (some m)) (stV p x) (.int .i64 ((ns.length : Int) + 1))).run Tryd.prog w = .ok () w' ∧ StMap w' m (ns ++ [(p, x)]) ∧ w.grownBy w' (some m) := by
  obtain ⟨D, h1, h2, h3⟩ := h
  obtain ⟨kl, hk⟩ := ho.key
  obtain ⟨w', hr, h1', ht⟩ := h1.store keyedStep mapTy (by unfold maxLen; omega) hk (plainElem_int intTy (wf_small ((ns.length : Int) + 1) (by omega) (by omega)))
  have hlit := keyedStep.key hk
  have hm := h1.isMap
  have hother : ∀ (p' : Nat) (x' : Pl) kl', (p', x') ≠ (p, x) → keyOf Tryd.prog 100 (stV p' x') = some kl' → kl' ≠ kl := fun p' x' kl' hne hk' e => by
    subst e
    exact hne (stV_inj (keyedStep.inj hk' hk))
  refine ⟨w', hr, ⟨_, by rw [List.length_append, List.length_singleton]; exact h1', fun i q hq kl' hk' => ?_, fun p' x' hne kl' hk' => ?_⟩, ht.grown⟩
  · rcases Nat.lt_or_ge i ns.length with hl | hl
    · rw [List.getElem?_append_left hl] at hq
      have hne : q ≠ (p, x) := fun e => hi (e ▸ List.mem_of_getElem? hq)
      have hkn := hother q.1 q.2 kl' hne hk'
      obtain ⟨ha, hb⟩ := h2 i q hq kl' hk'
      exact ⟨by rw [Maps.has_put_other hkn]; exact ha, fun z => by rw [Maps.atKey_put_other hkn]; exact hb z⟩
    · rw [List.getElem?_append_right hl] at hq
      have hil : i - ns.length = 0 := by
        rcases Nat.eq_zero_or_pos (i - ns.length) with h | h
        · exact h
        · rw [List.getElem?_eq_none (by simp; omega)] at hq; cases hq
      rw [hil] at hq
      simp at hq
      subst hq
      obtain rfl : i = ns.length := by omega
      rw [hk] at hk'
      cases hk'
      exact ⟨Maps.has_put_same hm hlit _, fun z => Maps.atKey_put_same hm hlit _ z⟩
  · have hn1 : (p', x') ∉ ns := fun e => hne (List.mem_append_left _ e)
    have hn2 : (p', x') ≠ (p, x) := fun e => hne (by rw [e]; simp)
    have hkn := hother p' x' kl' hn2 hk'
    obtain ⟨ha, hb⟩ := h3 p' x' hn1 kl' hk'
    exact ⟨by rw [Maps.has_put_other hkn]; exact ha, fun z => by rw [Maps.atKey_put_other hkn]; exact hb z⟩
end Go.Proofs.YtbldeiejlebbiaaDoor.T

/-
  A tree as it lies in memory; Len, has, Depth, Parent.
-/
set_option linter.unusedVariables false
namespace Go.Proofs.YtbldeiejlebbiaaDoor.T
open Go Go.Lib Go.RowKit

/-- a node: its parent, its place, its depth -/
structure Nd where
  p : Nat
  x : Pl
  d : Nat
def zeroNd : Nd := ⟨0, ⟨⟨#[]⟩, 0⟩, 0⟩
def ndC (n : Nd) : List Value := [.int .i64 n.p, .string n.x.n, .int .i64 n.x.k, .int .i64 n.d]
def ndCs (ns : List Nd) : List Value := ns.flatMap ndC
theorem ndCs_snoc (ns : List Nd) (n : Nd) : ndCs (ns ++ [n]) = ndCs ns ++ ndC n := by simp [ndCs]
theorem ndCs_length : ∀ ns : List Nd, (ndCs ns).length = ns.length * 4
  | [] => rfl
  | n :: ns => by
    have : ndCs (n :: ns) = ndC n ++ ndCs ns := rfl
    rw [this, List.length_append, ndCs_length ns]; simp [ndC]; omega
theorem ndCs_at : ∀ (ns : List Nd) (j : Nat) (n : Nd), ns[j]? = some n → (ndCs ns)[4 * j]? = some (.int .i64 n.p) ∧ (ndCs ns)[4 * j + 1]? = some (.string n.x.n) ∧ (ndCs ns)[4 * j + 2]? = some (.int .i64 n.x.k) ∧ (ndCs ns)[4 * j + 3]? = some (.int .i64 n.d)
  | [], j, n, h => by simp at h
  | q :: ns, 0, n, h => by
    simp at h; subst h
    exact ⟨rfl, rfl, rfl, rfl⟩
  | q :: ns, j + 1, n, h => by
    have ih := ndCs_at ns j n (by simpa using h)
    have e : ndCs (q :: ns) = .int .i64 q.p :: .string q.x.n :: .int .i64 q.x.k :: .int .i64 q.d :: ndCs ns := rfl
    rw [e, show 4 * (j + 1) = 4 * j + 1 + 1 + 1 + 1 from by omega, show 4 * j + 1 + 1 + 1 + 1 + 1 = (4 * j + 1) + 1 + 1 + 1 + 1 from by omega, show 4 * j + 1 + 1 + 1 + 1 + 2 = (4 * j + 2) + 1 + 1 + 1 + 1 from by omega, show 4 * j + 1 + 1 + 1 + 1 + 3 = (4 * j + 3) + 1 + 1 + 1 + 1 from by omega]
    simpa using ih
theorem own_slice4 {w : World} {B : Nat} {e : TypeId} {size : Nat} {v : Value} {n : Nat} {xs : List Value} (h : w.ownsRow B e size v (n + 1) xs) : ∃ g cap, v = .slice (some ⟨g, 0, none⟩) (n + 1) cap ∧ n + 1 ≤ cap := own_slice h
def stepOf (n : Nd) : Nat × Pl := (n.p, n.x)
/-- the tree with these nodes behind the node 0 lies at T, its nodes in the row v, its map in block m -/
structure TreeAt (B : Nat) (w : World) (T : Nat) (v : Value) (m : Nat) (ns : List Nd) : Prop where
  blk : w.heap[T]? = some (.cells #[v, .map (some m)] 106 (0, 0))
  row : w.ownsRow B 102 4 v (ns.length + 1) (ndCs (zeroNd :: ns))
  map : StMap w m (ns.map stepOf)
  lo : B ≤ T ∧ B ≤ m
  ok : ∀ n ∈ ns, StOk (stepOf n) ∧ n.d ≤ 64
  few : ns.length ≤ 4096
theorem TreeAt.lt {B : Nat} {w : World} {T : Nat} {v : Value} {m : Nat} {ns : List Nd} (h : TreeAt B w T v m ns) : T < w.heap.size := (Array.getElem?_eq_some_iff.1 h.blk).1
theorem TreeAt.c0 {B : Nat} {w : World} {T : Nat} {v : Value} {m : Nat} {ns : List Nd} (h : TreeAt B w T v m ns) : w.cell? ⟨T, 0, none⟩ = some v := by simp [World.cell?, h.blk]
theorem TreeAt.c1 {B : Nat} {w : World} {T : Nat} {v : Value} {m : Nat} {ns : List Nd} (h : TreeAt B w T v m ns) : w.cell? ⟨T, 1, none⟩ = some (.map (some m)) := by simp [World.cell?, h.blk]
theorem TreeAt.f0 {B : Nat} {w : World} {T : Nat} {v : Value} {m : Nat} {ns : List Nd} (h : TreeAt B w T v m ns) (o : Nat) : w.frozen? ⟨T, o, none⟩ = false := by simp [World.frozen?, h.blk]
theorem TreeAt.nodes {B : Nat} {w : World} {T : Nat} {v : Value} {m : Nat} {ns : List Nd} (h : TreeAt B w T v m ns) : ∃ g cap, v = .slice (some ⟨g, 0, none⟩) (ns.length + 1) cap ∧ B ≤ g ∧ g < w.heap.size ∧
    ∀ (j : Nat) n, (zeroNd :: ns)[j]? = some n → w.cell? ⟨g, j * 4, none⟩ = some (.int .i64 n.p) ∧ w.cell? ⟨g, j * 4 + 1, none⟩ = some (.string n.x.n) ∧ w.cell? ⟨g, j * 4 + 2, none⟩ = some (.int .i64 n.x.k) ∧ w.cell? ⟨g, j * 4 + 3, none⟩ = some (.int .i64 n.d) := by
  obtain ⟨g, cap, rfl, _⟩ := own_slice4 h.row
  have hl := World.ownsRow.lt h.row g rfl
  refine ⟨g, cap, rfl, hl.1, hl.2, fun j n hj => ?_⟩
  have hjl : j < ns.length + 1 := by have := (List.getElem?_eq_some_iff.1 hj).1; simpa using this
  obtain ⟨e1, e2, e3, e4⟩ := ndCs_at (zeroNd :: ns) j n hj
  refine ⟨?_, ?_, ?_, ?_⟩
  · rw [h.row.cellAt (j * 4) (by omega), Nat.mul_comm]; exact e1
  · rw [h.row.cellAt (j * 4 + 1) (by omega), Nat.mul_comm]; exact e2
  · rw [h.row.cellAt (j * 4 + 2) (by omega), Nat.mul_comm]; exact e3
  · rw [h.row.cellAt (j * 4 + 3) (by omega), Nat.mul_comm]; exact e4
theorem Len_in {B : Nat} {T : Nat} {v : Value} {m : Nat} {ns : List Nd} (w : World) (h : TreeAt B w T v m ns) :
    Calls Tryd.prog 23 #[.pointer (some ⟨T, 0, none⟩)] w fun e w' => e = .returned (.int .i64 ((ns.length : Int) + 1)) ∧ w = w' := by
  obtain ⟨g, cap, rfl, _⟩ := h.nodes
  have c0 := h.c0
  have hn := h.few
  go_enter Tryd.func23, Tryd.ntmps23
  go_wp2
  go_ret
  exact ⟨rfl, rfl⟩
def hasB (n : Nat) (k : Int) : Bool := decide (0 ≤ k) && decide (k < (n : Int) + 1)
theorem has_in {B : Nat} {T : Nat} {v : Value} {m : Nat} {ns : List Nd} (k : Int) (w : World) (h : TreeAt B w T v m ns) :
    Calls Tryd.prog 69 #[.pointer (some ⟨T, 0, none⟩), .int .i64 k] w fun e w' => e = .returned (.bool (hasB ns.length k)) ∧ w = w' := by
  have cL := Len_in w h
  have hn := h.few
  generalize ns.length = n at *
  unfold hasB
  go_enter Tryd.func69, Tryd.ntmps69
  by_cases h0 : 0 ≤ k
  · have e0 : decide ((0 : Int) ≤ k) = true := decide_eq_true h0
    by_cases h1 : k < (n : Int) + 1
    · have e1 : decide (k < (n : Int) + 1) = true := decide_eq_true h1
      go_wp2_with (go_at_call 23; refine cL.mono ?_; rintro e w' ⟨rfl, rfl⟩)
      go_ret
      exact ⟨by simp [e0, e1], rfl⟩
    · have e1 : decide (k < (n : Int) + 1) = false := decide_eq_false h1
      go_wp2_with (go_at_call 23; refine cL.mono ?_; rintro e w' ⟨rfl, rfl⟩)
      go_ret
      exact ⟨by simp [e0, e1], rfl⟩
  · have e0 : decide ((0 : Int) ≤ k) = false := decide_eq_false h0
    go_wp2_with (go_at_call 23; refine cL.mono ?_; rintro e w' ⟨rfl, rfl⟩)
    go_ret
    exact ⟨by simp, rfl⟩
end Go.Proofs.YtbldeiejlebbiaaDoor.T

/-
  What a tree is asked: Depth, Parent.
-/
set_option linter.unusedVariables false
namespace Go.Proofs.YtbldeiejlebbiaaDoor.T
open Go Go.Lib Go.RowKit

theorem hasB_true {n j : Nat} (h : j < n + 1) : hasB n (j : Int) = true := by unfold hasB; simp; omega
theorem hasB_nat {n : Nat} {k : Int} (h : hasB n k = true) : ∃ j : Nat, k = j ∧ j < n + 1 := by
  unfold hasB at h
  simp at h
  exact ⟨k.toNat, by omega, by omega⟩
def depthOf (ns : List Nd) (k : Int) : Nat := if hasB ns.length k then (((zeroNd :: ns)[k.toNat]?).map (·.d)).getD 0 else 0
theorem Depth_in {B : Nat} {T : Nat} {v : Value} {m : Nat} {ns : List Nd} (k : Int) (w : World) (h : TreeAt B w T v m ns) :
    Calls Tryd.prog 35 #[.pointer (some ⟨T, 0, none⟩), .int .i64 k] w fun e w' => e = .returned (.int .i64 (depthOf ns k)) ∧ w = w' := by
  have cH := has_in k w h
  obtain ⟨g, cap, rfl, _, _, hat⟩ := h.nodes
  have c0 := h.c0
  have hn := h.few
  unfold depthOf
  go_enter Tryd.func35, Tryd.ntmps35
  cases hb : hasB ns.length k with
  | false =>
    rw [hb] at cH
    go_wp2_with (go_at_call 69; refine cH.mono ?_; rintro e w' ⟨rfl, rfl⟩)
    go_ret
    exact ⟨rfl, rfl⟩
  | true =>
    rw [hb] at cH
    obtain ⟨j, rfl, hj⟩ := hasB_nat hb
    obtain ⟨q, hq⟩ : ∃ q, (zeroNd :: ns)[j]? = some q := ⟨_, List.getElem?_eq_getElem (by simpa using hj)⟩
    obtain ⟨e1, e2, e3, e4⟩ := hat j q hq
    generalize hl : ns.length = n at *
    go_wp2_with (go_at_call 69; refine cH.mono ?_; rintro e w' ⟨rfl, rfl⟩)
    go_ret
    exact ⟨by simp, rfl⟩
def parentOf (ns : List Nd) (k : Int) : Nat × Bool := if k != 0 && hasB ns.length k then ((((zeroNd :: ns)[k.toNat]?).map (·.p)).getD 0, true) else (0, false)
theorem Parent_in {B : Nat} {T : Nat} {v : Value} {m : Nat} {ns : List Nd} (k : Int) (w : World) (h : TreeAt B w T v m ns) :
    Calls Tryd.prog 52 #[.pointer (some ⟨T, 0, none⟩), .int .i64 k] w fun e w' => e = .returned (.tuple #[.int .i64 (parentOf ns k).1, .bool (parentOf ns k).2]) ∧ w = w' := by
  have cH := has_in k w h
  obtain ⟨g, cap, rfl, _, _, hat⟩ := h.nodes
  have c0 := h.c0
  have hn := h.few
  by_cases h0 : k = 0
  · have hp : parentOf ns k = (0, false) := by subst h0; rfl
    rw [hp]
    clear hp
    subst h0
    go_enter Tryd.func52, Tryd.ntmps52
    go_wp2
    go_ret2
    exact ⟨rfl, rfl⟩
  · cases hb : hasB ns.length k with
    | false =>
      have hp : parentOf ns k = (0, false) := by unfold parentOf; simp [hb]
      rw [hp]
      clear hp
      rw [hb] at cH
      go_enter Tryd.func52, Tryd.ntmps52
      go_wp2_with (go_at_call 69; refine cH.mono ?_; rintro e w' ⟨rfl, rfl⟩)
      go_ret2
      exact ⟨rfl, rfl⟩
    | true =>
      obtain ⟨j, rfl, hj⟩ := hasB_nat hb
      obtain ⟨q, hq⟩ : ∃ q, (zeroNd :: ns)[j]? = some q := ⟨_, List.getElem?_eq_getElem (by simpa using hj)⟩
      have hp : parentOf ns (j : Int) = (q.p, true) := by
        have hk : ((j : Int) != 0) = true := by simpa using h0
        unfold parentOf
        rw [hb, hk]
        simp [hq]
      rw [hp]
      clear hp
      rw [hb] at cH
      obtain ⟨e1, e2, e3, e4⟩ := hat j q hq
      clear hb hq hat
      generalize hl : ns.length = n at *
      go_enter Tryd.func52, Tryd.ntmps52
      go_wp2_with (go_at_call 69; refine cH.mono ?_; rintro e w' ⟨rfl, rfl⟩)
      go_ret2
      exact ⟨rfl, rfl⟩
end Go.Proofs.YtbldeiejlebbiaaDoor.T

/-
  Push on a tree where nothing is added: a refusal, or a step that is known.
-/
set_option linter.unusedVariables false
namespace Go.Proofs.YtbldeiejlebbiaaDoor.T
open Go Go.Lib Go.RowKit

theorem grown_of_below {w w' : World} (hb : Below w.heap.size w w') : w.grownBy w' none := ⟨hb.os, hb.tape, hb.output, hb.size, fun j hj _ => hb.block j hj⟩
theorem TreeAt.below {B : Nat} {w w' : World} {T : Nat} {v : Value} {m : Nat} {ns : List Nd} (h : TreeAt B w T v m ns) (hb : Below w.heap.size w w') : TreeAt B w' T v m ns where
  blk := by rw [hb.block T h.lt]; exact h.blk
  row := h.row.kept (grown_of_below hb) (by cases hv : v.ownBlock <;> simp)
  map := h.map.grown (grown_of_below hb) (by simp)
  lo := h.lo
  ok := h.ok
  few := h.few


set_option maxRecDepth 100000 in
set_option maxHeartbeats 4000000 in
theorem Push_arg {B : Nat} {T : Nat} {v : Value} {m : Nat} {ns : List Nd} (k : Int) (x : Pl) (w : World) (h : TreeAt B w T v m ns) (hb : hasB ns.length k = false) :
    Calls Tryd.prog 48 #[.pointer (some ⟨T, 0, none⟩), .int .i64 k, .agg #[.string x.n, .int .i64 x.k]] w fun e w' => e = .returned (.tuple #[.int .i64 0, .int .i64 1]) ∧ Below w.heap.size w w' := by
  have hlt := h.lt
  go_enter Tryd.func48, Tryd.ntmps48
  have hB1 : Below w.heap.size w (w.alloc (.cells #[.string x.n, .int .i64 x.k] 39)) := (Below.refl _ w).alloc (Nat.le_refl _) _
  have cH := has_in k _ (h.below hB1)
  rw [hb] at cH
  go_wp2_with (go_at_call 69; refine cH.mono ?_; rintro e w' ⟨rfl, rfl⟩)
  go_ret2
  exact ⟨rfl, hB1⟩
set_option maxRecDepth 100000 in
set_option maxHeartbeats 4000000 in
theorem Push_place {B : Nat} {T : Nat} {v : Value} {m : Nat} {ns : List Nd} (k : Int) (x : Pl) (hx : x.n.size ≤ 140737488351232) (w : World) (h : TreeAt B w T v m ns) (hb : hasB ns.length k = true) (hm : mayB x = false) :
    Calls Tryd.prog 48 #[.pointer (some ⟨T, 0, none⟩), .int .i64 k, .agg #[.string x.n, .int .i64 x.k]] w fun e w' => e = .returned (.tuple #[.int .i64 0, .int .i64 30]) ∧ Below w.heap.size w w' := by
  have hlt := h.lt
  go_enter Tryd.func48, Tryd.ntmps48
  have hB1 : Below w.heap.size w (w.alloc (.cells #[.string x.n, .int .i64 x.k] 39)) := (Below.refl _ w).alloc (Nat.le_refl _) _
  have cH := has_in k _ (h.below hB1)
  rw [hb] at cH
  have cM := mayBe_in x (by omega) (w.alloc (.cells #[.string x.n, .int .i64 x.k] 39))
  rw [hm] at cM
  go_wp2_with (first | (go_at_call 69; refine cH.mono ?_; rintro e w' ⟨rfl, rfl⟩) | (go_at_call 71; refine cM.mono ?_; rintro e w' ⟨rfl, hb2⟩))
  go_ret2
  exact ⟨rfl, hB1.trans (hb2.mono hB1.size)⟩
set_option maxRecDepth 100000 in
set_option maxHeartbeats 4000000 in
theorem Push_deep {B : Nat} {T : Nat} {v : Value} {m : Nat} {ns : List Nd} (j : Nat) (q : Nd) (x : Pl) (hx : x.n.size ≤ 140737488351232) (w : World) (h : TreeAt B w T v m ns) (hq : (zeroNd :: ns)[j]? = some q) (hm : mayB x = true) (hd : q.d = 64) :
    Calls Tryd.prog 48 #[.pointer (some ⟨T, 0, none⟩), .int .i64 (j : Int), .agg #[.string x.n, .int .i64 x.k]] w fun e w' => e = .returned (.tuple #[.int .i64 0, .int .i64 31]) ∧ Below w.heap.size w w' := by
  have hlt := h.lt
  have hj : j < ns.length + 1 := by have := (List.getElem?_eq_some_iff.1 hq).1; simpa using this
  go_enter Tryd.func48, Tryd.ntmps48
  have hB1 : Below w.heap.size w (w.alloc (.cells #[.string x.n, .int .i64 x.k] 39)) := (Below.refl _ w).alloc (Nat.le_refl _) _
  have cH := has_in (j : Int) _ (h.below hB1)
  rw [hasB_true hj] at cH
  have cM := mayBe_in x (by omega) (w.alloc (.cells #[.string x.n, .int .i64 x.k] 39))
  rw [hm] at cM
  obtain ⟨g, cap, rfl, _, _, hat⟩ := h.nodes
  obtain ⟨e1, e2, e3, e4⟩ := hat j q hq
  have c0 := h.c0
  have hn := h.few
  have hg : g < w.heap.size := by assumption
  rw [hd] at e4
  clear hat hq
  generalize hl : ns.length = n at *
  go_wp2_with (first | (go_at_call 69; refine cH.mono ?_; rintro e w' ⟨rfl, rfl⟩) | (go_at_call 71; refine cM.mono ?_; rintro e w' ⟨rfl, hb2⟩; have c0' := ((hB1.trans (hb2.mono hB1.size)).cell (p := ⟨T, 0, none⟩) hlt).trans c0; have e4' := ((hB1.trans (hb2.mono hB1.size)).cell (p := ⟨g, j * 4 + 3, none⟩) hg).trans e4))
  go_ret2
  exact ⟨rfl, hB1.trans (hb2.mono hB1.size)⟩
set_option maxRecDepth 100000 in
set_option maxHeartbeats 4000000 in
theorem Push_known {B : Nat} {T : Nat} {v : Value} {m : Nat} {ns : List Nd} (j i : Nat) (q : Nd) (x : Pl) (hx : x.n.size ≤ 140737488351232) (w : World) (h : TreeAt B w T v m ns) (hq : (zeroNd :: ns)[j]? = some q) (hm : mayB x = true) (hd : q.d ≠ 64)
    (hi : (ns.map stepOf)[i]? = some (j, x)) (ho : StOk (j, x)) :
    Calls Tryd.prog 48 #[.pointer (some ⟨T, 0, none⟩), .int .i64 (j : Int), .agg #[.string x.n, .int .i64 x.k]] w fun e w' => e = .returned (.tuple #[.int .i64 ((i : Int) + 1), .int .i64 0]) ∧ Below w.heap.size w w' := by
  have hlt := h.lt
  have hj : j < ns.length + 1 := by have := (List.getElem?_eq_some_iff.1 hq).1; simpa using this
  go_enter Tryd.func48, Tryd.ntmps48
  have hB1 : Below w.heap.size w (w.alloc (.cells #[.string x.n, .int .i64 x.k] 39)) := (Below.refl _ w).alloc (Nat.le_refl _) _
  have k0 : (w.alloc (.cells #[.string x.n, .int .i64 x.k] 39)).cell? ⟨w.heap.size, 0, none⟩ = some (.string x.n) := by simp
  have k1 : (w.alloc (.cells #[.string x.n, .int .i64 x.k] 39)).cell? ⟨w.heap.size, 1, none⟩ = some (.int .i64 x.k) := by simp
  have hz1 : (w.alloc (.cells #[.string x.n, .int .i64 x.k] 39)).heap.size = w.heap.size + 1 := by simp
  have cH := has_in (j : Int) _ (h.below hB1)
  rw [hasB_true hj] at cH
  have cM := mayBe_in x (by omega) (w.alloc (.cells #[.string x.n, .int .i64 x.k] 39))
  rw [hm] at cM
  obtain ⟨g, cap, rfl, _, _, hat⟩ := h.nodes
  obtain ⟨e1, e2, e3, e4⟩ := hat j q hq
  have c0 := h.c0
  have c1 := h.c1
  have hn := h.few
  have hg : g < w.heap.size := by assumption
  have hdd : ((q.d : Int) == 64) = false := by simp; omega
  clear hat hq
  generalize hl : ns.length = n at *
  go_wp2_with (first | (go_at_call 69; refine cH.mono ?_; rintro e w' ⟨rfl, rfl⟩) | (go_at_call 71; refine cM.mono ?_; rintro e w' ⟨rfl, hb2⟩; have hB2 := hB1.trans (hb2.mono hB1.size); have c0' := (hB2.cell (p := ⟨T, 0, none⟩) hlt).trans c0; have c1' := (hB2.cell (p := ⟨T, 1, none⟩) hlt).trans c1; have e4' := (hB2.cell (p := ⟨g, j * 4 + 3, none⟩) hg).trans e4; have hFd := (h.below hB2.drew).map.found hi ho; unfold stV at hFd; have k0' := (hb2.cell (p := ⟨w.heap.size, 0, none⟩) (by rw [hz1]; exact Nat.lt_succ_self _)).trans k0; have k1' := (hb2.cell (p := ⟨w.heap.size, 1, none⟩) (by rw [hz1]; exact Nat.lt_succ_self _)).trans k1))
  go_region
  go_wp2
  go_ret2
  exact ⟨rfl, (hB1.trans (hb2.mono hB1.size)).drew⟩
end Go.Proofs.YtbldeiejlebbiaaDoor.T

/-
  Push on a tree that is full, or that takes a new node.
-/
set_option linter.unusedVariables false
namespace Go.Proofs.YtbldeiejlebbiaaDoor.T
open Go Go.Lib Go.RowKit

set_option maxRecDepth 100000 in
set_option maxHeartbeats 4000000 in
theorem Push_full {B : Nat} {T : Nat} {v : Value} {m : Nat} {ns : List Nd} (j : Nat) (q : Nd) (x : Pl) (hx : x.n.size ≤ 140737488351232) (w : World) (h : TreeAt B w T v m ns) (hq : (zeroNd :: ns)[j]? = some q) (hm : mayB x = true) (hd : q.d ≠ 64)
    (hi : (j, x) ∉ ns.map stepOf) (ho : StOk (j, x)) (hful : ns.length = 4095) :
    Calls Tryd.prog 48 #[.pointer (some ⟨T, 0, none⟩), .int .i64 (j : Int), .agg #[.string x.n, .int .i64 x.k]] w fun e w' => e = .returned (.tuple #[.int .i64 0, .int .i64 3]) ∧ Below w.heap.size w w' := by
  have hlt := h.lt
  have hj : j < ns.length + 1 := by have := (List.getElem?_eq_some_iff.1 hq).1; simpa using this
  go_enter Tryd.func48, Tryd.ntmps48
  have hB1 : Below w.heap.size w (w.alloc (.cells #[.string x.n, .int .i64 x.k] 39)) := (Below.refl _ w).alloc (Nat.le_refl _) _
  have k0 : (w.alloc (.cells #[.string x.n, .int .i64 x.k] 39)).cell? ⟨w.heap.size, 0, none⟩ = some (.string x.n) := by simp
  have k1 : (w.alloc (.cells #[.string x.n, .int .i64 x.k] 39)).cell? ⟨w.heap.size, 1, none⟩ = some (.int .i64 x.k) := by simp
  have hz1 : (w.alloc (.cells #[.string x.n, .int .i64 x.k] 39)).heap.size = w.heap.size + 1 := by simp
  have cH := has_in (j : Int) _ (h.below hB1)
  rw [hasB_true hj] at cH
  have cM := mayBe_in x (by omega) (w.alloc (.cells #[.string x.n, .int .i64 x.k] 39))
  rw [hm] at cM
  obtain ⟨g, cap, rfl, _, _, hat⟩ := h.nodes
  obtain ⟨e1, e2, e3, e4⟩ := hat j q hq
  have c0 := h.c0
  have c1 := h.c1
  have hn := h.few
  have hg : g < w.heap.size := by assumption
  have hdd : ((q.d : Int) == 64) = false := by simp; omega
  clear hat hq
  generalize hl : ns.length = n at *
  subst hful
  go_wp2_with (first | (go_at_call 69; refine cH.mono ?_; rintro e w' ⟨rfl, rfl⟩) | (go_at_call 71; refine cM.mono ?_; rintro e w' ⟨rfl, hb2⟩; have hB2 := hB1.trans (hb2.mono hB1.size); have c0' := (hB2.cell (p := ⟨T, 0, none⟩) hlt).trans c0; have c1' := (hB2.cell (p := ⟨T, 1, none⟩) hlt).trans c1; have e4' := (hB2.cell (p := ⟨g, j * 4 + 3, none⟩) hg).trans e4; have hFd := (h.below hB2.drew).map.none hi ho; unfold stV at hFd; have k0' := (hb2.cell (p := ⟨w.heap.size, 0, none⟩) (by rw [hz1]; exact Nat.lt_succ_self _)).trans k0; have k1' := (hb2.cell (p := ⟨w.heap.size, 1, none⟩) (by rw [hz1]; exact Nat.lt_succ_self _)).trans k1))
  go_region
  have c0d : w'.drew.cell? ⟨T, 0, none⟩ = _ := c0'
  go_wp2
  go_ret2
  exact ⟨rfl, (hB1.trans (hb2.mono hB1.size)).drew⟩
end Go.Proofs.YtbldeiejlebbiaaDoor.T

/-
  Push on a tree that takes a new node.
-/
set_option linter.unusedVariables false
namespace Go.Proofs.YtbldeiejlebbiaaDoor.T
open Go Go.Lib Go.RowKit

theorem infoNode : (Tryd.prog.info? 102).map (fun i => (i.zero, i.size, i.bytes)) = some (some (.agg #[.int .i64 0, .string ⟨#[]⟩, .int .i64 0, .int .i64 0]), 4, 40) := by kernel_rfl
theorem cell4_new (W : World) (a b c d : Value) (t : TypeId) : ∀ j u, [a, b, c, d][j]? = some u → (W.alloc (.cells #[a, b, c, d] t)).cell? ((⟨W.heap.size, 0, none⟩ : Addr).add j) = some u := by
  intro j u hj
  have : ((⟨W.heap.size, 0, none⟩ : Addr).add j) = ⟨W.heap.size, j, none⟩ := by unfold Addr.add; split <;> simp_all
  rw [this, World.cell?_alloc_at _ _ _ _ rfl]
  simpa using hj
theorem node_run (B : Nat) (W : World) (v : Value) (k : Nat) (xs : List Value) (hrow : W.ownsRow B 102 4 v k xs) (p d : Nat) (x : Pl) (h63 : k ≤ 1000000) (hB : B ≤ W.heap.size) :
    ∃ v' w', (Builtin.append_ #[103, 103] 103 #[v, .slice (some ⟨W.heap.size, 0, none⟩) 1 1]).run Tryd.prog (W.alloc (.cells #[.int .i64 (p : Int), .string x.n, .int .i64 x.k, .int .i64 (d : Int)] 102)).drew = .ok v' w' ∧
      w'.ownsRow B 102 4 v' (k + 1) (xs ++ [.int .i64 (p : Int), .string x.n, .int .i64 x.k, .int .i64 (d : Int)]) ∧ W.grownBy w' v.ownBlock ∧ (v'.ownBlock = v.ownBlock ∨ v'.ownBlock = some (W.heap.size + 1)) := by
  obtain ⟨i0, hi, hz0, hz1, hz2⟩ := info_parts infoNode
  obtain ⟨v', w', h1, h2, h3, _, h5⟩ := run_append_own_at (P := Tryd.prog) (W.alloc (.cells #[.int .i64 (p : Int), .string x.n, .int .i64 x.k, .int .i64 (d : Int)] 102)).drew B 103 103 102 i0 _ 4 40 (by kernel_rfl) hi hz0 hz1 hz2 rfl (by decide) v k xs (World.ownsRow.alloc hrow _) ⟨W.heap.size, 0, none⟩ 1 1 [.int .i64 (p : Int), .string x.n, .int .i64 x.k, .int .i64 (d : Int)] rfl (cell4_new _ _ _ _ _ _) (by simp [Value.oneCell']) (by unfold maxLen; omega) (by omega) (by simp; omega)
  exact ⟨v', w', h1, h2, grown_of_alloc h3, by simpa using h5⟩

theorem row_heap4 {w : World} {B : Nat} {e : TypeId} {size n k : Nat} {g cap : Nat} {xs : List Value} (h : w.ownsRow B e size (.slice (some ⟨g, 0, none⟩) n cap) k xs) : ∃ cur, w.heap[g]? = some (.cells cur e (0, 0)) := by
  rcases h.2 with ⟨h0, _⟩ | ⟨g', cap', cur, hv, _, hg, _⟩
  · cases h0
  · cases hv; exact ⟨cur, hg⟩
theorem StMap.heap {w : World} {m : Nat} {ns : List (Nat × Pl)} (h : StMap w m ns) : ∃ es clock, w.heap[m]? = some (.map es clock) := by
  obtain ⟨D, ⟨es, clock, hb, _⟩, _⟩ := h
  exact ⟨es, clock, hb⟩
theorem grown_setCell (w : World) (T i : Nat) (u : Value) : w.grownBy (w.setCell ⟨T, i, none⟩ u) (some T) :=
  ⟨rfl, rfl, rfl, by simp, fun k hk hne => heap_setCell_other w _ k u (fun e => hne (by rw [e]))⟩
/-- a tree's new node, from the world in which its row has been grown -/
theorem TreeAt.push {B : Nat} {w w5 : World} {T m g cap g' cap' : Nat} {ns : List Nd} (h : TreeAt B w T (.slice (some ⟨g, 0, none⟩) (ns.length + 1) cap) m ns) (nd : Nd)
    (hrow : w5.ownsRow B 102 4 (.slice (some ⟨g', 0, none⟩) (ns.length + 1 + 1) cap') (ns.length + 1 + 1) (ndCs (zeroNd :: ns) ++ ndC nd)) (hg : w.grownBy w5 (some g))
    (hi : (nd.p, nd.x) ∉ ns.map stepOf) (ho : StOk (nd.p, nd.x)) (hd : nd.d ≤ 64) (hn : ns.length < 4095) :
    ∃ w7, (Instr.mapUpdate 104 (.map (some m)) (stV nd.p nd.x) (.int .i64 ((ns.length : Int) + 1))).run Tryd.prog (w5.setCell ⟨T, 0, none⟩ (.slice (some ⟨g', 0, none⟩) (ns.length + 1 + 1) cap')).drew = .ok () w7 ∧
      TreeAt B w7 T (.slice (some ⟨g', 0, none⟩) (ns.length + 1 + 1) cap') m (ns ++ [nd]) ∧ w5.heap.size ≤ w7.heap.size ∧ (w7.os = w.os ∧ w7.tape = w.tape ∧ w7.output = w.output) ∧ ∀ b, b < w.heap.size → b ≠ g → b ≠ T → b ≠ m → w7.heap[b]? = w.heap[b]? := by
  obtain ⟨cur, hgc⟩ := row_heap4 h.row
  obtain ⟨cur', hgc'⟩ := row_heap4 hrow
  obtain ⟨es, ck, hmm⟩ := h.map.heap
  have hTg : T ≠ g := fun e => by
    have := h.blk
    rw [e, hgc] at this
    simp only [Option.some.injEq, Obj.cells.injEq] at this
    exact absurd this.2.1 (by decide)
  have hmg : m ≠ g := fun e => by rw [e, hgc] at hmm; cases hmm
  have hmT : m ≠ T := fun e => by rw [e, h.blk] at hmm; cases hmm
  have hT5 : w5.heap[T]? = some (.cells #[.slice (some ⟨g, 0, none⟩) (ns.length + 1) cap, .map (some m)] 106 (0, 0)) := (hg.block T h.lt (by simpa using hTg)).trans h.blk
  have hm5 : StMap w5 m (ns.map stepOf) := h.map.grown hg (by simpa using hmg)
  obtain ⟨es', ck', hmm5⟩ := hm5.heap
  have hTg' : T ≠ g' := fun e => by
    rw [e, hgc'] at hT5
    simp only [Option.some.injEq, Obj.cells.injEq] at hT5
    exact absurd hT5.2.1 (by decide)
  have hmg' : m ≠ g' := fun e => by rw [e, hgc'] at hmm5; cases hmm5
  have hg6 := grown_setCell w5 T 0 (.slice (some ⟨g', 0, none⟩) (ns.length + 1 + 1) cap')
  have hT6 := heap_setCell_same w5 T 0 _ _ (.slice (some ⟨g', 0, none⟩) (ns.length + 1 + 1) cap') hT5
  have hm6 := hm5.grown hg6 (by simpa using hmT)
  have hrow6 := hrow.kept hg6 (.inr (by simpa [Value.ownBlock] using fun e => hTg' e.symm))
  generalize (w5.setCell ⟨T, 0, none⟩ (.slice (some ⟨g', 0, none⟩) (ns.length + 1 + 1) cap')) = w6 at *
  have hm6d : StMap w6.drew m (ns.map stepOf) := hm6
  obtain ⟨w7, hr7, hm7, hg7⟩ := hm6d.store hi ho (fun q hq => by obtain ⟨n0, h0, rfl⟩ := List.mem_map.1 hq; exact (h.ok n0 h0).1) (by simp; omega)
  refine ⟨w7, by simpa using hr7, ⟨?_, ?_, ?_, h.lo, ?_, ?_⟩, ?_, ?_, ?_⟩
  · have hlt6 : T < w6.drew.heap.size := (Array.getElem?_eq_some_iff.1 hT6).1
    rw [hg7.block T hlt6 (by simpa using fun e => hmT e.symm)]
    have e6 : w6.heap[T]? = some (.cells #[.slice (some ⟨g', 0, none⟩) (ns.length + 1 + 1) cap', .map (some m)] 106 (0, 0)) := by simpa using hT6
    exact e6
  · have hrow6d : w6.drew.ownsRow B 102 4 (.slice (some ⟨g', 0, none⟩) (ns.length + 1 + 1) cap') (ns.length + 1 + 1) (ndCs (zeroNd :: ns) ++ ndC nd) := hrow6
    have := hrow6d.kept hg7 (.inr (by simpa [Value.ownBlock] using fun e => hmg' e.symm))
    rw [List.length_append, ← List.cons_append, ndCs_snoc]
    exact this
  · simpa [stepOf] using hm7
  · intro n0 h0
    rcases List.mem_append.1 h0 with h0 | h0
    · exact h.ok n0 h0
    · simp at h0; subst h0; exact ⟨ho, hd⟩
  · simp; omega
  · exact Nat.le_trans hg6.size hg7.size
  · exact ⟨hg7.os.trans (hg6.os.trans hg.os), hg7.tape.trans (hg6.tape.trans hg.tape), hg7.output.trans (hg6.output.trans hg.output)⟩
  · intro b hb h1 h2 h3
    have hb5 : b < w5.heap.size := Nat.lt_of_lt_of_le hb hg.size
    have hb6 : b < w6.heap.size := Nat.lt_of_lt_of_le hb5 hg6.size
    exact (hg7.block b hb6 (by simpa using h3)).trans ((hg6.block b hb5 (by simpa using h2)).trans (hg.block b hb (by simpa using h1)))

set_option maxRecDepth 100000 in
set_option maxHeartbeats 4000000 in
theorem Push_new {B : Nat} {T : Nat} {v : Value} {m : Nat} {ns : List Nd} (j : Nat) (q : Nd) (x : Pl) (hx : x.n.size ≤ 140737488351232) (w : World) (h : TreeAt B w T v m ns) (hq : (zeroNd :: ns)[j]? = some q) (hm : mayB x = true) (hd : q.d ≠ 64)
    (hi : (j, x) ∉ ns.map stepOf) (ho : StOk (j, x)) (hroom : ns.length < 4095) :
    Calls Tryd.prog 48 #[.pointer (some ⟨T, 0, none⟩), .int .i64 (j : Int), .agg #[.string x.n, .int .i64 x.k]] w fun e w' => e = .returned (.tuple #[.int .i64 ((ns.length : Int) + 1), .int .i64 0]) ∧ (∃ v', TreeAt B w' T v' m (ns ++ [⟨j, x, q.d + 1⟩]) ∧ (v'.ownBlock = v.ownBlock ∨ ∃ b, v'.ownBlock = some b ∧ w.heap.size ≤ b)) ∧ (w'.os = w.os ∧ w'.tape = w.tape ∧ w'.output = w.output) ∧ w.heap.size ≤ w'.heap.size ∧ ∀ b, b < w.heap.size → v.ownBlock ≠ some b → b ≠ T → b ≠ m → w'.heap[b]? = w.heap[b]? := by
  have hlt := h.lt
  have hj : j < ns.length + 1 := by have := (List.getElem?_eq_some_iff.1 hq).1; simpa using this
  go_enter Tryd.func48, Tryd.ntmps48
  have hB1 : Below w.heap.size w (w.alloc (.cells #[.string x.n, .int .i64 x.k] 39)) := (Below.refl _ w).alloc (Nat.le_refl _) _
  have k0 : (w.alloc (.cells #[.string x.n, .int .i64 x.k] 39)).cell? ⟨w.heap.size, 0, none⟩ = some (.string x.n) := by simp
  have k1 : (w.alloc (.cells #[.string x.n, .int .i64 x.k] 39)).cell? ⟨w.heap.size, 1, none⟩ = some (.int .i64 x.k) := by simp
  have hz1 : (w.alloc (.cells #[.string x.n, .int .i64 x.k] 39)).heap.size = w.heap.size + 1 := by simp
  have cH := has_in (j : Int) _ (h.below hB1)
  rw [hasB_true hj] at cH
  have cM := mayBe_in x (by omega) (w.alloc (.cells #[.string x.n, .int .i64 x.k] 39))
  rw [hm] at cM
  obtain ⟨g, cap, rfl, _, _, hat⟩ := h.nodes
  obtain ⟨e1, e2, e3, e4⟩ := hat j q hq
  have c0 := h.c0
  have c1 := h.c1
  have hn := h.few
  have hg : g < w.heap.size := by assumption
  have hdd : ((q.d : Int) == 64) = false := by simp; omega
  have hd64 : q.d ≤ 64 := by
    cases j with
    | zero => simp [zeroNd] at hq; subst hq; exact Nat.zero_le _
    | succ j => exact (h.ok q (List.mem_of_getElem? (by simpa using hq))).2
  clear hat hq
  generalize hl : ns.length = n at *
  go_wp2_with (first | (go_at_call 69; refine cH.mono ?_; rintro e w' ⟨rfl, rfl⟩) | (go_at_call 71; refine cM.mono ?_; rintro e w' ⟨rfl, hb2⟩; have hB2 := hB1.trans (hb2.mono hB1.size); have c0' := (hB2.cell (p := ⟨T, 0, none⟩) hlt).trans c0; have c1' := (hB2.cell (p := ⟨T, 1, none⟩) hlt).trans c1; have e4' := (hB2.cell (p := ⟨g, j * 4 + 3, none⟩) hg).trans e4; have hFd := (h.below hB2.drew).map.none hi ho; unfold stV at hFd; have k0' := (hb2.cell (p := ⟨w.heap.size, 0, none⟩) (by rw [hz1]; exact Nat.lt_succ_self _)).trans k0; have k1' := (hb2.cell (p := ⟨w.heap.size, 1, none⟩) (by rw [hz1]; exact Nat.lt_succ_self _)).trans k1))
  go_region
  have c0d : w'.drew.cell? ⟨T, 0, none⟩ = _ := c0'
  have cC := fun W => copied_in x hx W
  go_wp2_with (go_at_call 70; refine (cC _).mono ?_; rintro e w3 ⟨rfl, hb3⟩)
  have hsz3 : w'.heap.size ≤ w3.heap.size := hb3.size
  have hB3 : Below w.heap.size w w3 := hB2.drew.trans (hb3.mono hB2.size)
  have hB4 : Below w.heap.size w (w3.alloc (.cells #[.int .i64 (j : Int), .string x.n, .int .i64 x.k] 100)) := hB3.alloc hB3.size _
  have h4 := h.below hB4
  have d0 : (w3.alloc (.cells #[.int .i64 (j : Int), .string x.n, .int .i64 x.k] 100)).cell? ⟨w3.heap.size, 0, none⟩ = some (.int .i64 (j : Int)) := by simp
  have d1 : (w3.alloc (.cells #[.int .i64 (j : Int), .string x.n, .int .i64 x.k] 100)).cell? ⟨w3.heap.size, 1, none⟩ = some (.string x.n) := by simp
  have d2 : (w3.alloc (.cells #[.int .i64 (j : Int), .string x.n, .int .i64 x.k] 100)).cell? ⟨w3.heap.size, 2, none⟩ = some (.int .i64 x.k) := by simp
  have hz4 : (w3.alloc (.cells #[.int .i64 (j : Int), .string x.n, .int .i64 x.k] 100)).heap.size = w3.heap.size + 1 := by simp
  generalize (w3.alloc (.cells #[.int .i64 (j : Int), .string x.n, .int .i64 x.k] 100)) = w4 at *
  obtain ⟨v', w5, hrun, hrow5, hg5, hown5⟩ := node_run B w4 _ _ _ h4.row j (q.d + 1) x (by omega) (by have := h4.lo.1; have := h4.lt; omega)
  obtain ⟨g', cap', rfl, _⟩ := own_slice4 hrow5
  rw [hl] at hrun
  have c4 := h4.c0
  have c5 := h4.c1
  have f4 := h4.f0
  have hg5' : w4.grownBy w5 (some g) := by simpa [Value.ownBlock] using hg5
  have h4' : TreeAt B w4 T (.slice (some ⟨g, 0, none⟩) (ns.length + 1) cap) m ns := by rw [hl]; exact h4
  obtain ⟨w7, hr7, ht7, hz7, ho7, hk7⟩ := h4'.push ⟨j, x, q.d + 1⟩ (by rw [hl]; rw [hl] at hrow5; exact hrow5) hg5' hi ho (by simp only; omega) (by omega)
  have hTg : T ≠ g := fun e => by
    obtain ⟨cur, hgc⟩ := row_heap4 h4.row
    have := h4.blk
    rw [e, hgc] at this
    simp only [Option.some.injEq, Obj.cells.injEq] at this
    exact absurd this.2.1 (by decide)
  have hT5 : w5.heap[T]? = _ := (hg5'.block T h4.lt (by simpa using hTg)).trans h4.blk
  have c6 : w5.cell? ⟨T, 0, none⟩ = some (.slice (some ⟨g, 0, none⟩) (n + 1) cap) := by simp [World.cell?, hT5]
  have f6 : w5.frozen? ⟨T, 0, none⟩ = false := by simp [World.frozen?, hT5]
  have hx0 : (w5.setCell ⟨T, 0, none⟩ (.slice (some ⟨g', 0, none⟩) (n + 1 + 1) cap')).cell? ⟨T, 1, none⟩ = some (.map (some m)) := by
    rw [cell_other _ _ _ _ _ (by decide)]; simp [World.cell?, hT5]
  have hbk : ∀ o, (w5.setCell ⟨T, 0, none⟩ (.slice (some ⟨g', 0, none⟩) (n + 1 + 1) cap')).cell? ⟨w3.heap.size, o, none⟩ = w4.cell? ⟨w3.heap.size, o, none⟩ := fun o => by
    have hlt3 : w3.heap.size < w4.heap.size := by omega
    have n1 : w3.heap.size ≠ g := by have := hB3.size; omega
    have n2 : w3.heap.size ≠ T := by have := hB3.size; omega
    exact World.cell?_of_block ((heap_setCell_other w5 ⟨T, 0, none⟩ _ _ n2).trans (hg5'.block _ hlt3 (by simpa using n1)))
  have b0 := (hbk 0).trans d0
  have b1 := (hbk 1).trans d1
  have b2 := (hbk 2).trans d2
  rw [hl] at hr7
  unfold stV at hr7
  simp only at hr7
  rw [show ((q.d + 1 : Nat) : Int) = (q.d : Int) + 1 from by simp] at hrun hrow5
  have hwr : IntKind.i64.wrap ((q.d : Int) + 1) = (q.d : Int) + 1 := IntWalk.i64_in _ (by omega)
  have c4n : (w4.alloc (.cells #[.int .i64 (j : Int), .string x.n, .int .i64 x.k, .int .i64 ((q.d : Int) + 1)] 102)).drew.cell? ⟨T, 0, none⟩ = some (.slice (some ⟨g, 0, none⟩) (n + 1) cap) := (((Below.refl w4.heap.size w4).alloc (Nat.le_refl _) _).drew.cell (p := ⟨T, 0, none⟩) h4.lt).trans c4
  go_region_law (refine step_append_run rfl (.tmp 59) (.tmp 64) 103 rfl _ (.slice (some ⟨w4.heap.size, 0, none⟩) 1 1) (.slice (some ⟨g', 0, none⟩) (n + 1 + 1) cap') w5 (by simp [Act.eval]) (by simp [Act.eval]) hrun ?_)
  all_goals go_wp2
  all_goals
    go_region
    go_wp2
    go_ret2
    refine ⟨rfl, ⟨_, ht7, ?_⟩, ?_, ?_, ?_⟩
    · rcases hown5 with h5 | h5
      · exact .inl h5
      · exact .inr ⟨_, h5, by have := hB4.size; omega⟩
    · exact ⟨ho7.1.trans hB4.os, ho7.2.1.trans hB4.tape, ho7.2.2.trans hB4.output⟩
    · exact Nat.le_trans hB4.size (Nat.le_trans hg5'.size hz7)
    · intro b hb h1 h2 h3
      exact (hk7 b (Nat.lt_of_lt_of_le hb hB4.size) (fun e => h1 (by simp [Value.ownBlock, e])) h2 h3).trans (hB4.block b hb)
end Go.Proofs.YtbldeiejlebbiaaDoor.T
