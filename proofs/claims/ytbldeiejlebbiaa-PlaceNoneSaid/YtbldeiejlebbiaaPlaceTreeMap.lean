/-
  The map of a tree: which node a step leads to.
-/
import Derived.Test.YtbldeiejlebbiaaPlaceBase
import Derived.Maps.OwnSet
import Derived.DeepKeys4
import Derived.MapViews
import Derived.Lay
set_option linter.unusedVariables false
namespace Go.Proofs.Ytbldeiejlebbiaa.T
open Go Go.Lib Go.RowKit

theorem laidOutM : laidOutB Try.prog = true := by kernel_rfl
theorem rowStep : (46 : TypeId) < Try.prog.types.size := of_decide_eq_true (by kernel_rfl)
theorem deepStep : Try.prog.keyTypeAt (Try.prog.types.size + 1) 46 = true := by kernel_rfl
theorem wideStep : (match Try.prog.underlying 46 with | some (.array _ _) | some (.struct _) => true | _ => false) = true := by kernel_rfl
set_option maxRecDepth 100000 in
theorem keyedStep : Maps.Keyed Try.prog 46 := Maps.Keyed.of_law (deep_law_laid laidOutM (m := 3) (by omega) rowStep (by kernel_rfl) wideStep)
theorem stepFields : Try.prog.underlying 46 = some (.struct #[{ name := "parent", type := 3, offset := 0, embedded := false, tag := "", pkgPath := "errata/place", byteOffset := 0 }, { name := "place", type := 24, offset := 1, embedded := false, tag := "", pkgPath := "errata/place", byteOffset := 8 }]) := by kernel_rfl
theorem placeFields : Try.prog.underlying 24 = some (.struct #[{ name := "Name", type := 9, offset := 0, embedded := false, tag := "", pkgPath := "", byteOffset := 0 }, { name := "Line", type := 3, offset := 1, embedded := false, tag := "", pkgPath := "", byteOffset := 16 }]) := by kernel_rfl
/-- a step: the parent's number, and the place -/
def stV (p : Int) (x : Pl) : Value := .agg #[.int .i64 p, .string x.n, .int .i64 x.k]
/-- how a step's cells are told as a key's, over any program -/
theorem keyLits_step {P : Program} {ts tp ti tq : TypeId} {f0 f1 g0 g1 : Field} (h1 : P.underlying ts = some (.struct #[f0, f1])) (h2 : P.underlying tp = some (.struct #[g0, g1])) (h3 : P.underlying ti = some (.int .i64)) (h4 : P.underlying tq = some .string)
    (c1 : P.cellsOf ts = 3) (c2 : P.cellsOf tp = 2) (c3 : P.cellsOf ti = 1) (c4 : P.cellsOf tq = 1)
    (a0 : f0.offset = 0) (a1 : f1.offset = 1) (b0 : g0.offset = 0) (b1 : g1.offset = 1) (t0 : f0.type = ti) (t1 : f1.type = tp) (s0 : g0.type = tq) (s1 : g1.type = ti)
    (n0 : (f0.name != "_") = true) (n1 : (f1.name != "_") = true) (m0 : (g0.name != "_") = true) (m1 : (g1.name != "_") = true)
    (d : Nat) (p k : Int) (n : ByteArray) (hp : (Lit.int .i64 p).wf = true) (hk : (Lit.int .i64 k).wf = true) (hn : n.size ≤ maxLen) :
    P.keyLits (d + 1 + 1 + 1) ts [.int .i64 p, .string n, .int .i64 k] = some [.int .i64 p, .string n.data.toList, .int .i64 k] := by
  have ei : ∀ (e : Nat) (z : Int), (Lit.int .i64 z).wf = true → P.keyLits (e + 1) ti [.int .i64 z] = some [.int .i64 z] := fun e z hz => by
    unfold Program.keyLits; rw [h3]; simp [hz]
  have es : P.keyLits (d + 1) tq [.string n] = some [.string n.data.toList] := by
    unfold Program.keyLits; rw [h4]; simp [hn]
  have ep : P.keyLits (d + 1 + 1) tp [.string n, .int .i64 k] = some [.string n.data.toList, .int .i64 k] := by
    unfold Program.keyLits; rw [h2]
    simp [c2, c3, c4, b0, b1, s0, s1, m0, m1, es, ei d k hk]
  unfold Program.keyLits; rw [h1]
  simp [c1, c2, c3, a0, a1, t0, t1, n0, n1, ep, ei (d + 1) p hp]
theorem keyStep (p : Int) (x : Pl) (hp : (Lit.int .i64 p).wf = true) (hk : (Lit.int .i64 x.k).wf = true) (hn : x.n.size ≤ maxLen) : ∃ kl, keyOf Try.prog 46 (stV p x) = some kl := by
  have e1 : Try.prog.keyType 46 = true := deepStep
  have e2 : (stV p x).formed Try.prog 46 = true := by
    unfold stV Value.formed
    rw [stepFields]
    simp [show Try.prog.cellsOf 46 = 3 by kernel_rfl]
  have sz : Try.prog.types.size + 1 = (Try.prog.types.size - 2) + 1 + 1 + 1 := by
    have h : 3 ≤ Try.prog.types.size := of_decide_eq_true (by kernel_rfl)
    omega
  have hl := keyLits_step (P := Try.prog) stepFields placeFields (show Try.prog.underlying 3 = some (.int .i64) by kernel_rfl) (show Try.prog.underlying 9 = some .string by kernel_rfl) (by kernel_rfl) (by kernel_rfl) (by kernel_rfl) (by kernel_rfl) rfl rfl rfl rfl rfl rfl rfl rfl rfl rfl rfl rfl (Try.prog.types.size - 2) p x.k x.n hp hk hn
  rw [← sz] at hl
  have e3 : (stV p x).cells.toList = [.int .i64 p, .string x.n, .int .i64 x.k] := rfl
  refine ⟨.string (keyBytes [.int .i64 p, .string x.n.data.toList, .int .i64 x.k]), ?_⟩
  unfold keyOf
  rw [stepFields, e1, e2, e3, hl]
  rfl
theorem mapTy : Try.prog.underlying 50 = some (.map 46 3) := by kernel_rfl
theorem intTy : Try.prog.underlying 3 = some (.int .i64) := by kernel_rfl
theorem zeroInt (w : World) : (zeroValue 3).run Try.prog w = .ok (.int .i64 0) w := by kernel_rfl
theorem wf_small (n : Int) (h0 : -9223372036854775808 ≤ n) (h1 : n ≤ 9223372036854775807) : (Lit.int .i64 n).wf = true := by
  simp only [Lit.wf, IntKind.min, IntKind.max, IntKind.signed, IntKind.bits]
  simp
  omega
/-- a step that may be a key -/
def StOk (q : Nat × Pl) : Prop := q.1 ≤ 1000000 ∧ -9223372036854775808 ≤ q.2.k ∧ q.2.k ≤ 9223372036854775807 ∧ q.2.n.size ≤ 1000000
theorem StOk.key {q : Nat × Pl} (h : StOk q) : ∃ kl, keyOf Try.prog 46 (stV q.1 q.2) = some kl := by
  obtain ⟨h1, h2, h3, h4⟩ := h
  exact keyStep q.1 q.2 (wf_small _ (by omega) (by omega)) (wf_small _ h2 h3) (by unfold maxLen; omega)
theorem stV_inj {p p' : Nat} {x x' : Pl} (h : stV p x = stV p' x') : (p, x) = (p', x') := by
  unfold stV at h
  simp only [Value.agg.injEq, Array.mk.injEq, List.cons.injEq, Value.int.injEq, true_and, Value.string.injEq, and_true] at h
  obtain ⟨h1, h2, h3⟩ := h
  obtain ⟨n, k⟩ := x
  obtain ⟨n', k'⟩ := x'
  simp only at h2 h3
  subst h2 h3
  simp only [Prod.mk.injEq, and_true]
  omega
/-- block m is a map from the steps of the nodes 1, 2 .. to their numbers -/
def StMap (w : World) (m : Nat) (ns : List (Nat × Pl)) : Prop :=
  ∃ D : DataW Unit, w.ownsMap Try.prog 46 (plainElem Try.prog 3) m ns.length D ∧
    (∀ (i : Nat) q, ns[i]? = some q → ∀ kl, keyOf Try.prog 46 (stV q.1 q.2) = some kl → Maps.has D kl = true ∧ ∀ z, D.atKey kl z = .lit (.int .i64 ((i : Int) + 1))) ∧
    (∀ (p : Nat) (x : Pl), (p, x) ∉ ns → ∀ kl, keyOf Try.prog 46 (stV p x) = some kl → Maps.has D kl = false ∧ ∀ z, D.atKey kl z = z)
theorem StMap.lt {w : World} {m : Nat} {ns : List (Nat × Pl)} (h : StMap w m ns) : m < w.heap.size := by obtain ⟨D, h1, _⟩ := h; exact h1.lt
theorem StMap.grown {w w' : World} {m : Nat} {ns : List (Nat × Pl)} {row : Option Nat} (h : StMap w m ns) (hg : w.grownBy w' row) (hne : some m ≠ row) : StMap w' m ns := by
  obtain ⟨D, h1, h2, h3⟩ := h
  exact ⟨D, h1.kept hg hne, h2, h3⟩
theorem StMap.made (w : World) : StMap (w.alloc (.map #[] 0)) w.heap.size [] :=
  ⟨.map [], World.ownsMap_made _ _ _ _, fun i q h => by simp at h, fun p x _ kl _ => ⟨rfl, fun z => rfl⟩⟩
/-- a step that leads to a node is found -/
theorem StMap.found {w : World} {m : Nat} {ns : List (Nat × Pl)} (h : StMap w m ns) {i p : Nat} {x : Pl} (hi : ns[i]? = some (p, x)) (ho : StOk (p, x)) :
    (Instr.lookup 50 (.map (some m)) (stV p x) true).run Try.prog w = .ok (.tuple #[.int .i64 ((i : Int) + 1), .bool true]) w := by
  obtain ⟨D, h1, h2, h3⟩ := h
  obtain ⟨kl, hk⟩ := ho.key
  obtain ⟨ha, hb⟩ := h2 i _ hi kl hk
  obtain ⟨v, ps, hr, hv⟩ := h1.look_ok keyedStep mapTy (zeroInt w) (plainElem_int intTy (wf_small 0 (by omega) (by omega))) hk
  rw [hb] at hv
  obtain ⟨a, rfl, e, _⟩ := plainElem_int_inv intTy hv
  simp only [Prod.mk.injEq, DataW.lit.injEq, Lit.int.injEq, true_and] at e
  rw [hr, ha, e.1]
/-- another one is not -/
theorem StMap.none {w : World} {m : Nat} {ns : List (Nat × Pl)} (h : StMap w m ns) {p : Nat} {x : Pl} (hi : (p, x) ∉ ns) (ho : StOk (p, x)) :
    (Instr.lookup 50 (.map (some m)) (stV p x) true).run Try.prog w = .ok (.tuple #[.int .i64 0, .bool false]) w := by
  obtain ⟨D, h1, h2, h3⟩ := h
  obtain ⟨kl, hk⟩ := ho.key
  obtain ⟨ha, hb⟩ := h3 p x hi kl hk
  obtain ⟨v, ps, hr, hv⟩ := h1.look_ok keyedStep mapTy (zeroInt w) (plainElem_int intTy (wf_small 0 (by omega) (by omega))) hk
  rw [hb] at hv
  obtain ⟨a, rfl, e, _⟩ := plainElem_int_inv intTy hv
  simp only [Prod.mk.injEq, DataW.lit.injEq, Lit.int.injEq, true_and] at e
  rw [hr, ha, ← e.1]
/-- a new step, with the next number -/
theorem StMap.store {w : World} {m : Nat} {ns : List (Nat × Pl)} (h : StMap w m ns) {p : Nat} {x : Pl} (hi : (p, x) ∉ ns) (ho : StOk (p, x)) (hall : ∀ q ∈ ns, StOk q) (hn : ns.length ≤ 1000000) :
    ∃ w', (Instr.mapUpdate 50 (.map (some m)) (stV p x) (.int .i64 ((ns.length : Int) + 1))).run Try.prog w = .ok () w' ∧ StMap w' m (ns ++ [(p, x)]) ∧ w.grownBy w' (some m) := by
  obtain ⟨D, h1, h2, h3⟩ := h
  obtain ⟨kl, hk⟩ := ho.key
  obtain ⟨w', hr, h1', ht⟩ := h1.store keyedStep mapTy (by unfold maxLen; omega) hk (plainElem_int intTy (wf_small ((ns.length : Int) + 1) (by omega) (by omega)))
  have hlit := keyedStep.key hk
  have hm := h1.isMap
  have hother : ∀ (p' : Nat) (x' : Pl) kl', (p', x') ≠ (p, x) → keyOf Try.prog 46 (stV p' x') = some kl' → kl' ≠ kl := fun p' x' kl' hne hk' e => by
    subst e
    exact hne (stV_inj (keyedStep.inj hk' hk))
  refine ⟨w', hr, ⟨_, by rw [List.length_append, List.length_singleton]; exact h1', fun i q hq kl' hk' => ?_, fun p' x' hne kl' hk' => ?_⟩, ht.grown⟩
  · rcases Nat.lt_or_ge i ns.length with hl | hl
    · rw [List.getElem?_append_left hl] at hq
      have hne : q ≠ (p, x) := fun e => hi (e ▸ List.mem_of_getElem? hq)
      have hkn := hother q.1 q.2 kl' hne hk'
      obtain ⟨ha, hb⟩ := h2 i q hq kl' hk'
      exact ⟨by rw [Maps.has_put_other hkn]; exact ha, fun z => by rw [Maps.atKey_put_other hkn]; exact hb z⟩
    · rw [List.getElem?_append_right hl] at hq
      have hil : i - ns.length = 0 := by
        rcases Nat.eq_zero_or_pos (i - ns.length) with h | h
        · exact h
        · rw [List.getElem?_eq_none (by simp; omega)] at hq; cases hq
      rw [hil] at hq
      simp at hq
      subst hq
      obtain rfl : i = ns.length := by omega
      rw [hk] at hk'
      cases hk'
      exact ⟨Maps.has_put_same hm hlit _, fun z => Maps.atKey_put_same hm hlit _ z⟩
  · have hn1 : (p', x') ∉ ns := fun e => hne (List.mem_append_left _ e)
    have hn2 : (p', x') ≠ (p, x) := fun e => hne (by rw [e]; simp)
    have hkn := hother p' x' kl' hn2 hk'
    obtain ⟨ha, hb⟩ := h3 p' x' hn1 kl' hk'
    exact ⟨by rw [Maps.has_put_other hkn]; exact ha, fun z => by rw [Maps.atKey_put_other hkn]; exact hb z⟩
end Go.Proofs.Ytbldeiejlebbiaa.T
