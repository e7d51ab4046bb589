/-
  Rows of terms: a kind and a face each.
-/
import Derived.WalkKit
import Derived.ProofKit
import Derived.OpenShut
import Derived.Outline
import Derived.LoopTactic
import Derived.Laws.BytesArg
import Derived.Laws.NewBlocks
import Derived.Laws.OwnMore
import Derived.OwnWalk
import Derived.IntWalk
import Derived.Lib.Hide
import Derived.BigQuiet
import Derived.Deep.QuietTactic
import Derived.Deep.RegionWith
import Derived.Deep.RegionLaw
import Derived.RegionTactic
import Derived.WalkLawsBesides
import Derived.WalkSpells
import Derived.Maps.AppendAt
import Derived.KernelRfl
import Derived.Test.YtefmffofboddgaaGreatRows
set_option linter.unusedVariables false
namespace Go.Proofs.YtefmffofboddgaaGreat.T
open Go Go.Lib Go.RowKit

/-- a term as plain data -/
structure Tm where
  k : Int
  f : Int
deriving DecidableEq
def tmC (t : Tm) : List Value := [.int .u8 t.k, .int .u8 t.f]
def tmCs (l : List Tm) : List Value := l.flatMap tmC
theorem tmCs_snoc (l : List Tm) (t : Tm) : tmCs (l ++ [t]) = tmCs l ++ tmC t := by simp [tmCs]
theorem tmCs_at : ∀ (l : List Tm) (j : Nat) (t : Tm), l[j]? = some t → (tmCs l)[2 * j]? = some (.int .u8 t.k) ∧ (tmCs l)[2 * j + 1]? = some (.int .u8 t.f)
  | [], j, p, h => by simp at h
  | q :: l, 0, p, h => by
    simp at h; subst h
    exact ⟨rfl, rfl⟩
  | q :: l, j + 1, p, h => by
    have h' : l[j]? = some p := by simpa using h
    have ih := tmCs_at l j p h'
    have e : tmCs (q :: l) = .int .u8 q.k :: .int .u8 q.f :: tmCs l := rfl
    rw [e, show 2 * (j + 1) = 2 * j + 1 + 1 from by omega, show 2 * j + 1 + 1 + 1 = (2 * j + 1) + 1 + 1 from by omega]
    simpa using ih

/-- the cells from off on hold these terms -/
def TmAt (w : World) (bk off : Nat) (l : List Tm) : Prop := ∀ (j : Nat) (t : Tm), l[j]? = some t → w.cell? ⟨bk, off + j * 2, none⟩ = some (.int .u8 t.k) ∧ w.cell? ⟨bk, off + j * 2 + 1, none⟩ = some (.int .u8 t.f)
theorem TmAt.below {w w' : World} {B bk off : Nat} {l : List Tm} (h : TmAt w bk off l) (hb : Below B w w') (hk : bk < B) : TmAt w' bk off l := fun j p hj =>
  ⟨(hb.cell (p := ⟨bk, off + j * 2, none⟩) hk).trans (h j p hj).1, (hb.cell (p := ⟨bk, off + j * 2 + 1, none⟩) hk).trans (h j p hj).2⟩
theorem TmAt.take {w : World} {bk off : Nat} {l : List Tm} (h : TmAt w bk off l) (n : Nat) : TmAt w bk off (l.take n) := fun j p hj => h j p (by
  rw [List.getElem?_take] at hj
  split at hj
  · exact hj
  · cases hj)
/-- a slice that reads as these terms, in a block below B -/
def TmSl (B : Nat) (w : World) (v : Value) (l : List Tm) : Prop :=
  ∃ a c, v = .slice a l.length c ∧ l.length ≤ c ∧ c ≤ 9223372036854775807 ∧ (l ≠ [] → ∃ bk o, a = some ⟨bk, o, none⟩ ∧ bk < B ∧ TmAt w bk o l)
theorem TmSl.below {B B' : Nat} {w w' : World} {v : Value} {l : List Tm} (h : TmSl B w v l) (hb : Below B w w') (hB : B ≤ B') : TmSl B' w' v l := by
  obtain ⟨a, c, hv, h1, h2, h3⟩ := h
  refine ⟨a, c, hv, h1, h2, fun hne => ?_⟩
  obtain ⟨bk, o, ha, hk, hc⟩ := h3 hne
  exact ⟨bk, o, ha, by omega, hc.below hb hk⟩
theorem TmSl.split {B : Nat} {w : World} {v : Value} {l : List Tm} (h : TmSl B w v l) : ∃ a c, v = .slice a l.length c ∧ l.length ≤ c ∧ c ≤ 9223372036854775807 ∧ (l ≠ [] → ∃ bk o, a = some ⟨bk, o, none⟩ ∧ bk < B ∧ TmAt w bk o l) := h
/-- a row of the call's own -/
def TRow (e : TypeId) (B : Nat) (w : World) (v : Value) (l : List Tm) : Prop := w.ownsRow B e 2 v l.length (tmCs l)
theorem TRow.sl {e : TypeId} {B : Nat} {w : World} {v : Value} {l : List Tm} (h : TRow e B w v l) : TmSl w.heap.size w v l := by
  have h' : w.ownsRow B e 2 v l.length (tmCs l) := h
  obtain ⟨_, ⟨rfl, h0⟩ | ⟨g, cap, cur, rfl, hg0, hg1, hc1, hc2, hc3, hc4⟩⟩ := h
  · have : l = [] := List.eq_nil_of_length_eq_zero h0
    subst this
    exact ⟨none, 0, rfl, by simp, by omega, fun h => absurd rfl h⟩
  · unfold maxLen at hc2
    refine ⟨some ⟨g, 0, none⟩, cap, rfl, hc1, by omega, fun _ => ⟨g, 0, rfl, (Array.getElem?_eq_some_iff.1 hg1).1, fun j p hj => ?_⟩⟩
    have hat := tmCs_at l j p hj
    have hc := h'.cells (g := g) rfl
    have e1 := hc _ _ hat.1
    have e2 := hc _ _ hat.2
    have a1 : ((⟨g, 0, none⟩ : Addr).add (2 * j)) = ⟨g, 0 + j * 2, none⟩ := by
      unfold Addr.add; split <;> simp_all <;> omega
    have a2 : ((⟨g, 0, none⟩ : Addr).add (2 * j + 1)) = ⟨g, 0 + j * 2 + 1, none⟩ := by
      unfold Addr.add; split <;> simp_all <;> omega
    rw [a1] at e1
    rw [a2] at e2
    exact ⟨e1, e2⟩
theorem row_none {w w' : World} {base : Nat} {e : TypeId} {size : Nat} {v : Value} {n : Nat} {xs : List Value} (h : w.ownsRow base e size v n xs) (hg : w.grownBy w' none) : w'.ownsRow base e size v n xs := by
  refine h.kept hg ?_
  cases v.ownBlock with
  | none => exact .inl rfl
  | some g => exact .inr (by simp)
theorem below_grown {w w' : World} (h : Below w.heap.size w w') : w.grownBy w' none := ⟨h.os, h.tape, h.output, h.size, fun k hk _ => h.block k hk⟩
theorem grown_below {w w' : World} {B : Nat} {row : Option Nat} (hg : w.grownBy w' row) (hB : B ≤ w.heap.size) (hr : ∀ k, row = some k → B ≤ k) : Below B w w' := (Below.refl B w).grown hg hB hr
theorem TRow.below {e : TypeId} {B : Nat} {w w' : World} {v : Value} {l : List Tm} (h : TRow e B w v l) (hb : Below w.heap.size w w') : TRow e B w' v l := row_none h (below_grown hb)
theorem TRow.nil (e : TypeId) (B : Nat) (w : World) : TRow e B w (.slice none 0 0) [] := World.ownsRow_nil _ _ _ _
theorem more {w W W' : World} (hb : Below w.heap.size w W) (h : Below W.heap.size W W') : Below w.heap.size w W' := hb.trans (h.mono hb.size)
theorem cell2_new (W : World) (a b : Value) (t : TypeId) : ∀ j u, [a, b][j]? = some u → (W.alloc (.cells #[a, b] t)).cell? ((⟨W.heap.size, 0, none⟩ : Addr).add j) = some u := by
  intro j u hj
  have : ((⟨W.heap.size, 0, none⟩ : Addr).add j) = ⟨W.heap.size, j, none⟩ := by unfold Addr.add; split <;> simp_all
  rw [this, World.cell?_alloc_at _ _ _ _ rfl]
  simpa using hj
theorem cell3_new (W : World) (a b c : Value) (t : TypeId) : ∀ j u, [a, b, c][j]? = some u → (W.alloc (.cells #[a, b, c] t)).cell? ((⟨W.heap.size, 0, none⟩ : Addr).add j) = some u := by
  intro j u hj
  have : ((⟨W.heap.size, 0, none⟩ : Addr).add j) = ⟨W.heap.size, j, none⟩ := by unfold Addr.add; split <;> simp_all
  rw [this, World.cell?_alloc_at _ _ _ _ rfl]
  simpa using hj
theorem grown_of_alloc' {w w' : World} {o : Obj} {row : Option Nat} (h : (w.alloc o).grownBy w' row) : w.grownBy w' row :=
  ⟨h.os, h.tape, h.output, Nat.le_trans (by simp) h.size, fun k hk hne => (h.block k (by simp; omega) hne).trans (Below.heap_alloc w o k hk)⟩
theorem grown_of_alloc {w w' : World} {o : Obj} {row : Option Nat} (h : (w.alloc o).drew.grownBy w' row) : w.grownBy w' row := grown_of_alloc' (o := o) ⟨h.os, h.tape, h.output, h.size, h.block⟩
/-- an append within a region that draws its order, its run known -/
theorem step_append_run {P : Program} {ops : Array Oper} {o : Oper} {a : Act} {w : World} {K : Act → World → Prop} {Q : Exit → Act → World → Prop} {E : Prop}
    (hg : o.guard = none) (s x : Operand) (t : TypeId) (hop : o.op = Op.call { callee := Callee.builtin Builtin.append, args := #[s, x], argTypes := #[t, t] })
    (v u v' : Value) (w' : World) (hs : a.eval s = v) (hx : a.eval x = u) (hrun : (Builtin.append_ #[t, t] o.type #[v, u]).run P w = .ok v' w') (hK : K (a.put o.dst v') w') :
    if Region.wanted o (yielded ops a.tmps) = true then Oper.wp P o a w K Q else E := by
  have hw : Region.wanted o (yielded ops a.tmps) = true := by simp [Region.wanted, hg]
  rw [if_pos hw]
  unfold Oper.wp
  simp [execOp, hop, resolve, invoke, builtin, hs, hx, hrun, Result.andThen]
  exact hK
theorem info_parts {t : TypeId} {z : Value} {n b : Nat} (h : (Tryz.prog.info? t).map (fun i => (i.zero, i.size, i.bytes)) = some (some z, n, b)) : ∃ i, Tryz.prog.info? t = some i ∧ i.zero = some z ∧ i.size = n ∧ i.bytes = b := by
  obtain ⟨i, hi, h⟩ := Option.map_eq_some_iff.1 h
  simp at h
  exact ⟨i, hi, h.1, h.2.1, h.2.2⟩
theorem infoTerm : (Tryz.prog.info? 51).map (fun i => (i.zero, i.size, i.bytes)) = some (some (.agg #[.int .u8 0, .int .u8 0]), 2, 2) := by kernel_rfl
theorem infoAsk : (Tryz.prog.info? 38).map (fun i => (i.zero, i.size, i.bytes)) = some (some (.agg #[.int .u8 0, .int .u8 0]), 2, 2) := by kernel_rfl
theorem infoClause : (Tryz.prog.info? 53).map (fun i => (i.zero, i.size, i.bytes)) = some (some (.agg #[.slice none 0 0, .bool false, .int .i64 0]), 3, 40) := by kernel_rfl
theorem infoRowT : (Tryz.prog.info? 29).map (fun i => (i.zero, i.size, i.bytes)) = some (some (.agg #[.slice none 0 0, .bool false, .int .i64 0]), 3, 40) := by kernel_rfl
/-- one term behind a row, in whatever world the new term lies -/
theorem app_run {e sl : TypeId} (hu : Tryz.prog.underlying sl = some (.slice e)) (hinf : (Tryz.prog.info? e).map (fun i => (i.zero, i.size, i.bytes)) = some (some (.agg #[.int .u8 0, .int .u8 0]), 2, 2))
    (B : Nat) (W : World) (v : Value) (l : List Tm) (hrow : TRow e B W v l) (x : Tm) (h63 : l.length + 1 ≤ 5864062014800) (hB : B ≤ W.heap.size) (W1 : World)
    (hW1 : W1 = W.alloc (.cells #[.int .u8 x.k, .int .u8 x.f] e) ∨ W1 = (W.alloc (.cells #[.int .u8 x.k, .int .u8 x.f] e)).drew) :
    ∃ v' w', (Builtin.append_ #[sl, sl] sl #[v, .slice (some ⟨W.heap.size, 0, none⟩) 1 1]).run Tryz.prog W1 = .ok v' w' ∧ TRow e B w' v' (l ++ [x]) ∧ W.grownBy w' v.ownBlock := by
  obtain ⟨i0, hi, hz0, hz1, hz2⟩ := info_parts hinf
  have hsz : W1.heap.size = W.heap.size + 1 := by rcases hW1 with rfl | rfl <;> simp
  have hg1 : W.grownBy W1 none := by
    rcases hW1 with rfl | rfl
    · exact grown_of_alloc' (o := .cells #[.int .u8 x.k, .int .u8 x.f] e) ⟨rfl, rfl, rfl, Nat.le_refl _, fun _ _ _ => rfl⟩
    · exact grown_of_alloc (o := .cells #[.int .u8 x.k, .int .u8 x.f] e) ⟨rfl, rfl, rfl, Nat.le_refl _, fun _ _ _ => rfl⟩
  have hcell : ∀ j u, [Value.int .u8 x.k, Value.int .u8 x.f][j]? = some u → W1.cell? ((⟨W.heap.size, 0, none⟩ : Addr).add j) = some u := by
    rcases hW1 with rfl | rfl
    · exact cell2_new W _ _ e
    · exact cell2_new W _ _ e
  obtain ⟨v', w', h1, h2, h3, _⟩ := run_append_own (P := Tryz.prog) W1 B sl sl e i0 (.agg #[.int .u8 0, .int .u8 0]) 2 2 hu hi hz0 hz1 hz2 rfl (by decide) v l.length (tmCs l) (row_none hrow hg1) ⟨W.heap.size, 0, none⟩ 1 1 [.int .u8 x.k, .int .u8 x.f] rfl hcell
    (by intro x hx; rcases List.mem_cons.1 hx with rfl | hx
        · rfl
        · obtain rfl := List.mem_singleton.1 hx; rfl) (by unfold maxLen; omega) (by omega) (by omega)
  refine ⟨v', w', h1, ?_, ⟨h3.os.trans hg1.os, h3.tape.trans hg1.tape, h3.output.trans hg1.output, Nat.le_trans hg1.size h3.size, fun k hk hne => ?_⟩⟩
  · unfold TRow
    rw [tmCs_snoc, List.length_append]
    exact h2
  · exact (h3.block k (by omega) hne).trans (hg1.block k hk (by simp))
end Go.Proofs.YtefmffofboddgaaGreat.T
