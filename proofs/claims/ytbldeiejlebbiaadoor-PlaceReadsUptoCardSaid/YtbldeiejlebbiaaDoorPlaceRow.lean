/-
  Rows of places: a name and a line each.
-/
import Derived.WalkKit
import Derived.Outline
import Derived.Laws.BytesArg
import Derived.Laws.NewBlocks
import Derived.Laws.OwnMore
import Derived.OwnWalk
import Derived.IntWalk
import Derived.Lib.Hide
import Derived.BigQuiet
import Derived.Deep.QuietTactic
import Derived.Deep.RegionWith
import Derived.Deep.RegionLaw
import Derived.RegionTactic
import Derived.WalkLawsBesides
import Derived.Maps.AppendAt
import Derived.KernelRfl
import Derived.Test.YtbldeiejlebbiaaDoorProg
set_option linter.unusedVariables false
namespace Go.Proofs.YtbldeiejlebbiaaDoor.T
open Go Go.Lib Go.RowKit

/-- a place as plain data -/
structure Pl where
  n : ByteArray
  k : Int
def plC (p : Pl) : List Value := [.string p.n, .int .i64 p.k]
def plCs (l : List Pl) : List Value := l.flatMap plC
theorem plCs_snoc (l : List Pl) (p : Pl) : plCs (l ++ [p]) = plCs l ++ plC p := by simp [plCs]
theorem plCs_app (l m : List Pl) : plCs (l ++ m) = plCs l ++ plCs m := by simp [plCs]
theorem plCs_length : ∀ l : List Pl, (plCs l).length = l.length * 2
  | [] => rfl
  | p :: l => by
    have : plCs (p :: l) = plC p ++ plCs l := rfl
    rw [this, List.length_append, plCs_length l]; simp [plC]; omega
theorem plCs_at : ∀ (l : List Pl) (j : Nat) (p : Pl), l[j]? = some p → (plCs l)[2 * j]? = some (.string p.n) ∧ (plCs l)[2 * j + 1]? = some (.int .i64 p.k)
  | [], j, p, h => by simp at h
  | q :: l, 0, p, h => by
    simp at h; subst h
    exact ⟨rfl, rfl⟩
  | q :: l, j + 1, p, h => by
    have h' : l[j]? = some p := by simpa using h
    have ih := plCs_at l j p h'
    have e : plCs (q :: l) = .string q.n :: .int .i64 q.k :: plCs l := rfl
    rw [e, show 2 * (j + 1) = 2 * j + 1 + 1 from by omega, show 2 * j + 1 + 1 + 1 = (2 * j + 1) + 1 + 1 from by omega]
    simpa using ih

/-- the cells from off on hold these places -/
def PlAt (w : World) (bk off : Nat) (l : List Pl) : Prop := ∀ (j : Nat) (p : Pl), l[j]? = some p → w.cell? ⟨bk, off + j * 2, none⟩ = some (.string p.n) ∧ w.cell? ⟨bk, off + j * 2 + 1, none⟩ = some (.int .i64 p.k)
theorem PlAt.below {w w' : World} {B bk off : Nat} {l : List Pl} (h : PlAt w bk off l) (hb : Below B w w') (hk : bk < B) : PlAt w' bk off l := fun j p hj =>
  ⟨(hb.cell (p := ⟨bk, off + j * 2, none⟩) hk).trans (h j p hj).1, (hb.cell (p := ⟨bk, off + j * 2 + 1, none⟩) hk).trans (h j p hj).2⟩
theorem PlAt.take {w : World} {bk off : Nat} {l : List Pl} (h : PlAt w bk off l) (n : Nat) : PlAt w bk off (l.take n) := fun j p hj => h j p (by
  rw [List.getElem?_take] at hj
  split at hj
  · exact hj
  · cases hj)
theorem PlAt.drop {w : World} {bk off : Nat} {l : List Pl} (h : PlAt w bk off l) (n : Nat) : PlAt w bk (off + n * 2) (l.drop n) := fun j p hj => by
  rw [List.getElem?_drop] at hj
  have := h _ _ hj
  rw [show off + (n + j) * 2 = off + n * 2 + j * 2 from by omega] at this
  exact this
/-- a slice that reads as these places, in a block below B -/
def PlSl (B : Nat) (w : World) (v : Value) (l : List Pl) : Prop :=
  ∃ a c, v = .slice a l.length c ∧ l.length ≤ c ∧ c ≤ 9223372036854775807 ∧ (l ≠ [] → ∃ bk o, a = some ⟨bk, o, none⟩ ∧ bk < B ∧ PlAt w bk o l)
theorem PlSl.below {B B' : Nat} {w w' : World} {v : Value} {l : List Pl} (h : PlSl B w v l) (hb : Below B w w') (hB : B ≤ B') : PlSl B' w' v l := by
  obtain ⟨a, c, hv, h1, h2, h3⟩ := h
  refine ⟨a, c, hv, h1, h2, fun hne => ?_⟩
  obtain ⟨bk, o, ha, hk, hc⟩ := h3 hne
  exact ⟨bk, o, ha, by omega, hc.below hb hk⟩
/-- a row of the call's own -/
def PRow (e : TypeId) (B : Nat) (w : World) (v : Value) (l : List Pl) : Prop := w.ownsRow B e 2 v l.length (plCs l)
theorem PRow.sl {e : TypeId} {B : Nat} {w : World} {v : Value} {l : List Pl} (h : PRow e B w v l) : PlSl w.heap.size w v l := by
  have h' : w.ownsRow B e 2 v l.length (plCs l) := h
  obtain ⟨_, ⟨rfl, h0⟩ | ⟨g, cap, cur, rfl, hg0, hg1, hc1, hc2, hc3, hc4⟩⟩ := h
  · have : l = [] := List.eq_nil_of_length_eq_zero h0
    subst this
    exact ⟨none, 0, rfl, by simp, by omega, fun h => absurd rfl h⟩
  · unfold maxLen at hc2
    refine ⟨some ⟨g, 0, none⟩, cap, rfl, hc1, by omega, fun _ => ⟨g, 0, rfl, (Array.getElem?_eq_some_iff.1 hg1).1, fun j p hj => ?_⟩⟩
    have hat := plCs_at l j p hj
    have hc := h'.cells (g := g) rfl
    have e1 := hc _ _ hat.1
    have e2 := hc _ _ hat.2
    have a1 : ((⟨g, 0, none⟩ : Addr).add (2 * j)) = ⟨g, 0 + j * 2, none⟩ := by
      unfold Addr.add; split <;> simp_all <;> omega
    have a2 : ((⟨g, 0, none⟩ : Addr).add (2 * j + 1)) = ⟨g, 0 + j * 2 + 1, none⟩ := by
      unfold Addr.add; split <;> simp_all <;> omega
    rw [a1] at e1
    rw [a2] at e2
    exact ⟨e1, e2⟩
theorem PRow.base {e : TypeId} {B B' : Nat} {w : World} {v : Value} {l : List Pl} (h : PRow e B w v l) (hB : B' ≤ B) : PRow e B' w v l := by
  refine ⟨h.1, ?_⟩
  rcases h.2 with h' | ⟨g, cap, cur, h1, h2, h3⟩
  · exact .inl h'
  · exact .inr ⟨g, cap, cur, h1, by omega, h3⟩
theorem row_none {w w' : World} {base : Nat} {e : TypeId} {size : Nat} {v : Value} {n : Nat} {xs : List Value} (h : w.ownsRow base e size v n xs) (hg : w.grownBy w' none) : w'.ownsRow base e size v n xs := by
  refine h.kept hg ?_
  cases v.ownBlock with
  | none => exact .inl rfl
  | some g => exact .inr (by simp)
theorem below_grown {w w' : World} (h : Below w.heap.size w w') : w.grownBy w' none := ⟨h.os, h.tape, h.output, h.size, fun k hk _ => h.block k hk⟩
theorem PRow.below {e : TypeId} {B : Nat} {w w' : World} {v : Value} {l : List Pl} (h : PRow e B w v l) (hb : Below w.heap.size w w') : PRow e B w' v l := row_none h (below_grown hb)
theorem below_drewN {B : Nat} {a w : World} (h : Below B a w) (n : Nat) : Below B a (w.drewN n) := h.trans ⟨rfl, rfl, rfl, Nat.le_refl _, fun _ _ => rfl⟩
theorem PRow.nil (e : TypeId) (B : Nat) (w : World) : PRow e B w (.slice none 0 0) [] := World.ownsRow_nil _ _ _ _
theorem cell2_new (W : World) (a b : Value) (t : TypeId) : ∀ j u, [a, b][j]? = some u → (W.alloc (.cells #[a, b] t)).cell? ((⟨W.heap.size, 0, none⟩ : Addr).add j) = some u := by
  intro j u hj
  have : ((⟨W.heap.size, 0, none⟩ : Addr).add j) = ⟨W.heap.size, j, none⟩ := by unfold Addr.add; split <;> simp_all
  rw [this, World.cell?_alloc_at _ _ _ _ rfl]
  simpa using hj
theorem grown_of_alloc' {w w' : World} {o : Obj} {row : Option Nat} (h : (w.alloc o).grownBy w' row) : w.grownBy w' row :=
  ⟨h.os, h.tape, h.output, Nat.le_trans (by simp) h.size, fun k hk hne => (h.block k (by simp; omega) hne).trans (Below.heap_alloc w o k hk)⟩
theorem grown_of_alloc {w w' : World} {o : Obj} {row : Option Nat} (h : (w.alloc o).drew.grownBy w' row) : w.grownBy w' row := grown_of_alloc' (o := o) ⟨h.os, h.tape, h.output, h.size, h.block⟩
/-- an append within a region that draws its order, its run known -/
theorem step_append_run {P : Program} {ops : Array Oper} {o : Oper} {a : Act} {w : World} {K : Act → World → Prop} {Q : Exit → Act → World → Prop} {E : Prop}
    (hg : o.guard = none) (s x : Operand) (t : TypeId) (hop : o.op = Op.call { callee := Callee.builtin Builtin.append, args := #[s, x], argTypes := #[t, t] })
    (v u v' : Value) (w' : World) (hs : a.eval s = v) (hx : a.eval x = u) (hrun : (Builtin.append_ #[t, t] o.type #[v, u]).run P w = .ok v' w') (hK : K (a.put o.dst v') w') :
    if Region.wanted o (yielded ops a.tmps) = true then Oper.wp P o a w K Q else E := by
  have hw : Region.wanted o (yielded ops a.tmps) = true := by simp [Region.wanted, hg]
  rw [if_pos hw]
  unfold Oper.wp
  simp [execOp, hop, resolve, invoke, builtin, hs, hx, hrun, Result.andThen]
  exact hK
theorem info_parts {t : TypeId} {z : Value} {n b : Nat} (h : (Tryd.prog.info? t).map (fun i => (i.zero, i.size, i.bytes)) = some (some z, n, b)) : ∃ i, Tryd.prog.info? t = some i ∧ i.zero = some z ∧ i.size = n ∧ i.bytes = b := by
  obtain ⟨i, hi, h⟩ := Option.map_eq_some_iff.1 h
  simp at h
  exact ⟨i, hi, h.1, h.2.1, h.2.2⟩
theorem infoOwn : (Tryd.prog.info? 39).map (fun i => (i.zero, i.size, i.bytes)) = some (some (.agg #[.string ⟨#[]⟩, .int .i64 0]), 2, 24) := by kernel_rfl
theorem infoRef : (Tryd.prog.info? 96).map (fun i => (i.zero, i.size, i.bytes)) = some (some (.agg #[.string ⟨#[]⟩, .int .i64 0]), 2, 24) := by kernel_rfl
/-- what one place behind a row comes to -/
theorem app_run {e sl : TypeId} (hu : Tryd.prog.underlying sl = some (.slice e)) (hinf : (Tryd.prog.info? e).map (fun i => (i.zero, i.size, i.bytes)) = some (some (.agg #[.string ⟨#[]⟩, .int .i64 0]), 2, 24))
    (B : Nat) (W : World) (v : Value) (l : List Pl) (hrow : PRow e B W v l) (x : Pl) (h63 : l.length + 1 ≤ 5864062014800) (hB : B ≤ W.heap.size) :
    ∃ v' w', (Builtin.append_ #[sl, sl] sl #[v, .slice (some ⟨W.heap.size, 0, none⟩) 1 1]).run Tryd.prog (W.alloc (.cells #[.string x.n, .int .i64 x.k] e)).drew = .ok v' w' ∧ PRow e B w' v' (l ++ [x]) ∧ W.grownBy w' v.ownBlock := by
  obtain ⟨i0, hi, hz0, hz1, hz2⟩ := info_parts hinf
  obtain ⟨v', w', h1, h2, h3, _⟩ := run_append_own (P := Tryd.prog) (W.alloc (.cells #[.string x.n, .int .i64 x.k] e)).drew B sl sl e i0 (.agg #[.string ⟨#[]⟩, .int .i64 0]) 2 24 hu hi hz0 hz1 hz2 rfl (by decide) v l.length (plCs l) (World.ownsRow.alloc hrow _) ⟨W.heap.size, 0, none⟩ 1 1 [.string x.n, .int .i64 x.k] rfl (cell2_new _ _ _ _) (by simp [Value.oneCell']) (by unfold maxLen; omega) (by omega) (by simp; omega)
  refine ⟨v', w', h1, ?_, grown_of_alloc h3⟩
  unfold PRow
  rw [plCs_snoc, List.length_append]
  exact h2
theorem app_run0 {e sl : TypeId} (hu : Tryd.prog.underlying sl = some (.slice e)) (hinf : (Tryd.prog.info? e).map (fun i => (i.zero, i.size, i.bytes)) = some (some (.agg #[.string ⟨#[]⟩, .int .i64 0]), 2, 24))
    (B : Nat) (W : World) (v : Value) (l : List Pl) (hrow : PRow e B W v l) (x : Pl) (h63 : l.length + 1 ≤ 5864062014800) (hB : B ≤ W.heap.size) :
    ∃ v' w', (Builtin.append_ #[sl, sl] sl #[v, .slice (some ⟨W.heap.size, 0, none⟩) 1 1]).run Tryd.prog (W.alloc (.cells #[.string x.n, .int .i64 x.k] e)) = .ok v' w' ∧ PRow e B w' v' (l ++ [x]) ∧ W.grownBy w' v.ownBlock := by
  obtain ⟨i0, hi, hz0, hz1, hz2⟩ := info_parts hinf
  obtain ⟨v', w', h1, h2, h3, _⟩ := run_append_own (P := Tryd.prog) (W.alloc (.cells #[.string x.n, .int .i64 x.k] e)) B sl sl e i0 (.agg #[.string ⟨#[]⟩, .int .i64 0]) 2 24 hu hi hz0 hz1 hz2 rfl (by decide) v l.length (plCs l) (World.ownsRow.alloc hrow _) ⟨W.heap.size, 0, none⟩ 1 1 [.string x.n, .int .i64 x.k] rfl (cell2_new _ _ _ _) (by simp [Value.oneCell']) (by unfold maxLen; omega) (by omega) (by simp; omega)
  refine ⟨v', w', h1, ?_, grown_of_alloc' h3⟩
  unfold PRow
  rw [plCs_snoc, List.length_append]
  exact h2
theorem PRow.grown {e : TypeId} {B : Nat} {w w' W : World} {v : Value} {l : List Pl} (h : PRow e B w v l) (hb : Below B W w) (hg : w.grownBy w' v.ownBlock) (hB : B ≤ w.heap.size) : Below B W w' := hb.grown hg hB (fun j hj => (World.ownsRow.lt h j hj).1)
end Go.Proofs.YtbldeiejlebbiaaDoor.T
