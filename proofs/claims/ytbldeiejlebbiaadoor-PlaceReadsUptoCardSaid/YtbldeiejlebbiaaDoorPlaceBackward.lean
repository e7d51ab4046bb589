/-
  slices.Backward over places: the iterator, for every loop body.
-/
import Derived.RangeFuncNested
import Derived.RangeFuncBound
import Derived.RangeFuncCalls
import Derived.RangeFuncLeaves
import Derived.RangeFuncBox
import Derived.Shelf.Abstract
import Derived.Shelf.RegionOpen
import Derived.OwnWalkIn
import Derived.TacticsInMore
import Derived.LoopNIn
import Derived.LoopIn
import Derived.Lib.OthersKept
import Derived.Test.YtbldeiejlebbiaaDoorPlaceBuilder
set_option linter.unusedVariables false
namespace Go.Proofs.YtbldeiejlebbiaaDoor.T
open Go Go.Lib Go.RowKit Go.Shelf
attribute [local go_sem] Oper.semAt_some

theorem Backward_in (n : Nat) (p : Option Addr) (k c : Nat) (w : World) :
    CallsIn Fence.wide n Tryd.prog 61 #[.slice p k c] w fun e w' => e = .returned (.func (.func 76) #[] #[.pointer (some ⟨w.heap.size, 0, none⟩)]) ∧ w' = w.alloc (.cells #[.slice p k c] 23) := by
  refine callsIn_of_wp Tryd.func61 rfl trivial ?_ rfl
  simp only [Tryd.ntmps61, List.size_toArray, List.length_cons, List.length_nil, Nat.reduceAdd, Nat.reduceSub, Array.replicate_succ, Array.replicate_zero, List.push_toArray, List.append_toArray, List.nil_append, List.cons_append]
  gi_wp2
  go_ret
  exact ⟨rfl, rfl⟩

/-- one place of l with its number -/
abbrev Pk (l : List Pl) := { x : Nat × Pl // l[x.1]? = some x.2 }
def vals {l : List Pl} (ys : List (Pk l)) : List (Nat × Pl) := ys.map (·.1)
theorem vals_snoc {l : List Pl} (ys : List (Pk l)) (x : Pk l) : vals (ys ++ [x]) = vals ys ++ [x.1] := by simp [vals]
/-- the k first of l, from the last on -/
def dn (l : List Pl) : Nat → List (Nat × Pl)
  | 0 => []
  | k + 1 => (k, l.getD k ⟨⟨#[]⟩, 0⟩) :: dn l k
theorem dn_length (l : List Pl) : ∀ k, (dn l k).length = k
  | 0 => rfl
  | k + 1 => by rw [dn, List.length_cons, dn_length l k]
abbrev encPk {l : List Pl} (x : Pk l) : Array Value := #[.int .i64 x.1.1, .agg #[.string x.1.2.n, .int .i64 x.1.2.k]]
def KpB (n₀ Bs : Nat) (v : Value) (W W' : World) : Prop := Below n₀ W W' ∧ KeepsWalks W W' ∧ (Boxed W Bs 23 v → Boxed W' Bs 23 v)
theorem KpB.t {n₀ Bs : Nat} {v : Value} {A B C : World} (h : KpB n₀ Bs v A B) (k : KpB n₀ Bs v B C) : KpB n₀ Bs v A C := ⟨h.1.trans k.1, h.2.1.trans k.2.1, fun c => k.2.2 (h.2.2 c)⟩
theorem KpB.b {n₀ Bs : Nat} {v : Value} {w : World} (hn : n₀ ≤ w.heap.size) (W : World) (l : Nat) (o o' : Obj) (hl : w.heap.size ≤ l) (h : W.heap[l]? = some o) (hc : o.isCells = false) (hw : o.isWalk = false) : KpB n₀ Bs v W (W.putObj l o') :=
  ⟨belowK_b hn W l o o' hl h hc hw, walksK_b (w := w) W l o o' hl h hc hw, fun c => c.kept (grownBy_putObj' W l o') (fun e => by
    have e' : l = Bs := (Option.some.inj e).symm
    subst e'
    have : W.heap[l]? = some (.cells #[v] 23 (0, 0)) := c
    rw [h] at this
    cases Option.some.inj this
    cases hc)⟩

set_option maxRecDepth 100000 in
set_option maxHeartbeats 2000000 in
theorem back1_in (n : Nat) (hn : 1 ≤ n) (q Bs n₀ : Nat) (l : List Pl) (hl : l.length ≤ 5864062014700) (v : Value) (J Jx : List (Pk l) → World → Prop)
    (hY : ∀ pre x W, J pre W → pre.length < l.length → YieldAt Fence.wide (n - 1) Tryd.prog q (encPk x) W fun e W' =>
      (e = .returned (.bool true) ∧ J (pre ++ [x]) W' ∧ KpB n₀ Bs v W W') ∨ (e = .returned (.bool false) ∧ Jx (pre ++ [x]) W'))
    (W : World) (hv : PlSl n₀ W v l) (hn₀ : n₀ ≤ W.heap.size) (hc : Boxed W Bs 23 v) (h0 : J [] W) :
    CallsIn Fence.wide n Tryd.prog 76 #[.func (.yield q) #[] #[], .pointer (some ⟨Bs, 0, none⟩)] W fun e W' => (∃ v, e = .returned v) ∧
      ((∃ ys, vals ys = dn l l.length ∧ J ys W') ∨ (∃ pre, vals pre <+: dn l l.length ∧ Jx pre W')) := by
  obtain ⟨a, c, rfl, hc1, hc2, hcells⟩ := hv
  refine callsIn_of_wp Tryd.func76 rfl trivial ?_ rfl
  simp only [Tryd.ntmps76, List.size_toArray, List.length_cons, List.length_nil, Nat.reduceAdd, Nat.reduceSub, Array.replicate_succ, Array.replicate_zero, List.push_toArray, List.append_toArray, List.nil_append, List.cons_append]
  have hcc := hc.cell
  gi_wp2
  gi_loopw [3] (fun i wr => ∃ (k : Nat) (pre : List (Pk l)), k ≤ l.length ∧ i = .int .i64 ((k : Int) - 1) ∧ vals pre ++ dn l k = dn l l.length ∧ Below n₀ W wr ∧ J pre wr ∧ Boxed wr Bs 23 (.slice a l.length c))
    (fun i _ => (RowKit.intOf i + 1).toNat)
  case atStart => exact ⟨l.length, [], Nat.le_refl _, rfl, rfl, Below.refl _ _, h0, hc⟩
  case round =>
    obtain ⟨k, pre, hk, rfl, hpre, hbw, hJs, hbx⟩ := hrel
    have hcr := hbx.cell
    cases k with
    | zero =>
      have hN : decide (((0 : Nat) : Int) - 1 ≥ 0) = false := by decide
      gi_wp2
      go_end0
      refine ⟨⟨_, rfl⟩, .inl ⟨pre, ?_, hJs⟩⟩
      rw [dn, List.append_nil] at hpre
      exact hpre
    | succ j =>
      have ej : (((j + 1 : Nat) : Int) - 1) = (j : Int) := by omega
      rw [ej]
      obtain ⟨bk, o, rfl, hbk, hat⟩ := hcells (by intro e; subst e; simp at hk)
      have hx : l[j]? = some l[j] := List.getElem?_eq_getElem (by omega)
      have hat2 := (hat.below hbw hbk) j _ hx
      have hdn : dn l (j + 1) = (j, l[j]) :: dn l j := by
        rw [dn]
        congr 2
        simp [List.getD, hx]
      have c1 := hat2.1
      have c2 := hat2.2
      rw [hdn] at hpre
      have hlen : pre.length < l.length := by
        have := congrArg List.length hpre
        rw [List.length_append, dn_length] at this
        simp [vals] at this
        omega
      obtain ⟨x, hx1⟩ : ∃ x : Pk l, x.1 = (j, l[j]) := ⟨⟨(j, l[j]), hx⟩, rfl⟩
      have hnext : vals (pre ++ [x]) ++ dn l j = dn l l.length := by rw [vals_snoc, hx1, ← hpre]; simp
      have HN := Lib.hid hnext
      obtain ⟨fn, tmps, assign, body, hy, hR⟩ := hY pre x wr hJs hlen
      dsimp only [encPk] at hy
      rw [hx1] at hy
      dsimp only at hy
      clear hat hat2 hdn hpre hnext hx hx1 hcells
      generalize l[j] = z at *
      have hpfx : vals (pre ++ [x]) <+: dn l l.length := ⟨_, HN.out⟩
      have HP := Lib.hid hpfx
      clear hpfx
      generalize hLL : l.length = L at *
      have hN : decide ((j : Int) ≥ 0) = true := by simp
      have hjL : j < L := by omega
      gi_wp2
      refine hR.mono ?_
      rintro e W3 (⟨rfl, hJ3, hk3⟩ | ⟨rfl, hJx3⟩)
      · gi_wp2
        go_roundw
        case rel => exact ⟨j, pre ++ [x], by omega, by go_num, HN.out, hbw.trans hk3.1, hJ3, hk3.2.2 hbx⟩
        case measure => simp [RowKit.intOf]
      · gi_wp2
        refine bodyPost_ret (results_none rfl _ _ _) rfl ?_
        exact ⟨⟨_, rfl⟩, .inr ⟨pre ++ [x], by rw [hLL]; exact HP.out, hJx3⟩⟩
/-- Backward HANDS BACK A VALUE THAT TELLS l FROM THE LAST ON, for every loop body that keeps what lay below n₀ -/
theorem back_stops (n : Nat) (hn : 1 ≤ n) (Bs n₀ : Nat) (l : List Pl) (hl : l.length ≤ 5864062014700) (v : Value) (w : World) (hv : PlSl n₀ w v l) (hn₀ : n₀ ≤ w.heap.size) (hBs : Bs < w.heap.size) (hc : Boxed w Bs 23 v) :
    SeqStopsK Fence.wide n Tryd.prog 76 #[.pointer (some ⟨Bs, 0, none⟩)] (encPk (l := l)) (KpB n₀ Bs v) (fun ys => vals ys = dn l l.length) (fun pre => vals pre <+: dn l l.length) l.length w := fun q J Jx W hW hJ _ hY h0 =>
  back1_in n hn q Bs n₀ l hl v J Jx hY W (hv.below (hW.mono hn₀) (Nat.le_refl _)) (Nat.le_trans hn₀ hW.size) ((hW.block Bs hBs).trans hc) h0
end Go.Proofs.YtbldeiejlebbiaaDoor.T
