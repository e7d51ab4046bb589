import Derived.Test.YtbldeiejlebbiaaDoorPlaceTrA
import Derived.Test.YtbldeiejlebbiaaDoorPlaceCommon
import Derived.Test.YtbldeiejlebbiaaDoorPlaceCheck
import Derived.Test.YtbldeiejlebbiaaDoorPlaceReverse
import Derived.Test.YtbldeiejlebbiaaDoorPlaceCopies

/-
  PLAIN: a tree's nodes as a list: stacks of nodes; a list that is added is some node's stack; two nodes have two stacks; where two meet.
-/
set_option linter.unusedVariables false
namespace Go.Proofs.YtbldeiejlebbiaaDoor.T
open Go Go.Lib Go.RowKit

/-- a node's number (0: the root) -/
def nodeAt (ns : List Nd) (n : Nat) : Option Nd := (zeroNd :: ns)[n]?
theorem nodeAt_zero (ns : List Nd) : nodeAt ns 0 = some zeroNd := rfl
theorem nodeAt_succ (ns : List Nd) (n : Nat) : nodeAt ns (n + 1) = ns[n]? := rfl
/-- what a tree keeps: a parent's number is the lesser one, a depth is the parent's and one more, no step leads to two nodes, each place may be -/
structure Wf (ns : List Nd) : Prop where
  up : ∀ (n : Nat) (q : Nd), ns[n]? = some q → q.p ≤ n ∧ (∃ r, nodeAt ns q.p = some r ∧ q.d = r.d + 1) ∧ q.d ≤ 64 ∧ mayB q.x = true
  one : ∀ (i j : Nat) (q r : Nd), ns[i]? = some q → ns[j]? = some r → q.p = r.p → q.x = r.x → i = j
theorem Wf.nil : Wf [] := ⟨fun n q h => by simp at h, fun i j q r h => by simp at h⟩
theorem nodeAt_pre {ns ms : List Nd} (h : ns <+: ms) {n : Nat} {q : Nd} (hq : nodeAt ns n = some q) : nodeAt ms n = some q := by
  obtain ⟨t, rfl⟩ := h
  unfold nodeAt at *
  have hl : n < (zeroNd :: ns).length := (List.getElem?_eq_some_iff.1 hq).1
  rw [← List.cons_append, List.getElem?_append_left hl]; exact hq
theorem Wf.push {ns : List Nd} (h : Wf ns) {j : Nat} {q : Nd} {x : Pl} (hq : nodeAt ns j = some q) (hd : q.d < 64) (hm : mayB x = true) (hi : (j, x) ∉ ns.map stepOf) : Wf (ns ++ [⟨j, x, q.d + 1⟩]) := by
  have hj : j ≤ ns.length := by have := (List.getElem?_eq_some_iff.1 hq).1; simp at this; omega
  refine ⟨fun n r hr => ?_, fun a b r t hr ht h1 h2 => ?_⟩
  · rcases Nat.lt_or_ge n ns.length with hl | hl
    · rw [List.getElem?_append_left hl] at hr
      obtain ⟨a1, ⟨a2, a3, a4⟩, a5, a6⟩ := h.up n r hr
      exact ⟨a1, ⟨a2, nodeAt_pre (List.prefix_append _ _) a3, a4⟩, a5, a6⟩
    · rw [List.getElem?_append_right hl] at hr
      have h0 : n - ns.length = 0 := by
        rcases Nat.eq_zero_or_pos (n - ns.length) with h | h
        · exact h
        · rw [List.getElem?_eq_none (by simp; omega)] at hr; cases hr
      rw [h0] at hr
      simp at hr
      subst hr
      exact ⟨by simp only; omega, ⟨q, nodeAt_pre (List.prefix_append _ _) hq, rfl⟩, by simp only; omega, hm⟩
  · have hnew : ∀ c (u : Nd), (ns ++ [⟨j, x, q.d + 1⟩])[c]? = some u → (c < ns.length ∧ ns[c]? = some u) ∨ (c = ns.length ∧ u = ⟨j, x, q.d + 1⟩) := fun c u hu => by
      rcases Nat.lt_or_ge c ns.length with hl | hl
      · rw [List.getElem?_append_left hl] at hu; exact .inl ⟨hl, hu⟩
      · rw [List.getElem?_append_right hl] at hu
        have h0 : c - ns.length = 0 := by
          rcases Nat.eq_zero_or_pos (c - ns.length) with h | h
          · exact h
          · rw [List.getElem?_eq_none (by simp; omega)] at hu; cases hu
        rw [h0] at hu
        simp at hu
        exact .inr ⟨by omega, hu.symm⟩
    have hno : ∀ (c : Nat) (u : Nd), ns[c]? = some u → u.p = j → u.x = x → False := fun c u hu e1 e2 => hi (List.mem_map.2 ⟨u, List.mem_of_getElem? hu, by unfold stepOf; rw [e1, e2]⟩)
    rcases hnew a r hr with ⟨_, ha⟩ | ⟨ha, rfl⟩ <;> rcases hnew b t ht with ⟨_, hb⟩ | ⟨hb, rfl⟩
    · exact h.one a b r t ha hb h1 h2
    · exact (hno a r ha h1 h2).elim
    · exact (hno b t hb h1.symm h2.symm).elim
    · omega
/-- a node's stack -/
def pathF (ns : List Nd) : Nat → Nat → List Pl
  | 0, _ => []
  | _ + 1, 0 => []
  | f + 1, n + 1 => match ns[n]? with
    | none => []
    | some q => pathF ns f q.p ++ [q.x]
def path (ns : List Nd) (n : Nat) : List Pl := pathF ns n n
theorem pathF_same {ns : List Nd} (h : Wf ns) : ∀ (f g n : Nat), n ≤ f → n ≤ g → pathF ns f n = pathF ns g n
  | 0, 0, _, _, _ => rfl
  | 0, g + 1, n, h1, _ => by obtain rfl : n = 0 := by omega
                             rfl
  | f + 1, 0, n, _, h2 => by obtain rfl : n = 0 := by omega
                             rfl
  | f + 1, g + 1, 0, _, _ => rfl
  | f + 1, g + 1, n + 1, h1, h2 => by
    unfold pathF
    cases hq : ns[n]? with
    | none => rfl
    | some q =>
      have := (h.up n q hq).1
      simp only
      rw [pathF_same h f g q.p (by omega) (by omega)]
theorem path_zero (ns : List Nd) : path ns 0 = [] := rfl
theorem path_succ {ns : List Nd} (h : Wf ns) {n : Nat} {q : Nd} (hq : ns[n]? = some q) : path ns (n + 1) = path ns q.p ++ [q.x] := by
  have := (h.up n q hq).1
  have e : path ns (n + 1) = pathF ns n q.p ++ [q.x] := by
    unfold path; rw [pathF, hq]
  rw [e, pathF_same h n q.p q.p (by omega) (Nat.le_refl _)]; rfl
theorem path_depth {ns : List Nd} (h : Wf ns) : ∀ (k n : Nat) (q : Nd), n ≤ k → nodeAt ns n = some q → (path ns n).length = q.d
  | k, 0, q, _, hq => by rw [nodeAt_zero] at hq; cases hq; rfl
  | 0, n + 1, q, hk, _ => by omega
  | k + 1, n + 1, q, hk, hq => by
    rw [nodeAt_succ] at hq
    obtain ⟨a1, ⟨r, a2, a3⟩, _⟩ := h.up n q hq
    rw [path_succ h hq, List.length_append, path_depth h k q.p r (by omega) a2, a3]; rfl
theorem path_inj {ns : List Nd} (h : Wf ns) : ∀ (k a b : Nat) (q r : Nd), a ≤ k → nodeAt ns a = some q → nodeAt ns b = some r → path ns a = path ns b → a = b
  | k, 0, 0, _, _, _, _, _, _ => rfl
  | k, 0, b + 1, q, r, _, hq, hr, e => by
    rw [nodeAt_succ] at hr
    rw [path_zero, path_succ h hr] at e
    have := congrArg List.length e
    simp at this
  | k, a + 1, 0, q, r, _, hq, hr, e => by
    rw [nodeAt_succ] at hq
    rw [path_zero, path_succ h hq] at e
    have := congrArg List.length e
    simp at this
  | 0, a + 1, b + 1, _, _, hk, _, _, _ => by omega
  | k + 1, a + 1, b + 1, q, r, hk, hq, hr, e => by
    rw [nodeAt_succ] at hq hr
    obtain ⟨a1, ⟨qp, a2, _⟩, _⟩ := h.up a q hq
    obtain ⟨b1, ⟨rp, b2, _⟩, _⟩ := h.up b r hr
    rw [path_succ h hq, path_succ h hr] at e
    obtain ⟨e1, e2⟩ := List.append_inj' e rfl
    have := path_inj h k q.p r.p qp rp (by omega) a2 b2 e1
    have := h.one a b q r hq hr this (by simpa using e2)
    omega
theorem path_pre {ns ms : List Nd} (h : Wf ns) (h' : Wf ms) (hp : ns <+: ms) : ∀ (k n : Nat) (q : Nd), n ≤ k → nodeAt ns n = some q → path ms n = path ns n
  | k, 0, _, _, _ => rfl
  | 0, n + 1, _, hk, _ => by omega
  | k + 1, n + 1, q, hk, hq => by
    have hq' := nodeAt_pre hp hq
    rw [nodeAt_succ] at hq hq'
    obtain ⟨a1, ⟨qp, a2, _⟩, _⟩ := h.up n q hq
    rw [path_succ h hq, path_succ h' hq', path_pre h h' hp k q.p qp (by omega) a2]
/-- what a push that goes well comes to -/
def Pushed (ns : List Nd) (j : Nat) (x : Pl) (ms : List Nd) (n : Nat) : Prop :=
  Wf ms ∧ ns <+: ms ∧ ms.length ≤ ns.length + 1 ∧ (∃ q, nodeAt ms n = some q ∧ q.p = j ∧ q.x = x ∧ 0 < n) ∧ ((j, x) ∈ ns.map stepOf → ms = ns)
theorem Pushed.path {ns ms : List Nd} {j n : Nat} {x : Pl} {q : Nd} (h : Wf ns) (hp : Pushed ns j x ms n) (hj : nodeAt ns j = some q) : path ms n = path ns j ++ [x] := by
  obtain ⟨h1, h2, _, ⟨r, h3, rfl, rfl, h4⟩, _⟩ := hp
  obtain ⟨n, rfl⟩ : ∃ k, n = k + 1 := ⟨n - 1, by omega⟩
  rw [nodeAt_succ] at h3
  rw [path_succ h1 h3, path_pre h h1 h2 r.p r.p q (Nat.le_refl _) hj]
end Go.Proofs.YtbldeiejlebbiaaDoor.T

/-
  Push on a tree, where nothing is wrong: one contract; what it leaves as it was.
-/
set_option linter.unusedVariables false
namespace Go.Proofs.YtbldeiejlebbiaaDoor.T
open Go Go.Lib Go.RowKit

/-- all but the tree with the block T, the map m, and rows of nodes lies as it lay -/
structure KeepT (T m : Nat) (w w' : World) : Prop where
  os : w'.os = w.os
  tape : w'.tape = w.tape
  output : w'.output = w.output
  size : w.heap.size ≤ w'.heap.size
  blk : ∀ (b : Nat) (o : Obj), w.heap[b]? = some o → b ≠ T → b ≠ m → (∀ cs fr, o ≠ .cells cs 102 fr) → w'.heap[b]? = some o
theorem KeepT.refl (T m : Nat) (w : World) : KeepT T m w w := ⟨rfl, rfl, rfl, Nat.le_refl _, fun _ _ h _ _ _ => h⟩
theorem KeepT.trans {T m : Nat} {a b c : World} (h : KeepT T m a b) (k : KeepT T m b c) : KeepT T m a c :=
  ⟨k.os.trans h.os, k.tape.trans h.tape, k.output.trans h.output, Nat.le_trans h.size k.size, fun i o hi h1 h2 h3 => k.blk i o (h.blk i o hi h1 h2 h3) h1 h2 h3⟩
theorem KeepT.of_below {T m : Nat} {w w' : World} (h : Below w.heap.size w w') : KeepT T m w w' :=
  ⟨h.os, h.tape, h.output, h.size, fun b o hb _ _ _ => (h.block b (Array.getElem?_eq_some_iff.1 hb).1).trans hb⟩
theorem mayB_bd {x : Pl} (h : mayB x = true) : 1 ≤ x.n.size ∧ x.n.size ≤ 120 ∧ 0 ≤ x.k ∧ x.k ≤ 1048576 := by
  unfold mayB edgeB at h
  simp at h
  omega
theorem may_st {x : Pl} (h : mayB x = true) {j : Nat} (hj : j ≤ 1000000) : StOk (j, x) := by
  have := mayB_bd h
  exact ⟨hj, by simp only; omega, by simp only; omega, by simp only; omega⟩
def PushPost (B T m : Nat) (ns : List Nd) (j : Nat) (x : Pl) (w : World) (e : Ending) (w' : World) : Prop :=
  ∃ ms n v', e = .returned (.tuple #[.int .i64 ((n : Nat) : Int), .int .i64 0]) ∧ Pushed ns j x ms n ∧ TreeAt B w' T v' m ms ∧ KeepT T m w w' ∧ Below B w w'
theorem TreeAt.base {B : Nat} {w : World} {T : Nat} {v : Value} {m : Nat} {ns : List Nd} (h : TreeAt B w T v m ns) : B ≤ w.heap.size := by
  have := h.lo.1; have := h.lt; omega
theorem Push_ok {B : Nat} {T : Nat} {v : Value} {m : Nat} {ns : List Nd} (j : Nat) (q : Nd) (x : Pl) (w : World) (h : TreeAt B w T v m ns) (hw : Wf ns) (hq : nodeAt ns j = some q) (hm : mayB x = true) (hd : q.d < 64) (hroom : ns.length < 4095) :
    Calls Tryd.prog 48 #[.pointer (some ⟨T, 0, none⟩), .int .i64 (j : Int), .agg #[.string x.n, .int .i64 x.k]] w (PushPost B T m ns j x w) := by
  have hb := mayB_bd hm
  have hj : j ≤ ns.length := by have := (List.getElem?_eq_some_iff.1 hq).1; simp at this; omega
  have ho := may_st hm (j := j) (by omega)
  by_cases hi : (j, x) ∈ ns.map stepOf
  · obtain ⟨i, hil, hie⟩ := List.mem_iff_getElem.1 hi
    have hi' : (ns.map stepOf)[i]? = some (j, x) := by rw [List.getElem?_eq_getElem hil, hie]
    refine (Push_known j i q x (by omega) w h hq hm (by omega) hi' ho).mono ?_
    rintro e w' ⟨rfl, hbl⟩
    rw [List.getElem?_map] at hi'
    obtain ⟨r, hr, hrs⟩ := Option.map_eq_some_iff.1 hi'
    unfold stepOf at hrs
    simp only [Prod.mk.injEq] at hrs
    exact ⟨ns, i + 1, v, by simp, ⟨hw, List.prefix_refl _, by omega, ⟨r, hr, hrs.1, hrs.2, by omega⟩, fun _ => rfl⟩, h.below hbl, KeepT.of_below hbl, hbl.mono h.base⟩
  · refine (Push_new j q x (by omega) w h hq hm (by omega) hi ho hroom).mono ?_
    rintro e w' ⟨rfl, ⟨v', ht, hv'⟩, ⟨h1, h2, h3⟩, hz, hbk⟩
    obtain ⟨g, cap, hvg, hg1, hg2, _⟩ := h.nodes
    have hown : v.ownBlock = some g := by rw [hvg]; rfl
    obtain ⟨cur, hcur⟩ := row_heap4 (show w.ownsRow B 102 4 (.slice (some ⟨g, 0, none⟩) (ns.length + 1) cap) (ns.length + 1) (ndCs (zeroNd :: ns)) from hvg ▸ h.row)
    refine ⟨_, ns.length + 1, v', by simp, ⟨hw.push hq hd hm hi, List.prefix_append _ _, by simp, ⟨_, by rw [nodeAt_succ, List.getElem?_append_right (Nat.le_refl _), Nat.sub_self]; rfl, rfl, rfl, by omega⟩, fun hin => (hi hin).elim⟩, ht, ⟨h1, h2, h3, hz, fun b o hb hbT hbm hno => ?_⟩, ⟨h1, h2, h3, hz, fun b hb => ?_⟩⟩
    · have hlt := (Array.getElem?_eq_some_iff.1 hb).1
      rw [hbk b hlt (fun e => ?_) hbT hbm]; exact hb
      rw [hown] at e
      cases e
      rw [hcur] at hb
      exact hno cur (0, 0) (Option.some.inj hb).symm
    · have hl := h.lo
      exact hbk b (by have := h.base; omega) (fun e => by rw [hown] at e; cases e; omega) (by omega) (by omega)
theorem infoNode0 : (Tryd.prog.info? 102).map (fun i => (i.zero, i.size, i.bytes)) = some (some (.agg #[.int .i64 0, .string ⟨#[]⟩, .int .i64 0, .int .i64 0]), 4, 40) := infoNode
/-- a new tree -/
def NewPost (w : World) (e : Ending) (w' : World) : Prop := ∃ T v m, e = .returned (.pointer (some ⟨T, 0, none⟩)) ∧ TreeAt w.heap.size w' T v m [] ∧ Below w.heap.size w w'
set_option maxRecDepth 100000 in
theorem New_in (w : World) : Calls Tryd.prog 20 #[] w (NewPost w) := by
  have hmk : ∀ W : World, (Instr.makeMap 104 none).run Tryd.prog W = .ok (.map (some W.heap.size)) (W.alloc (.map #[] 0)) := fun W => rfl
  go_enter Tryd.func20, Tryd.ntmps20
  go_wp2
  go_ret
  have hb : Below w.heap.size w (((w.alloc (.cells #[.int .i64 0, .string ⟨#[]⟩, .int .i64 0, .int .i64 0] 102)).alloc (.map #[] 0)).alloc (.cells #[.slice (some ⟨w.heap.size, 0, none⟩) 1 1, .map (some (w.heap.size + 1))] 106)) :=
    (((Below.refl _ w).alloc (Nat.le_refl _) _).alloc (by simp) _).alloc (by simp; omega) _
  refine ⟨w.heap.size + 1 + 1, .slice (some ⟨w.heap.size, 0, none⟩) 1 1, w.heap.size + 1, rfl, ⟨?_, ?_, ?_, ⟨by omega, by omega⟩, (fun n hn => absurd hn (by simp)), by simp⟩, hb⟩
  · have := World.alloc_heap_new ((w.alloc (.cells #[.int .i64 0, .string ⟨#[]⟩, .int .i64 0, .int .i64 0] 102)).alloc (.map #[] 0)) (.cells #[.slice (some ⟨w.heap.size, 0, none⟩) 1 1, .map (some (w.heap.size + 1))] 106)
    simpa using this
  · exact World.ownsRow.alloc (World.ownsRow.alloc ⟨rfl, .inr ⟨w.heap.size, 1, #[.int .i64 0, .string ⟨#[]⟩, .int .i64 0, .int .i64 0], rfl, Nat.le_refl _, heap_alloc_new w _, Nat.le_refl _, (by decide), rfl, rfl⟩⟩ _) _
  · have h1 := StMap.made (w.alloc (.cells #[.int .i64 0, .string ⟨#[]⟩, .int .i64 0, .int .i64 0] 102))
    have h2 := h1.grown (World.grownBy_alloc ((w.alloc (.cells #[.int .i64 0, .string ⟨#[]⟩, .int .i64 0, .int .i64 0] 102)).alloc (.map #[] 0)) (.cells #[.slice (some ⟨w.heap.size, 0, none⟩) 1 1, .map (some (w.heap.size + 1))] 106) none) (by simp)
    simpa using h2
end Go.Proofs.YtbldeiejlebbiaaDoor.T

/-
  Meet on a tree, where both stacks are there.
-/
set_option linter.unusedVariables false
namespace Go.Proofs.YtbldeiejlebbiaaDoor.T
open Go Go.Lib Go.RowKit

def parN (ns : List Nd) (n : Nat) : Nat := ((nodeAt ns n).map (·.p)).getD 0
theorem parN_zero (ns : List Nd) : parN ns 0 = 0 := rfl
theorem parN_lt {ns : List Nd} (h : Wf ns) {n : Nat} (h0 : 0 < n) (hl : n ≤ ns.length) : parN ns n < n := by
  obtain ⟨n, rfl⟩ : ∃ k, n = k + 1 := ⟨n - 1, by omega⟩
  have hq : ns[n]? = some ns[n] := List.getElem?_eq_getElem (by omega)
  have := (h.up n _ hq).1
  unfold parN
  rw [nodeAt_succ, hq]
  simp only [Option.map_some, Option.getD_some]
  omega
/-- where two stacks meet -/
def meetF (ns : List Nd) : Nat → Nat → Nat → Nat
  | 0, a, _ => a
  | f + 1, a, b => if a = b then a else if a < b then meetF ns f (parN ns b) a else meetF ns f (parN ns a) b
def meetN (ns : List Nd) (a b : Nat) : Nat := meetF ns (a + b) a b
theorem meetF_same (ns : List Nd) (f a : Nat) : meetF ns f a a = a := by
  cases f with
  | zero => rfl
  | succ f => simp [meetF]
/-- a node's number -/
def NodeIn (n k : Nat) : Prop := k < n + 1
set_option maxRecDepth 100000 in
set_option maxHeartbeats 2000000 in
theorem Meet_in {B : Nat} {T : Nat} {v : Value} {m : Nat} {ns : List Nd} (a b : Nat) (w : World) (h : TreeAt B w T v m ns) (hw : Wf ns) (ha : a ≤ ns.length) (hb : b ≤ ns.length) :
    Calls Tryd.prog 37 #[.pointer (some ⟨T, 0, none⟩), .int .i64 (a : Int), .int .i64 (b : Int)] w fun e w' => e = .returned (.tuple #[.int .i64 ((meetN ns a b : Nat) : Int), .int .i64 0]) ∧ w = w' := by
  have cH : ∀ k : Nat, NodeIn ns.length k → Calls Tryd.prog 69 #[.pointer (some ⟨T, 0, none⟩), .int .i64 (k : Int)] w fun e w' => e = .returned (.bool true) ∧ w = w' := fun k hk => by
    have := has_in (k : Int) w h
    rwa [hasB_true hk] at this
  have hA : NodeIn ns.length a := by unfold NodeIn; omega
  have hBb : NodeIn ns.length b := by unfold NodeIn; omega
  obtain ⟨g, cap, rfl, _, _, hat⟩ := h.nodes
  have c0 := h.c0
  have hn := h.few
  have hat' : ∀ j : Nat, j ≤ ns.length → w.cell? ⟨g, j * 4, none⟩ = some (.int .i64 ((parN ns j : Nat) : Int)) := fun j hj => by
    have hq : (zeroNd :: ns)[j]? = some ((zeroNd :: ns)[j]'(by simp; omega)) := List.getElem?_eq_getElem (by simp; omega)
    have e1 := (hat j _ hq).1
    unfold parN nodeAt
    rw [hq]
    exact e1
  clear hat h
  unfold meetN
  generalize hM : meetF ns (a + b) a b = M at *
  go_enter Tryd.func37, Tryd.ntmps37
  go_wp2_with (go_at_call 69; refine (cH _ (by assumption)).mono ?_; rintro e w' ⟨rfl, rfl⟩)
  go_loopw [1, 2] (fun u v wr => ∃ (f x y : Nat), u = .int .i64 (x : Int) ∧ v = .int .i64 (y : Int) ∧ x ≤ ns.length ∧ y ≤ ns.length ∧ x + y ≤ f ∧ meetF ns f x y = M ∧ wr = w)
    (fun u v _ => (RowKit.intOf u).toNat + (RowKit.intOf v).toNat)
  case atStart => exact ⟨a + b, a, b, rfl, rfl, ha, hb, Nat.le_refl _, hM, rfl⟩
  case round =>
    obtain ⟨f, x, y, rfl, rfl, hx, hy, hf, hm, rfl⟩ := hrel
    by_cases hxy : x = y
    · subst hxy
      rw [meetF_same] at hm
      subst hm
      have hN : ((x : Int) != (x : Int)) = false := by simp
      go_wp2
      go_ret2
      exact ⟨rfl, rfl⟩
    · obtain ⟨f, rfl⟩ : ∃ k, f = k + 1 := ⟨f - 1, by omega⟩
      rw [meetF, if_neg hxy] at hm
      have hN : ((x : Int) != (y : Int)) = true := by simp; omega
      by_cases hlt : x < y
      · rw [if_pos hlt] at hm
        have hL : decide ((x : Int) < (y : Int)) = true := by simp; omega
        have hp := parN_lt hw (n := y) (by omega) hy
        have e1 := hat' y hy
        generalize parN ns y = p at *
        clear hat' cH
        generalize hl : ns.length = n at *
        go_wp2
        go_roundw
        case rel => exact ⟨f, p, x, rfl, rfl, by omega, by omega, by omega, hm, trivial⟩
        case measure => simp [RowKit.intOf]; omega
      · rw [if_neg hlt] at hm
        have hL : decide ((x : Int) < (y : Int)) = false := by simp; omega
        have hp := parN_lt hw (n := x) (by omega) hx
        have e1 := hat' x hx
        generalize parN ns x = p at *
        clear hat' cH
        generalize hl : ns.length = n at *
        go_wp2
        go_roundw
        case rel => exact ⟨f, p, y, rfl, rfl, by omega, by omega, by omega, hm, trivial⟩
        case measure => simp [RowKit.intOf]; omega
end Go.Proofs.YtbldeiejlebbiaaDoor.T

/-
  PLAIN: where two stacks meet is what they have alike.
-/
set_option linter.unusedVariables false
namespace Go.Proofs.YtbldeiejlebbiaaDoor.T
open Go Go.Lib Go.RowKit

theorem eqM_self (p : Pl) : eqP p p = true := by unfold eqP; simp
theorem eqM_eq {p q : Pl} (h : eqP p q = true) : p = q := by
  unfold eqP at h
  simp only [Bool.and_eq_true, beq_iff_eq] at h
  obtain ⟨h1, h2⟩ := h
  cases p; cases q
  simp only at h1 h2
  subst h2
  congr 1
  rw [ByteArray.toList_eq, ByteArray.toList_eq] at h1
  exact ByteArray.ext (Array.toList_inj.1 h1)
theorem comM_comm : ∀ (a b : List Pl), com a b = com b a
  | [], [] => rfl
  | [], _ :: _ => rfl
  | _ :: _, [] => rfl
  | p :: a, q :: b => by
    have e : eqP p q = eqP q p := by
      cases h : eqP p q with
      | true => rw [eqM_eq h, eqM_self]
      | false =>
        cases h2 : eqP q p with
        | true => rw [eqM_eq h2, eqM_self] at h; cases h
        | false => rfl
    show (if eqP p q then com a b + 1 else 0) = (if eqP q p then com b a + 1 else 0)
    rw [e, comM_comm a b]
theorem comM_self : ∀ a : List Pl, com a a = a.length
  | [] => rfl
  | p :: a => by
    show (if eqP p p then com a a + 1 else 0) = _
    rw [if_pos (eqM_self p), comM_self a]; rfl
theorem comM_le : ∀ (a b : List Pl), com a b ≤ a.length
  | [], b => by simp [com]
  | p :: a, [] => by simp [com]
  | p :: a, q :: b => by
    show (if eqP p q then com a b + 1 else 0) ≤ _
    have := comM_le a b
    split
    · rw [List.length_cons]; omega
    · omega
theorem comM_take : ∀ (a b : List Pl), a.take (com a b) = b.take (com a b)
  | [], b => by simp [com]
  | p :: a, [] => by simp [com]
  | p :: a, q :: b => by
    show (p :: a).take (if eqP p q then com a b + 1 else 0) = (q :: b).take (if eqP p q then com a b + 1 else 0)
    split
    · rename_i he
      rw [List.take_succ_cons, List.take_succ_cons, comM_take a b, eqM_eq he]
    · rfl
/-- a further place on the one makes no difference, unless the other begins with both -/
theorem comM_snoc : ∀ (a b : List Pl) (x : Pl), ¬ (a ++ [x]) <+: b → com (a ++ [x]) b = com a b
  | [], [], x, _ => rfl
  | [], q :: b, x, h => by
    show (if eqP x q then com [] b + 1 else 0) = 0
    split
    · rename_i he
      rw [eqM_eq he] at h
      exact (h ⟨b, rfl⟩).elim
    · rfl
  | p :: a, [], x, _ => rfl
  | p :: a, q :: b, x, h => by
    show (if eqP p q then com (a ++ [x]) b + 1 else 0) = (if eqP p q then com a b + 1 else 0)
    split
    · rename_i he
      rw [comM_snoc a b x (fun hp => h (by rw [eqM_eq he]; exact List.cons_prefix_cons.2 ⟨rfl, hp⟩))]
    · rfl
/-- a node whose stack begins another's has no greater number -/
theorem pre_le {ns : List Nd} (hw : Wf ns) : ∀ (k a b : Nat) (q r : Nd), b ≤ k → nodeAt ns a = some q → nodeAt ns b = some r → path ns a <+: path ns b → a ≤ b
  | k, a, 0, q, r, _, hq, _, hp => by
    rw [path_zero] at hp
    have h0 : path ns a = [] := List.prefix_nil.1 hp
    have := path_inj hw a a 0 q zeroNd (Nat.le_refl _) hq rfl (by rw [h0, path_zero])
    omega
  | 0, a, b + 1, _, _, hk, _, _, _ => by omega
  | k + 1, a, b + 1, q, r, hk, hq, hr, hp => by
    rw [nodeAt_succ] at hr
    obtain ⟨b1, ⟨rp, b2, _⟩, _⟩ := hw.up b r hr
    rw [path_succ hw hr] at hp
    rcases List.prefix_concat_iff.1 hp with h | h
    · have := path_inj hw a a (b + 1) q r (Nat.le_refl _) hq hr (by rw [path_succ hw hr]; exact h)
      omega
    · have := pre_le hw k a r.p q rp (by omega) hq b2 h
      omega
theorem meetF_path {ns : List Nd} (hw : Wf ns) : ∀ (f a b : Nat) (q r : Nd), a + b ≤ f → nodeAt ns a = some q → nodeAt ns b = some r → path ns (meetF ns f a b) = (path ns a).take (com (path ns a) (path ns b)) ∧ ∃ s, nodeAt ns (meetF ns f a b) = some s
  | 0, a, b, q, r, h, hq, hr => by
    obtain rfl : a = 0 := by omega
    exact ⟨rfl, q, hq⟩
  | f + 1, a, b, q, r, h, hq, hr => by
    unfold meetF
    by_cases hab : a = b
    · rw [if_pos hab]
      subst hab
      rw [comM_self, List.take_length]
      exact ⟨rfl, q, hq⟩
    · rw [if_neg hab]
      have step : ∀ (c d : Nat) (u v : Nd), d < c → nodeAt ns c = some u → nodeAt ns d = some v → parN ns c < c ∧ (∃ s, nodeAt ns (parN ns c) = some s) ∧ com (path ns c) (path ns d) = com (path ns (parN ns c)) (path ns d) ∧ ∃ x, path ns c = path ns (parN ns c) ++ [x] := fun c d u v hdc hu hv => by
        obtain ⟨c, rfl⟩ : ∃ k, c = k + 1 := ⟨c - 1, by omega⟩
        have hu' := hu
        rw [nodeAt_succ] at hu'
        obtain ⟨b1, ⟨rp, b2, _⟩, _⟩ := hw.up c u hu'
        have hpar : parN ns (c + 1) = u.p := by unfold parN; rw [hu]; rfl
        rw [hpar, path_succ hw hu']
        refine ⟨by omega, ⟨rp, b2⟩, comM_snoc _ _ _ (fun hp => ?_), _, rfl⟩
        rw [← path_succ hw hu'] at hp
        have := pre_le hw d (c + 1) d u v (Nat.le_refl _) hu hv hp
        omega
      by_cases hlt : a < b
      · rw [if_pos hlt]
        obtain ⟨s1, ⟨s, s2⟩, s3, x, s4⟩ := step b a r q hlt hr hq
        obtain ⟨i1, i2⟩ := meetF_path hw f (parN ns b) a s q (by omega) s2 hq
        refine ⟨?_, i2⟩
        rw [i1, comM_comm (path ns a), s3]
        have hle := comM_le (path ns (parN ns b)) (path ns a)
        -- the common part of two lists is the same front of both
        exact comM_take _ _
      · rw [if_neg hlt]
        obtain ⟨s1, ⟨s, s2⟩, s3, x, s4⟩ := step a b q r (by omega) hq hr
        obtain ⟨i1, i2⟩ := meetF_path hw f (parN ns a) b s r (by omega) s2 hr
        refine ⟨?_, i2⟩
        rw [i1, s3, s4, List.take_append_of_le_length (comM_le _ _)]
end Go.Proofs.YtbldeiejlebbiaaDoor.T

/-
  Add on a tree, where nothing is wrong; what outlives a tree's growth.
-/
set_option linter.unusedVariables false
namespace Go.Proofs.YtbldeiejlebbiaaDoor.T
open Go Go.Lib Go.RowKit

theorem StMap.obj {w : World} {m : Nat} {ns : List (Nat × Pl)} (h : StMap w m ns) : ∃ es n, w.heap[m]? = some (.map es n) := by
  obtain ⟨D, h1, _⟩ := h
  obtain ⟨es, n, h2, _⟩ := h1
  exact ⟨es, n, h2⟩
/-- a row of places outlives a tree's growth -/
theorem PRow.keepT {B B' T m : Nat} {w w' : World} {u v : Value} {l : List Pl} {ns : List Nd} (h : PRow 39 B w u l) (ht : TreeAt B' w T v m ns) (k : KeepT T m w w') : PRow 39 B w' u l := by
  obtain ⟨hl, hn | ⟨g, cap, cur, rfl, hg, hcur, r⟩⟩ := h
  · exact ⟨hl, .inl hn⟩
  · refine ⟨hl, .inr ⟨g, cap, cur, rfl, hg, k.blk g _ hcur (fun e => ?_) (fun e => ?_) (fun cs fr e => ?_), r⟩⟩
    · subst e
      rw [ht.blk] at hcur
      simp at hcur
    · subst e
      obtain ⟨es, n, hm⟩ := ht.map.obj
      rw [hm] at hcur
      simp at hcur
    · simp at e
def AddPost (B T m : Nat) (ns : List Nd) (l : List Pl) (w : World) (e : Ending) (w' : World) : Prop :=
  ∃ ms n v' q, e = .returned (.tuple #[.int .i64 ((n : Nat) : Int), .int .i64 0]) ∧ Wf ms ∧ ns <+: ms ∧ ms.length ≤ ns.length + l.length ∧ nodeAt ms n = some q ∧ path ms n = l ∧ TreeAt B w' T v' m ms ∧ KeepT T m w w' ∧ Below B w w'
set_option maxRecDepth 100000 in
set_option maxHeartbeats 4000000 in
theorem Add_in {B : Nat} {T : Nat} {v : Value} {m : Nat} {ns : List Nd} (l : List Pl) (Bl : Nat) (u : Value) (w : World) (h : TreeAt B w T v m ns) (hw : Wf ns) (hl : PRow 39 Bl w u l) (hm : ∀ p ∈ l, mayB p = true) (h64 : l.length ≤ 64) (hroom : ns.length + l.length ≤ 4095) :
    Calls Tryd.prog 34 #[.pointer (some ⟨T, 0, none⟩), u] w (AddPost B T m ns l w) := by
  have hs : Slim l := fun p hp => by have := mayB_bd (hm p hp); omega
  have hck : checkN l = 0 := by
    unfold checkN
    rw [if_pos (List.all_eq_true.2 hm), if_neg (by omega)]
  have cC := Check_in l hs w.heap.size u w hl.sl
  rw [hck] at cC
  obtain ⟨a, c, rfl, hc1, hc2, _⟩ := hl.sl
  go_enter Tryd.func34, Tryd.ntmps34
  go_wp2_with (go_at_call 40; refine cC.mono ?_; rintro e w1 ⟨rfl, hb1⟩)
  go_loopw [7, 21] (fun x i wr => ∃ (k n : Nat) (ms : List Nd) (v' : Value) (q : Nd), k ≤ l.length ∧ i = .int .i64 (k : Int) ∧ x = .int .i64 (n : Int) ∧ Wf ms ∧ ns <+: ms ∧ ms.length ≤ ns.length + k ∧ nodeAt ms n = some q ∧ path ms n = l.take k ∧ TreeAt B wr T v' m ms ∧ KeepT T m w wr ∧ Below B w wr)
    (fun _ i _ => l.length - (RowKit.intOf i).toNat)
  case atStart => exact ⟨0, 0, ns, v, zeroNd, Nat.zero_le _, rfl, rfl, hw, List.prefix_refl _, by omega, rfl, rfl, h.below hb1, KeepT.of_below hb1, hb1.mono h.base⟩
  case round =>
    obtain ⟨k, n, ms, v', q, hk, rfl, rfl, hwf, hpre, hlen, hq, hpath, ht, hkt, hbw⟩ := hrel
    by_cases hlt : k < l.length
    · have hx : l[k]? = some l[k] := List.getElem?_eq_getElem hlt
      have hmx := hm _ (List.getElem_mem hlt)
      have htk : l.take (k + 1) = l.take k ++ [l[k]] := by rw [List.take_add_one, hx]; rfl
      have hrow := hl.keepT h hkt
      obtain ⟨a', c', he, _, _, hcells⟩ := hrow.sl
      obtain ⟨bk, o, rfl, hbk, hA⟩ := hcells (by intro e; subst e; simp at hlt)
      cases he
      have c1 := (hA k _ hx).1
      have c2 := (hA k _ hx).2
      clear hA hcells hrow
      generalize l[k] = x at *
      have hbx : Below wr.heap.size wr (wr.alloc (.cells #[.string x.n, .int .i64 x.k] 39)) := (Below.refl _ wr).alloc (Nat.le_refl _) _
      have htx := ht.below hbx
      have hd : q.d < 64 := by
        have := path_depth hwf n n q (Nat.le_refl _) hq
        rw [hpath, List.length_take] at this
        omega
      have cP := Push_ok n q x _ htx hwf hq hmx hd (by omega)
      have HP := Lib.hid hpath
      have HX := Lib.hid hx
      have HT := Lib.hid htk
      have HQ := Lib.hid hq
      have HE := Lib.hid hpre
      clear hpath hx htk hq hpre
      have hN : decide ((k : Int) < (l.length : Int)) = true := by simp; omega
      generalize hL : l.length = z at *
      go_wp2_with (go_at_call 48; refine cP.mono ?_; rintro e w2 ⟨ms2, n2, v2, rfl, hP, ht2, hk2, hb2⟩)
      go_roundw
      case rel =>
        have hp2 := hP.path hwf HQ.out
        obtain ⟨p1, p2, p3, ⟨q2, p4, _⟩, _⟩ := hP
        refine ⟨k + 1, n2, ms2, v2, q2, hlt, by go_num, rfl, p1, HE.out.trans p2, by omega, p4, by rw [hp2, HP.out, HT.out], ht2, (hkt.trans (KeepT.of_below hbx)).trans hk2, (hbw.trans (hbx.mono ht.base)).trans hb2⟩
      case measure => simp [RowKit.intOf]; omega
    · have : k = l.length := by omega
      subst this
      rw [List.take_length] at hpath
      have hN : decide ((l.length : Int) < (l.length : Int)) = false := by simp
      go_wp2
      go_ret2
      exact ⟨ms, n, v', q, rfl, hwf, hpre, hlen, hq, hpath, ht, hkt, hbw⟩
end Go.Proofs.YtbldeiejlebbiaaDoor.T

/-
  Stack on a tree, where the stack is there.
-/
set_option linter.unusedVariables false
namespace Go.Proofs.YtbldeiejlebbiaaDoor.T
open Go Go.Lib Go.RowKit

def StackPost (l : List Pl) (w : World) (e : Ending) (w' : World) : Prop :=
  ∃ v, e = .returned (.tuple #[v, .int .i64 0]) ∧ PRow 39 w.heap.size w' v l ∧ Below w.heap.size w w'
set_option maxRecDepth 100000 in
set_option maxHeartbeats 4000000 in
theorem Stack_in {B : Nat} {T : Nat} {v : Value} {m : Nat} {ns : List Nd} (n : Nat) (q0 : Nd) (w : World) (h : TreeAt B w T v m ns) (hw : Wf ns) (hq0 : nodeAt ns n = some q0) :
    Calls Tryd.prog 36 #[.pointer (some ⟨T, 0, none⟩), .int .i64 (n : Int)] w (StackPost (path ns n) w) := by
  have hn0 : n < ns.length + 1 := by have := (List.getElem?_eq_some_iff.1 hq0).1; simpa using this
  have cH := has_in (n : Int) w h
  rw [hasB_true hn0] at cH
  have hpl : (path ns n).length ≤ 64 := by
    rw [path_depth hw n n q0 (Nat.le_refl _) hq0]
    cases n with
    | zero => cases hq0; exact Nat.zero_le _
    | succ n => exact (hw.up n q0 hq0).2.2.1
  obtain ⟨i0, hi, hz0, hz1, hz2⟩ := info_parts infoOwn
  have hT := h.lt
  obtain ⟨g, cap, rfl, _, hg, hat⟩ := h.nodes
  have c0 := h.c0
  have hfew := h.few
  generalize hL : path ns n = L at *
  have HL := Lib.hid hL
  clear hL
  go_enter Tryd.func36, Tryd.ntmps36
  go_wp2_with (go_at_call 69; refine cH.mono ?_; rintro e w' ⟨rfl, rfl⟩)
  go_loopw [1, 6] (fun i u wr => ∃ (j : Nat) (q : Nd) (acc : List Pl), i = .int .i64 (j : Int) ∧ nodeAt ns j = some q ∧ path ns j ++ acc.reverse = L ∧ PRow 39 w.heap.size wr u acc ∧ Below w.heap.size w wr)
    (fun i _ _ => (RowKit.intOf i).toNat)
  case atStart => exact ⟨n, q0, [], rfl, hq0, by simpa using HL.out, PRow.nil _ _ _, Below.refl _ _⟩
  case round =>
    obtain ⟨j, q, acc, rfl, hq, hpa, hrow, hbw⟩ := hrel
    have hszr := hbw.size
    have hal : acc.length ≤ 64 := by
      have := congrArg List.length hpa
      simp at this
      omega
    cases j with
    | zero =>
      have hLr : L = acc.reverse := by rw [path_zero] at hpa; simpa using hpa.symm
      have hRv := Reverse_in acc (by omega) w.heap.size _ wr hrow
      have hown := fun k hk => (World.ownsRow.lt hrow k hk).1
      have hN : (((0 : Nat) : Int) != 0) = false := by decide
      go_wp2_with (go_at_call 68; refine hRv.mono ?_; rintro e w1 ⟨rfl, hrow1, hg1⟩)
      go_ret2
      subst hLr
      exact ⟨_, rfl, hrow1, hbw.grown hg1 hszr hown⟩
    | succ j =>
      obtain ⟨e1, e2, e3, e4⟩ := hat (j + 1) q hq
      have hqj : ns[j]? = some q := hq
      obtain ⟨a1, ⟨r, a2, a3⟩, a5, a6⟩ := hw.up j q hqj
      have hps := path_succ hw hqj
      have hmb := mayB_bd a6
      have hCp := fun W => copied_in q.x (by omega) W
      have d0 := (hbw.cell (p := ⟨T, 0, none⟩) hT).trans c0
      have d2 := (hbw.cell (p := ⟨g, (j + 1) * 4 + 1, none⟩) hg).trans e2
      have d3 := (hbw.cell (p := ⟨g, (j + 1) * 4 + 2, none⟩) hg).trans e3
      have hrow0 : wr.ownsRow w.heap.size 39 2 u6 acc.length (plCs acc) := hrow
      have hjl : j + 1 < ns.length + 1 := by have := (List.getElem?_eq_some_iff.1 hqj).1; omega
      have HP := Lib.hid hpa
      have HS := Lib.hid hps
      have HR := Lib.hid a2
      have HQ := Lib.hid hq
      clear hpa hps a2 hat hq hqj a3 cH
      generalize hl : ns.length = z at *
      generalize hk : j + 1 = k at *
      have hN : ((k : Int) != 0) = true := by simp; omega
      go_wp2_with (first | (go_at_call 70; refine (hCp _).mono ?_; rintro e w1 ⟨rfl, hb1⟩; have hb2 := hbw.trans (hb1.mono hszr); have hsz2 := hb2.size; have hrow1 := row_none hrow0 (below_grown hb1)) | (at_builtin; refine wpList_append_own _ rfl _ _ 23 rfl w.heap.size 39 i0 (.agg #[.string ⟨#[]⟩, .int .i64 0]) 2 24 Tryd.underlying23 hi hz0 hz1 hz2 rfl (by decide) _ acc.length _ rfl (hrow1.alloc _) ⟨w1.heap.size, 0, none⟩ 1 1 [.string q.x.n, .int .i64 q.x.k] rfl rfl (cell2_new _ _ _ _) (by simp [Value.oneCell']) (by unfold maxLen; omega) (by omega) (by simp; omega) ?_; intro v' w2 hown' hgrow _; have hb3 := hb2.grown (grown_of_alloc' hgrow) hsz2 (fun j hj => (World.ownsRow.lt hrow1 j hj).1); have f0 := (hb3.cell (p := ⟨T, 0, none⟩) hT).trans c0; have f1 := (hb3.cell (p := ⟨g, k * 4, none⟩) hg).trans e1))
      go_roundw
      case rel =>
        refine ⟨q.p, r, acc ++ [q.x], rfl, HR.out, ?_, ?_, hb3⟩
        · rw [List.reverse_append, ← HP.out, HS.out]; simp
        · unfold PRow
          rw [plCs_snoc, List.length_append]
          exact hown'
      case measure => simp [RowKit.intOf]; omega
end Go.Proofs.YtbldeiejlebbiaaDoor.T
