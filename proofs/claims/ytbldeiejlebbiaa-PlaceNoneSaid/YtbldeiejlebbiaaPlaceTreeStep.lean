/-
  Push on a tree, where nothing is wrong: one contract; what it leaves as it was.
-/
import Derived.RangeFuncRecord
import Derived.Test.YtbldeiejlebbiaaPlaceTreeP
set_option linter.unusedVariables false
namespace Go.Proofs.Ytbldeiejlebbiaa.T
open Go Go.Lib Go.RowKit

/-- all but the tree with the block T, the map m, and rows of nodes lies as it lay -/
structure KeepT (T m : Nat) (w w' : World) : Prop where
  os : w'.os = w.os
  tape : w'.tape = w.tape
  output : w'.output = w.output
  size : w.heap.size ≤ w'.heap.size
  blk : ∀ (b : Nat) (o : Obj), w.heap[b]? = some o → b ≠ T → b ≠ m → (∀ cs fr, o ≠ .cells cs 48 fr) → w'.heap[b]? = some o
theorem KeepT.refl (T m : Nat) (w : World) : KeepT T m w w := ⟨rfl, rfl, rfl, Nat.le_refl _, fun _ _ h _ _ _ => h⟩
theorem KeepT.trans {T m : Nat} {a b c : World} (h : KeepT T m a b) (k : KeepT T m b c) : KeepT T m a c :=
  ⟨k.os.trans h.os, k.tape.trans h.tape, k.output.trans h.output, Nat.le_trans h.size k.size, fun i o hi h1 h2 h3 => k.blk i o (h.blk i o hi h1 h2 h3) h1 h2 h3⟩
theorem KeepT.of_below {T m : Nat} {w w' : World} (h : Below w.heap.size w w') : KeepT T m w w' :=
  ⟨h.os, h.tape, h.output, h.size, fun b o hb _ _ _ => (h.block b (Array.getElem?_eq_some_iff.1 hb).1).trans hb⟩
theorem mayB_bd {x : Pl} (h : mayB x = true) : 1 ≤ x.n.size ∧ x.n.size ≤ 120 ∧ 0 ≤ x.k ∧ x.k ≤ 1048576 := by
  unfold mayB edgeB at h
  simp at h
  omega
theorem may_st {x : Pl} (h : mayB x = true) {j : Nat} (hj : j ≤ 1000000) : StOk (j, x) := by
  have := mayB_bd h
  exact ⟨hj, by simp only; omega, by simp only; omega, by simp only; omega⟩
def PushPost (B T m : Nat) (ns : List Nd) (j : Nat) (x : Pl) (w : World) (e : Ending) (w' : World) : Prop :=
  ∃ ms n v', e = .returned (.tuple #[.int .i64 ((n : Nat) : Int), .int .i64 0]) ∧ Pushed ns j x ms n ∧ TreeAt B w' T v' m ms ∧ KeepT T m w w' ∧ Below B w w'
theorem TreeAt.base {B : Nat} {w : World} {T : Nat} {v : Value} {m : Nat} {ns : List Nd} (h : TreeAt B w T v m ns) : B ≤ w.heap.size := by
  have := h.lo.1; have := h.lt; omega
theorem Push_ok {B : Nat} {T : Nat} {v : Value} {m : Nat} {ns : List Nd} (j : Nat) (q : Nd) (x : Pl) (w : World) (h : TreeAt B w T v m ns) (hw : Wf ns) (hq : nodeAt ns j = some q) (hm : mayB x = true) (hd : q.d < 64) (hroom : ns.length < 4095) :
    Calls Try.prog 4 #[.pointer (some ⟨T, 0, none⟩), .int .i64 (j : Int), .agg #[.string x.n, .int .i64 x.k]] w (PushPost B T m ns j x w) := by
  have hb := mayB_bd hm
  have hj : j ≤ ns.length := by have := (List.getElem?_eq_some_iff.1 hq).1; simp at this; omega
  have ho := may_st hm (j := j) (by omega)
  by_cases hi : (j, x) ∈ ns.map stepOf
  · obtain ⟨i, hil, hie⟩ := List.mem_iff_getElem.1 hi
    have hi' : (ns.map stepOf)[i]? = some (j, x) := by rw [List.getElem?_eq_getElem hil, hie]
    refine (Push_known j i q x (by omega) w h hq hm (by omega) hi' ho).mono ?_
    rintro e w' ⟨rfl, hbl⟩
    rw [List.getElem?_map] at hi'
    obtain ⟨r, hr, hrs⟩ := Option.map_eq_some_iff.1 hi'
    unfold stepOf at hrs
    simp only [Prod.mk.injEq] at hrs
    exact ⟨ns, i + 1, v, by simp, ⟨hw, List.prefix_refl _, by omega, ⟨r, hr, hrs.1, hrs.2, by omega⟩, fun _ => rfl⟩, h.below hbl, KeepT.of_below hbl, hbl.mono h.base⟩
  · refine (Push_new j q x (by omega) w h hq hm (by omega) hi ho hroom).mono ?_
    rintro e w' ⟨rfl, ⟨v', ht, hv'⟩, ⟨h1, h2, h3⟩, hz, hbk⟩
    obtain ⟨g, cap, hvg, hg1, hg2, _⟩ := h.nodes
    have hown : v.ownBlock = some g := by rw [hvg]; rfl
    obtain ⟨cur, hcur⟩ := row_heap4 (show w.ownsRow B 48 4 (.slice (some ⟨g, 0, none⟩) (ns.length + 1) cap) (ns.length + 1) (ndCs (zeroNd :: ns)) from hvg ▸ h.row)
    refine ⟨_, ns.length + 1, v', by simp, ⟨hw.push hq hd hm hi, List.prefix_append _ _, by simp, ⟨_, by rw [nodeAt_succ, List.getElem?_append_right (Nat.le_refl _), Nat.sub_self]; rfl, rfl, rfl, by omega⟩, fun hin => (hi hin).elim⟩, ht, ⟨h1, h2, h3, hz, fun b o hb hbT hbm hno => ?_⟩, ⟨h1, h2, h3, hz, fun b hb => ?_⟩⟩
    · have hlt := (Array.getElem?_eq_some_iff.1 hb).1
      rw [hbk b hlt (fun e => ?_) hbT hbm]; exact hb
      rw [hown] at e
      cases e
      rw [hcur] at hb
      exact hno cur (0, 0) (Option.some.inj hb).symm
    · have hl := h.lo
      exact hbk b (by have := h.base; omega) (fun e => by rw [hown] at e; cases e; omega) (by omega) (by omega)
theorem infoNode0 : (Try.prog.info? 48).map (fun i => (i.zero, i.size, i.bytes)) = some (some (.agg #[.int .i64 0, .string ⟨#[]⟩, .int .i64 0, .int .i64 0]), 4, 40) := infoNode
/-- a new tree -/
def NewPost (w : World) (e : Ending) (w' : World) : Prop := ∃ T v m, e = .returned (.pointer (some ⟨T, 0, none⟩)) ∧ TreeAt w.heap.size w' T v m [] ∧ Below w.heap.size w w'
set_option maxRecDepth 100000 in
theorem New_in (w : World) : Calls Try.prog 13 #[] w (NewPost w) := by
  have hmk : ∀ W : World, (Instr.makeMap 50 none).run Try.prog W = .ok (.map (some W.heap.size)) (W.alloc (.map #[] 0)) := fun W => rfl
  go_enter Try.func13, Try.ntmps13
  go_wp2
  go_ret
  have hb : Below w.heap.size w (((w.alloc (.cells #[.int .i64 0, .string ⟨#[]⟩, .int .i64 0, .int .i64 0] 48)).alloc (.map #[] 0)).alloc (.cells #[.slice (some ⟨w.heap.size, 0, none⟩) 1 1, .map (some (w.heap.size + 1))] 52)) :=
    (((Below.refl _ w).alloc (Nat.le_refl _) _).alloc (by simp) _).alloc (by simp; omega) _
  refine ⟨w.heap.size + 1 + 1, .slice (some ⟨w.heap.size, 0, none⟩) 1 1, w.heap.size + 1, rfl, ⟨?_, ?_, ?_, ⟨by omega, by omega⟩, (fun n hn => absurd hn (by simp)), by simp⟩, hb⟩
  · have := World.alloc_heap_new ((w.alloc (.cells #[.int .i64 0, .string ⟨#[]⟩, .int .i64 0, .int .i64 0] 48)).alloc (.map #[] 0)) (.cells #[.slice (some ⟨w.heap.size, 0, none⟩) 1 1, .map (some (w.heap.size + 1))] 52)
    simpa using this
  · exact World.ownsRow.alloc (World.ownsRow.alloc ⟨rfl, .inr ⟨w.heap.size, 1, #[.int .i64 0, .string ⟨#[]⟩, .int .i64 0, .int .i64 0], rfl, Nat.le_refl _, heap_alloc_new w _, Nat.le_refl _, (by decide), rfl, rfl⟩⟩ _) _
  · have h1 := StMap.made (w.alloc (.cells #[.int .i64 0, .string ⟨#[]⟩, .int .i64 0, .int .i64 0] 48))
    have h2 := h1.grown (World.grownBy_alloc ((w.alloc (.cells #[.int .i64 0, .string ⟨#[]⟩, .int .i64 0, .int .i64 0] 48)).alloc (.map #[] 0)) (.cells #[.slice (some ⟨w.heap.size, 0, none⟩) 1 1, .map (some (w.heap.size + 1))] 52) none) (by simp)
    simpa using h2
end Go.Proofs.Ytbldeiejlebbiaa.T
