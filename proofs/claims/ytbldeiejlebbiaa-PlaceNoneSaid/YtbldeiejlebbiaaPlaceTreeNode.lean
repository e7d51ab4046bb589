/-
  Push on a tree that takes a new node.
-/
import Derived.Maps.AppendAt
import Derived.Test.YtbldeiejlebbiaaPlaceTreePush
import Derived.Test.YtbldeiejlebbiaaPlaceTreeGrow
set_option linter.unusedVariables false
namespace Go.Proofs.Ytbldeiejlebbiaa.T
open Go Go.Lib Go.RowKit

theorem infoNode : (Try.prog.info? 48).map (fun i => (i.zero, i.size, i.bytes)) = some (some (.agg #[.int .i64 0, .string ⟨#[]⟩, .int .i64 0, .int .i64 0]), 4, 40) := by kernel_rfl
theorem cell4_new (W : World) (a b c d : Value) (t : TypeId) : ∀ j u, [a, b, c, d][j]? = some u → (W.alloc (.cells #[a, b, c, d] t)).cell? ((⟨W.heap.size, 0, none⟩ : Addr).add j) = some u := by
  intro j u hj
  have : ((⟨W.heap.size, 0, none⟩ : Addr).add j) = ⟨W.heap.size, j, none⟩ := by unfold Addr.add; split <;> simp_all
  rw [this, World.cell?_alloc_at _ _ _ _ rfl]
  simpa using hj
theorem node_run (B : Nat) (W : World) (v : Value) (k : Nat) (xs : List Value) (hrow : W.ownsRow B 48 4 v k xs) (p d : Nat) (x : Pl) (h63 : k ≤ 1000000) (hB : B ≤ W.heap.size) :
    ∃ v' w', (Builtin.append_ #[49, 49] 49 #[v, .slice (some ⟨W.heap.size, 0, none⟩) 1 1]).run Try.prog (W.alloc (.cells #[.int .i64 (p : Int), .string x.n, .int .i64 x.k, .int .i64 (d : Int)] 48)).drew = .ok v' w' ∧
      w'.ownsRow B 48 4 v' (k + 1) (xs ++ [.int .i64 (p : Int), .string x.n, .int .i64 x.k, .int .i64 (d : Int)]) ∧ W.grownBy w' v.ownBlock ∧ (v'.ownBlock = v.ownBlock ∨ v'.ownBlock = some (W.heap.size + 1)) := by
  obtain ⟨i0, hi, hz0, hz1, hz2⟩ := info_parts infoNode
  obtain ⟨v', w', h1, h2, h3, _, h5⟩ := run_append_own_at (P := Try.prog) (W.alloc (.cells #[.int .i64 (p : Int), .string x.n, .int .i64 x.k, .int .i64 (d : Int)] 48)).drew B 49 49 48 i0 _ 4 40 (by kernel_rfl) hi hz0 hz1 hz2 rfl (by decide) v k xs (World.ownsRow.alloc hrow _) ⟨W.heap.size, 0, none⟩ 1 1 [.int .i64 (p : Int), .string x.n, .int .i64 x.k, .int .i64 (d : Int)] rfl (cell4_new _ _ _ _ _ _) (by simp [Value.oneCell']) (by unfold maxLen; omega) (by omega) (by simp; omega)
  exact ⟨v', w', h1, h2, grown_of_alloc h3, by simpa using h5⟩

theorem row_heap4 {w : World} {B : Nat} {e : TypeId} {size n k : Nat} {g cap : Nat} {xs : List Value} (h : w.ownsRow B e size (.slice (some ⟨g, 0, none⟩) n cap) k xs) : ∃ cur, w.heap[g]? = some (.cells cur e (0, 0)) := by
  rcases h.2 with ⟨h0, _⟩ | ⟨g', cap', cur, hv, _, hg, _⟩
  · cases h0
  · cases hv; exact ⟨cur, hg⟩
theorem StMap.heap {w : World} {m : Nat} {ns : List (Nat × Pl)} (h : StMap w m ns) : ∃ es clock, w.heap[m]? = some (.map es clock) := by
  obtain ⟨D, ⟨es, clock, hb, _⟩, _⟩ := h
  exact ⟨es, clock, hb⟩
theorem grown_setCell (w : World) (T i : Nat) (u : Value) : w.grownBy (w.setCell ⟨T, i, none⟩ u) (some T) :=
  ⟨rfl, rfl, rfl, by simp, fun k hk hne => heap_setCell_other w _ k u (fun e => hne (by rw [e]))⟩
/-- a tree's new node, from the world in which its row has been grown -/
theorem TreeAt.push {B : Nat} {w w5 : World} {T m g cap g' cap' : Nat} {ns : List Nd} (h : TreeAt B w T (.slice (some ⟨g, 0, none⟩) (ns.length + 1) cap) m ns) (nd : Nd)
    (hrow : w5.ownsRow B 48 4 (.slice (some ⟨g', 0, none⟩) (ns.length + 1 + 1) cap') (ns.length + 1 + 1) (ndCs (zeroNd :: ns) ++ ndC nd)) (hg : w.grownBy w5 (some g))
    (hi : (nd.p, nd.x) ∉ ns.map stepOf) (ho : StOk (nd.p, nd.x)) (hd : nd.d ≤ 64) (hn : ns.length < 4095) :
    ∃ w7, (Instr.mapUpdate 50 (.map (some m)) (stV nd.p nd.x) (.int .i64 ((ns.length : Int) + 1))).run Try.prog (w5.setCell ⟨T, 0, none⟩ (.slice (some ⟨g', 0, none⟩) (ns.length + 1 + 1) cap')).drew = .ok () w7 ∧
      TreeAt B w7 T (.slice (some ⟨g', 0, none⟩) (ns.length + 1 + 1) cap') m (ns ++ [nd]) ∧ w5.heap.size ≤ w7.heap.size ∧ (w7.os = w.os ∧ w7.tape = w.tape ∧ w7.output = w.output) ∧ ∀ b, b < w.heap.size → b ≠ g → b ≠ T → b ≠ m → w7.heap[b]? = w.heap[b]? := by
  obtain ⟨cur, hgc⟩ := row_heap4 h.row
  obtain ⟨cur', hgc'⟩ := row_heap4 hrow
  obtain ⟨es, ck, hmm⟩ := h.map.heap
  have hTg : T ≠ g := fun e => by
    have := h.blk
    rw [e, hgc] at this
    simp only [Option.some.injEq, Obj.cells.injEq] at this
    exact absurd this.2.1 (by decide)
  have hmg : m ≠ g := fun e => by rw [e, hgc] at hmm; cases hmm
  have hmT : m ≠ T := fun e => by rw [e, h.blk] at hmm; cases hmm
  have hT5 : w5.heap[T]? = some (.cells #[.slice (some ⟨g, 0, none⟩) (ns.length + 1) cap, .map (some m)] 52 (0, 0)) := (hg.block T h.lt (by simpa using hTg)).trans h.blk
  have hm5 : StMap w5 m (ns.map stepOf) := h.map.grown hg (by simpa using hmg)
  obtain ⟨es', ck', hmm5⟩ := hm5.heap
  have hTg' : T ≠ g' := fun e => by
    rw [e, hgc'] at hT5
    simp only [Option.some.injEq, Obj.cells.injEq] at hT5
    exact absurd hT5.2.1 (by decide)
  have hmg' : m ≠ g' := fun e => by rw [e, hgc'] at hmm5; cases hmm5
  have hg6 := grown_setCell w5 T 0 (.slice (some ⟨g', 0, none⟩) (ns.length + 1 + 1) cap')
  have hT6 := heap_setCell_same w5 T 0 _ _ (.slice (some ⟨g', 0, none⟩) (ns.length + 1 + 1) cap') hT5
  have hm6 := hm5.grown hg6 (by simpa using hmT)
  have hrow6 := hrow.kept hg6 (.inr (by simpa [Value.ownBlock] using fun e => hTg' e.symm))
  generalize (w5.setCell ⟨T, 0, none⟩ (.slice (some ⟨g', 0, none⟩) (ns.length + 1 + 1) cap')) = w6 at *
  have hm6d : StMap w6.drew m (ns.map stepOf) := hm6
  obtain ⟨w7, hr7, hm7, hg7⟩ := hm6d.store hi ho (fun q hq => by obtain ⟨n0, h0, rfl⟩ := List.mem_map.1 hq; exact (h.ok n0 h0).1) (by simp; omega)
  refine ⟨w7, by simpa using hr7, ⟨?_, ?_, ?_, h.lo, ?_, ?_⟩, ?_, ?_, ?_⟩
  · have hlt6 : T < w6.drew.heap.size := (Array.getElem?_eq_some_iff.1 hT6).1
    rw [hg7.block T hlt6 (by simpa using fun e => hmT e.symm)]
    have e6 : w6.heap[T]? = some (.cells #[.slice (some ⟨g', 0, none⟩) (ns.length + 1 + 1) cap', .map (some m)] 52 (0, 0)) := by simpa using hT6
    exact e6
  · have hrow6d : w6.drew.ownsRow B 48 4 (.slice (some ⟨g', 0, none⟩) (ns.length + 1 + 1) cap') (ns.length + 1 + 1) (ndCs (zeroNd :: ns) ++ ndC nd) := hrow6
    have := hrow6d.kept hg7 (.inr (by simpa [Value.ownBlock] using fun e => hmg' e.symm))
    rw [List.length_append, ← List.cons_append, ndCs_snoc]
    exact this
  · simpa [stepOf] using hm7
  · intro n0 h0
    rcases List.mem_append.1 h0 with h0 | h0
    · exact h.ok n0 h0
    · simp at h0; subst h0; exact ⟨ho, hd⟩
  · simp; omega
  · exact Nat.le_trans hg6.size hg7.size
  · exact ⟨hg7.os.trans (hg6.os.trans hg.os), hg7.tape.trans (hg6.tape.trans hg.tape), hg7.output.trans (hg6.output.trans hg.output)⟩
  · intro b hb h1 h2 h3
    have hb5 : b < w5.heap.size := Nat.lt_of_lt_of_le hb hg.size
    have hb6 : b < w6.heap.size := Nat.lt_of_lt_of_le hb5 hg6.size
    exact (hg7.block b hb6 (by simpa using h3)).trans ((hg6.block b hb5 (by simpa using h2)).trans (hg.block b hb (by simpa using h1)))

set_option maxRecDepth 100000 in
set_option maxHeartbeats 4000000 in
theorem Push_new {B : Nat} {T : Nat} {v : Value} {m : Nat} {ns : List Nd} (j : Nat) (q : Nd) (x : Pl) (hx : x.n.size ≤ 140737488351232) (w : World) (h : TreeAt B w T v m ns) (hq : (zeroNd :: ns)[j]? = some q) (hm : mayB x = true) (hd : q.d ≠ 64)
    (hi : (j, x) ∉ ns.map stepOf) (ho : StOk (j, x)) (hroom : ns.length < 4095) :
    Calls Try.prog 4 #[.pointer (some ⟨T, 0, none⟩), .int .i64 (j : Int), .agg #[.string x.n, .int .i64 x.k]] w fun e w' => e = .returned (.tuple #[.int .i64 ((ns.length : Int) + 1), .int .i64 0]) ∧ (∃ v', TreeAt B w' T v' m (ns ++ [⟨j, x, q.d + 1⟩]) ∧ (v'.ownBlock = v.ownBlock ∨ ∃ b, v'.ownBlock = some b ∧ w.heap.size ≤ b)) ∧ (w'.os = w.os ∧ w'.tape = w.tape ∧ w'.output = w.output) ∧ w.heap.size ≤ w'.heap.size ∧ ∀ b, b < w.heap.size → v.ownBlock ≠ some b → b ≠ T → b ≠ m → w'.heap[b]? = w.heap[b]? := by
  have hlt := h.lt
  have hj : j < ns.length + 1 := by have := (List.getElem?_eq_some_iff.1 hq).1; simpa using this
  go_enter Try.func4, Try.ntmps4
  have hB1 : Below w.heap.size w (w.alloc (.cells #[.string x.n, .int .i64 x.k] 24)) := (Below.refl _ w).alloc (Nat.le_refl _) _
  have k0 : (w.alloc (.cells #[.string x.n, .int .i64 x.k] 24)).cell? ⟨w.heap.size, 0, none⟩ = some (.string x.n) := by simp
  have k1 : (w.alloc (.cells #[.string x.n, .int .i64 x.k] 24)).cell? ⟨w.heap.size, 1, none⟩ = some (.int .i64 x.k) := by simp
  have hz1 : (w.alloc (.cells #[.string x.n, .int .i64 x.k] 24)).heap.size = w.heap.size + 1 := by simp
  have cH := has_in (j : Int) _ (h.below hB1)
  rw [hasB_true hj] at cH
  have cM := mayBe_in x (by omega) (w.alloc (.cells #[.string x.n, .int .i64 x.k] 24))
  rw [hm] at cM
  obtain ⟨g, cap, rfl, _, _, hat⟩ := h.nodes
  obtain ⟨e1, e2, e3, e4⟩ := hat j q hq
  have c0 := h.c0
  have c1 := h.c1
  have hn := h.few
  have hg : g < w.heap.size := by assumption
  have hdd : ((q.d : Int) == 64) = false := by simp; omega
  have hd64 : q.d ≤ 64 := by
    cases j with
    | zero => simp [zeroNd] at hq; subst hq; exact Nat.zero_le _
    | succ j => exact (h.ok q (List.mem_of_getElem? (by simpa using hq))).2
  clear hat hq
  generalize hl : ns.length = n at *
  go_wp2_with (first | (go_at_call 15; refine cH.mono ?_; rintro e w' ⟨rfl, rfl⟩) | (go_at_call 16; refine cM.mono ?_; rintro e w' ⟨rfl, hb2⟩; have hB2 := hB1.trans (hb2.mono hB1.size); have c0' := (hB2.cell (p := ⟨T, 0, none⟩) hlt).trans c0; have c1' := (hB2.cell (p := ⟨T, 1, none⟩) hlt).trans c1; have e4' := (hB2.cell (p := ⟨g, j * 4 + 3, none⟩) hg).trans e4; have hFd := (h.below hB2.drew).map.none hi ho; unfold stV at hFd; have k0' := (hb2.cell (p := ⟨w.heap.size, 0, none⟩) (by rw [hz1]; exact Nat.lt_succ_self _)).trans k0; have k1' := (hb2.cell (p := ⟨w.heap.size, 1, none⟩) (by rw [hz1]; exact Nat.lt_succ_self _)).trans k1))
  go_region
  have c0d : w'.drew.cell? ⟨T, 0, none⟩ = _ := c0'
  have cC := fun W => copied_in x hx W
  go_wp2_with (go_at_call 17; refine (cC _).mono ?_; rintro e w3 ⟨rfl, hb3⟩)
  have hsz3 : w'.heap.size ≤ w3.heap.size := hb3.size
  have hB3 : Below w.heap.size w w3 := hB2.drew.trans (hb3.mono hB2.size)
  have hB4 : Below w.heap.size w (w3.alloc (.cells #[.int .i64 (j : Int), .string x.n, .int .i64 x.k] 46)) := hB3.alloc hB3.size _
  have h4 := h.below hB4
  have d0 : (w3.alloc (.cells #[.int .i64 (j : Int), .string x.n, .int .i64 x.k] 46)).cell? ⟨w3.heap.size, 0, none⟩ = some (.int .i64 (j : Int)) := by simp
  have d1 : (w3.alloc (.cells #[.int .i64 (j : Int), .string x.n, .int .i64 x.k] 46)).cell? ⟨w3.heap.size, 1, none⟩ = some (.string x.n) := by simp
  have d2 : (w3.alloc (.cells #[.int .i64 (j : Int), .string x.n, .int .i64 x.k] 46)).cell? ⟨w3.heap.size, 2, none⟩ = some (.int .i64 x.k) := by simp
  have hz4 : (w3.alloc (.cells #[.int .i64 (j : Int), .string x.n, .int .i64 x.k] 46)).heap.size = w3.heap.size + 1 := by simp
  generalize (w3.alloc (.cells #[.int .i64 (j : Int), .string x.n, .int .i64 x.k] 46)) = w4 at *
  obtain ⟨v', w5, hrun, hrow5, hg5, hown5⟩ := node_run B w4 _ _ _ h4.row j (q.d + 1) x (by omega) (by have := h4.lo.1; have := h4.lt; omega)
  obtain ⟨g', cap', rfl, _⟩ := own_slice4 hrow5
  rw [hl] at hrun
  have c4 := h4.c0
  have c5 := h4.c1
  have f4 := h4.f0
  have hg5' : w4.grownBy w5 (some g) := by simpa [Value.ownBlock] using hg5
  have h4' : TreeAt B w4 T (.slice (some ⟨g, 0, none⟩) (ns.length + 1) cap) m ns := by rw [hl]; exact h4
  obtain ⟨w7, hr7, ht7, hz7, ho7, hk7⟩ := h4'.push ⟨j, x, q.d + 1⟩ (by rw [hl]; rw [hl] at hrow5; exact hrow5) hg5' hi ho (by simp only; omega) (by omega)
  have hTg : T ≠ g := fun e => by
    obtain ⟨cur, hgc⟩ := row_heap4 h4.row
    have := h4.blk
    rw [e, hgc] at this
    simp only [Option.some.injEq, Obj.cells.injEq] at this
    exact absurd this.2.1 (by decide)
  have hT5 : w5.heap[T]? = _ := (hg5'.block T h4.lt (by simpa using hTg)).trans h4.blk
  have c6 : w5.cell? ⟨T, 0, none⟩ = some (.slice (some ⟨g, 0, none⟩) (n + 1) cap) := by simp [World.cell?, hT5]
  have f6 : w5.frozen? ⟨T, 0, none⟩ = false := by simp [World.frozen?, hT5]
  have hx0 : (w5.setCell ⟨T, 0, none⟩ (.slice (some ⟨g', 0, none⟩) (n + 1 + 1) cap')).cell? ⟨T, 1, none⟩ = some (.map (some m)) := by
    rw [cell_other _ _ _ _ _ (by decide)]; simp [World.cell?, hT5]
  have hbk : ∀ o, (w5.setCell ⟨T, 0, none⟩ (.slice (some ⟨g', 0, none⟩) (n + 1 + 1) cap')).cell? ⟨w3.heap.size, o, none⟩ = w4.cell? ⟨w3.heap.size, o, none⟩ := fun o => by
    have hlt3 : w3.heap.size < w4.heap.size := by omega
    have n1 : w3.heap.size ≠ g := by have := hB3.size; omega
    have n2 : w3.heap.size ≠ T := by have := hB3.size; omega
    exact World.cell?_of_block ((heap_setCell_other w5 ⟨T, 0, none⟩ _ _ n2).trans (hg5'.block _ hlt3 (by simpa using n1)))
  have b0 := (hbk 0).trans d0
  have b1 := (hbk 1).trans d1
  have b2 := (hbk 2).trans d2
  rw [hl] at hr7
  unfold stV at hr7
  simp only at hr7
  rw [show ((q.d + 1 : Nat) : Int) = (q.d : Int) + 1 from by simp] at hrun hrow5
  have hwr : IntKind.i64.wrap ((q.d : Int) + 1) = (q.d : Int) + 1 := IntWalk.i64_in _ (by omega)
  have c4n : (w4.alloc (.cells #[.int .i64 (j : Int), .string x.n, .int .i64 x.k, .int .i64 ((q.d : Int) + 1)] 48)).drew.cell? ⟨T, 0, none⟩ = some (.slice (some ⟨g, 0, none⟩) (n + 1) cap) := (((Below.refl w4.heap.size w4).alloc (Nat.le_refl _) _).drew.cell (p := ⟨T, 0, none⟩) h4.lt).trans c4
  go_region_law (refine step_append_run rfl (.tmp 59) (.tmp 64) 49 rfl _ (.slice (some ⟨w4.heap.size, 0, none⟩) 1 1) (.slice (some ⟨g', 0, none⟩) (n + 1 + 1) cap') w5 (by simp [Act.eval]) (by simp [Act.eval]) hrun ?_)
  all_goals go_wp2
  all_goals
    go_region
    go_wp2
    go_ret2
    refine ⟨rfl, ⟨_, ht7, ?_⟩, ?_, ?_, ?_⟩
    · rcases hown5 with h5 | h5
      · exact .inl h5
      · exact .inr ⟨_, h5, by have := hB4.size; omega⟩
    · exact ⟨ho7.1.trans hB4.os, ho7.2.1.trans hB4.tape, ho7.2.2.trans hB4.output⟩
    · exact Nat.le_trans hB4.size (Nat.le_trans hg5'.size hz7)
    · intro b hb h1 h2 h3
      exact (hk7 b (Nat.lt_of_lt_of_le hb hB4.size) (fun e => h1 (by simp [Value.ownBlock, e])) h2 h3).trans (hB4.block b hb)
end Go.Proofs.Ytbldeiejlebbiaa.T
