/-
  Rows of places: slices of them, appends, what is kept.
-/
import Derived.Test.YtbldeiejlebbiaaDoorPlaceCopies
set_option linter.unusedVariables false
namespace Go.Proofs.YtbldeiejlebbiaaDoor.T
open Go Go.Lib Go.RowKit

def IsTwo (e : TypeId) (l : List Pl) (c : Nat) (w : World) (en : Ending) (w' : World) : Prop := ∃ v, en = .returned (.tuple #[v, .int .i64 c]) ∧ PRow e w.heap.size w' v l ∧ Below w.heap.size w w'
/-- the first of some places -/
theorem slice_pl (B : Nat) (w : World) (v : Value) (l : List Pl) (h : PlSl B w v l) (k : Nat) (hk : k ≤ l.length) :
    ∃ v', (∀ W : World, (Instr.slice 23 v none (some (.int .i64 (k : Int))) none).run Tryd.prog W = .ok v' W) ∧ PlSl B w v' (l.take k) := by
  obtain ⟨a, c, rfl, h1, h2, h3⟩ := h
  refine ⟨sliced a 0 k c 2, fun W => ?_, ?_⟩
  · rw [run_slice_h (P := Tryd.prog) W 23 a l.length c (by kernel_rfl) .i64 (k : Int) (by omega) (by omega)]
    have hz : (sizeOf (Tryd.prog.elem 23)).run Tryd.prog W = .ok 2 W := by kernel_rfl
    rw [hz]
    simp only [Result.andThen, Int.toNat_natCast]
  · have hlk : (l.take k).length = k := by rw [List.length_take]; omega
    refine ⟨_, c, by unfold sliced; rw [hlk]; rfl, by omega, h2, fun hne => ?_⟩
    have hl0 : l ≠ [] := by intro e; subst e; simp at hne
    obtain ⟨bk, o, rfl, hb, hat⟩ := h3 hl0
    refine ⟨bk, o, ?_, hb, hat.take k⟩
    split <;> simp [Addr.add]
theorem wpList_append_run {P : Program} {ops : Array Oper} {rest : List Oper} {o : Oper} {a : Act} {w : World} {Q : Exit → Act → World → Prop} (hgd : o.guard = none) (s x : Operand) (t : TypeId)
    (ho : o.op = .call { callee := .builtin .append, args := #[s, x], argTypes := #[t, t] }) (v u v' : Value) (w' : World) (hs : a.eval s = v) (hx : a.eval x = u)
    (hrun : (Builtin.append_ #[t, t] o.type #[v, u]).run P w = .ok v' w') (h : wpList P ops Q rest (a.put o.dst v') w') : wpList P ops Q (o :: rest) a w :=
  wpList_plain hgd fun K hK => by
    unfold Oper.wp execOp
    simp only [ho, resolve, invoke, builtin, Sem.run_bind, Sem.run_pure, Result.andThen_ok, List.map_toArray, List.map_cons, List.map_nil, hs, hx, hrun]
    exact hK _ _ h
/-- an append of no thing whose address is none -/
theorem app_none {e sl : TypeId} (hu : Tryd.prog.underlying sl = some (.slice e)) {z : Value} {n b : Nat} (hinf : (Tryd.prog.info? e).map (fun i => (i.zero, i.size, i.bytes)) = some (some z, n, b))
    (W : World) (p : Option Addr) (k cap c : Nat) (hk : k ≤ cap) : (Builtin.append_ #[sl, sl] sl #[.slice p k cap, .slice none 0 c]).run Tryd.prog W = .ok (.slice p k cap) W := by
  obtain ⟨i0, hi, hz0, hz1, hz2⟩ := info_parts hinf
  cases p with
  | none => simp [Builtin.append_, run_underlying hu, sizeOf, typeInfo, hi, Builtin.lenOf, Builtin.firstCells, hk]
  | some p => simp [Builtin.append_, run_underlying hu, sizeOf, typeInfo, hi, Builtin.lenOf, Builtin.firstCells, loadCells, storeCells, hk]
/-- the places of a slice, cell by cell -/
theorem PlAt.cells {w : World} {bk o : Nat} {m : List Pl} (h : PlAt w bk o m) : ∀ j u, (plCs m)[j]? = some u → w.cell? ((⟨bk, o, none⟩ : Addr).add j) = some u := by
  intro j u hj
  have hlt : j < m.length * 2 := by
    rcases Nat.lt_or_ge j (m.length * 2) with h | h
    · exact h
    · rw [List.getElem?_eq_none (by rw [plCs_length]; exact h)] at hj; cases hj
  have hx : m[j / 2]? = some m[j / 2] := List.getElem?_eq_getElem (by omega)
  have hc := h _ _ hx
  have hp := plCs_at m _ _ hx
  have ha : ((⟨bk, o, none⟩ : Addr).add j) = ⟨bk, o + j, none⟩ := by unfold Addr.add; split <;> simp_all
  rw [ha]
  rcases Nat.mod_two_eq_zero_or_one j with e | e
  · rw [show j = 2 * (j / 2) from by omega] at hj ⊢
    rw [hp.1] at hj
    cases hj
    rw [show o + 2 * (j / 2) = o + j / 2 * 2 from by omega]
    exact hc.1
  · rw [show j = 2 * (j / 2) + 1 from by omega] at hj ⊢
    rw [hp.2] at hj
    cases hj
    rw [show o + (2 * (j / 2) + 1) = o + j / 2 * 2 + 1 from by omega]
    exact hc.2
theorem app_all {e sl : TypeId} (hu : Tryd.prog.underlying sl = some (.slice e)) (hinf : (Tryd.prog.info? e).map (fun i => (i.zero, i.size, i.bytes)) = some (some (.agg #[.string ⟨#[]⟩, .int .i64 0]), 2, 24))
    (B B' : Nat) (W : World) (v s : Value) (l m : List Pl) (hrow : PRow e B W v l) (hs : PlSl B' W s m) (h63 : l.length + m.length ≤ 5864062014800) (hB : B ≤ W.heap.size) :
    ∃ v' w', (Builtin.append_ #[sl, sl] sl #[v, s]).run Tryd.prog W = .ok v' w' ∧ PRow e B w' v' (l ++ m) ∧ W.grownBy w' v.ownBlock := by
  obtain ⟨a, c, rfl, h1, h2, h3⟩ := hs
  cases a with
  | none =>
    have hm : m = [] := by
      rcases m with _ | ⟨p, m⟩
      · rfl
      · obtain ⟨bk, o, e, _⟩ := h3 (by simp); cases e
    subst hm
    obtain ⟨p, k, cap, rfl, hk⟩ : ∃ p k cap, v = .slice p k cap ∧ k ≤ cap := by
      rcases hrow.2 with ⟨rfl, _⟩ | ⟨g, cap, cur, rfl, _, _, h3, _⟩
      · exact ⟨_, _, _, rfl, Nat.le_refl _⟩
      · exact ⟨_, _, _, rfl, h3⟩
    exact ⟨_, W, app_none hu hinf W p k cap c hk, by rw [List.append_nil]; exact hrow, ⟨rfl, rfl, rfl, Nat.le_refl _, fun _ _ _ => rfl⟩⟩
  | some ad =>
    obtain ⟨i0, hi, hz0, hz1, hz2⟩ := info_parts hinf
    have hnews : ∀ j u, (plCs m)[j]? = some u → W.cell? (ad.add j) = some u := by
      rcases m with _ | ⟨p, m⟩
      · intro j u hj; simp [plCs] at hj
      · obtain ⟨bk, o, e, _, hat⟩ := h3 (by simp)
        cases e
        exact hat.cells
    obtain ⟨v', w', h1, h2, h3, _⟩ := run_append_own (P := Tryd.prog) W B sl sl e i0 (.agg #[.string ⟨#[]⟩, .int .i64 0]) 2 24 hu hi hz0 hz1 hz2 rfl (by decide) v l.length (plCs l) hrow ad m.length c (plCs m) (plCs_length m) hnews (by
        intro u hu
        simp only [plCs, List.mem_flatMap] at hu
        obtain ⟨p, _, hu⟩ := hu
        simp only [plC, List.mem_cons, List.not_mem_nil, or_false] at hu
        rcases hu with rfl | rfl <;> rfl) (by unfold maxLen; omega) (by omega) hB
    refine ⟨v', w', h1, ?_, h3⟩
    unfold PRow
    rw [plCs_app, List.length_append]
    exact h2
/-- the first of some places of the document's -/
theorem slice_ref (B : Nat) (w : World) (v : Value) (l : List Pl) (h : PlSl B w v l) (k : Nat) (hk : k ≤ l.length) :
    ∃ v', (∀ W : World, (Instr.slice 32 v none (some (.int .i64 (k : Int))) none).run Tryd.prog W = .ok v' W) ∧ PlSl B w v' (l.take k) := by
  obtain ⟨a, c, rfl, h1, h2, h3⟩ := h
  refine ⟨sliced a 0 k c 2, fun W => ?_, ?_⟩
  · rw [run_slice_h (P := Tryd.prog) W 32 a l.length c (by kernel_rfl) .i64 (k : Int) (by omega) (by omega)]
    have hz : (sizeOf (Tryd.prog.elem 32)).run Tryd.prog W = .ok 2 W := by kernel_rfl
    rw [hz]
    simp only [Result.andThen, Int.toNat_natCast]
  · have hlk : (l.take k).length = k := by rw [List.length_take]; omega
    refine ⟨_, c, by unfold sliced; rw [hlk]; rfl, by omega, h2, fun hne => ?_⟩
    have hl0 : l ≠ [] := by intro e; subst e; simp at hne
    obtain ⟨bk, o, rfl, hb, hat⟩ := h3 hl0
    refine ⟨bk, o, ?_, hb, hat.take k⟩
    split <;> simp [Addr.add]
theorem PRow.empty (e : TypeId) (W : World) (B : Nat) (hB : B ≤ W.heap.size) : PRow e B (W.alloc (.cells #[] e)) (.slice (some ⟨W.heap.size, 0, none⟩) 0 0) [] :=
  World.ownsRow_made W #[] 0 hB (by decide) rfl
theorem Lent.blk {B : Nat} {w : World} {v : Value} {l : List Pl} (h : Lent B w v l) : ∃ g cap, v = .slice (some ⟨g, 0, none⟩) l.length cap ∧ B ≤ g ∧ g < w.heap.size := by
  obtain ⟨g, cap, rfl, hr⟩ := h
  obtain ⟨h1, h2⟩ := World.ownsRow.lt hr g rfl
  exact ⟨g, cap, rfl, h1, h2⟩
theorem PRow.kept' {e : TypeId} {B : Nat} {w w' : World} {v : Value} {l : List Pl} {row : Option Nat} (h : PRow e B w v l) (hg : w.grownBy w' row) (hne : v.ownBlock = none ∨ v.ownBlock ≠ row) : PRow e B w' v l := World.ownsRow.kept h hg hne
theorem grown_below {w w' : World} {B : Nat} {row : Option Nat} (hg : w.grownBy w' row) (hB : B ≤ w.heap.size) (hr : ∀ k, row = some k → B ≤ k) : Below B w w' := (Below.refl B w).grown hg hB hr
/-- a row whose block lies below N -/
theorem row_far {e : TypeId} {B N : Nat} {w w' : World} {v : Value} {l : List Pl} {row : Option Nat} (h : PRow e B w v l) (hv : ∀ k, v.ownBlock = some k → k < N) (hg : w.grownBy w' row) (hr : ∀ k, row = some k → N ≤ k) : PRow e B w' v l := by
  refine h.kept' hg ?_
  cases hb : v.ownBlock with
  | none => exact .inl rfl
  | some g =>
    right
    intro e
    have h1 := hv g hb
    have h2 := hr g e.symm
    omega
end Go.Proofs.YtbldeiejlebbiaaDoor.T
