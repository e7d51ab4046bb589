/-
  Rows of clauses: a row of terms, a bool and a number each; erratalaw09.own.
-/
import Derived.Test.YtefmffofboddgaaGreatCasesA
set_option linter.unusedVariables false
namespace Go.Proofs.YtefmffofboddgaaGreat.T
open Go Go.Lib Go.RowKit

/-- a clause as plain data -/
structure Cl where
  t : List Tm
  d : Bool
  to : Int
/-- the cells of clauses: each a slice, a bool and a number -/
def clCs (qs : List (Value × Cl)) : List Value := qs.flatMap fun q => [q.1, .bool q.2.d, .int .i64 q.2.to]
theorem clCs_snoc (qs : List (Value × Cl)) (q : Value × Cl) : clCs (qs ++ [q]) = clCs qs ++ [q.1, .bool q.2.d, .int .i64 q.2.to] := by simp [clCs]
theorem clCs_at : ∀ (qs : List (Value × Cl)) (j : Nat) (q : Value × Cl), qs[j]? = some q → (clCs qs)[3 * j]? = some q.1 ∧ (clCs qs)[3 * j + 1]? = some (.bool q.2.d) ∧ (clCs qs)[3 * j + 2]? = some (.int .i64 q.2.to)
  | [], j, q, h => by simp at h
  | p :: l, 0, q, h => by simp at h; subst h; simp [clCs]
  | p :: l, j + 1, q, h => by
    have := clCs_at l j q (by simpa using h)
    have e : clCs (p :: l) = p.1 :: .bool p.2.d :: .int .i64 p.2.to :: clCs l := by simp [clCs]
    rw [e]
    rw [show 3 * (j + 1) = 3 * j + 1 + 1 + 1 by omega]
    simpa using this
/-- the cells from off on hold these clauses, each term in a block below B -/
def ClAt (B : Nat) (w : World) (bk off : Nat) (l : List Cl) : Prop := ∀ (j : Nat) (x : Cl), l[j]? = some x → ∃ u, w.cell? ⟨bk, off + j * 3, none⟩ = some u ∧ w.cell? ⟨bk, off + j * 3 + 1, none⟩ = some (.bool x.d) ∧ w.cell? ⟨bk, off + j * 3 + 2, none⟩ = some (.int .i64 x.to) ∧ TmSl B w u x.t
/-- a slice that reads as these clauses, in blocks below B -/
def ClSl (B : Nat) (w : World) (v : Value) (l : List Cl) : Prop :=
  ∃ a c, v = .slice a l.length c ∧ l.length ≤ c ∧ c ≤ 9223372036854775807 ∧ (l ≠ [] → ∃ bk o, a = some ⟨bk, o, none⟩ ∧ bk < B ∧ ClAt B w bk o l)
theorem ClAt.below {w w' : World} {B B' bk off : Nat} {l : List Cl} (h : ClAt B w bk off l) (hb : Below B w w') (hk : bk < B) (hB : B ≤ B') : ClAt B' w' bk off l := fun j p hj => by
  obtain ⟨u, h1, h2, h3, h4⟩ := h j p hj
  exact ⟨u, (hb.cell (p := ⟨bk, off + j * 3, none⟩) hk).trans h1, (hb.cell (p := ⟨bk, off + j * 3 + 1, none⟩) hk).trans h2, (hb.cell (p := ⟨bk, off + j * 3 + 2, none⟩) hk).trans h3, h4.below hb hB⟩
theorem ClSl.below {B B' : Nat} {w w' : World} {v : Value} {l : List Cl} (h : ClSl B w v l) (hb : Below B w w') (hB : B ≤ B') : ClSl B' w' v l := by
  obtain ⟨a, c, hv, h1, h2, h3⟩ := h
  refine ⟨a, c, hv, h1, h2, fun hne => ?_⟩
  obtain ⟨bk, o, ha, hk, hc⟩ := h3 hne
  exact ⟨bk, o, ha, by omega, hc.below hb hk hB⟩
/-- the term that marks the end -/
def mark : Tm := ⟨99, 0⟩
/-- terms in a block of their own, the mark behind them -/
def Lent (B : Nat) (w : World) (v : Value) (l : List Tm) : Prop :=
  ∃ g cap, v = .slice (some ⟨g, 0, none⟩) l.length cap ∧ w.ownsRow B 51 2 (.slice (some ⟨g, 0, none⟩) (l.length + 1) cap) (l.length + 1) (tmCs (l ++ [mark]))
theorem Lent.kept {B : Nat} {w w' : World} {v : Value} {l : List Tm} {row : Option Nat} (h : Lent B w v l) (hg : w.grownBy w' row) (hne : v.ownBlock ≠ row) : Lent B w' v l := by
  obtain ⟨g, cap, rfl, hr⟩ := h
  exact ⟨g, cap, rfl, World.ownsRow.kept hr hg (.inr hne)⟩
theorem Lent.below {B : Nat} {w w' : World} {v : Value} {l : List Tm} (h : Lent B w v l) (hb : Below w.heap.size w w') : Lent B w' v l := by
  obtain ⟨g, cap, rfl, hr⟩ := h
  exact ⟨g, cap, rfl, row_none hr (below_grown hb)⟩
theorem Lent.sl {B : Nat} {w : World} {v : Value} {l : List Tm} (h : Lent B w v l) : TmSl w.heap.size w v l := by
  obtain ⟨g, cap, rfl, hr⟩ := h
  have hr' : TRow 51 B w (.slice (some ⟨g, 0, none⟩) (l.length + 1) cap) (l ++ [mark]) := by
    unfold TRow
    rw [List.length_append]
    exact hr
  obtain ⟨a, c, e, h1, h2, h3⟩ := TRow.sl hr'
  obtain ⟨bk, o, e2, h4, h5⟩ := h3 (by simp)
  simp only [Value.slice.injEq] at e
  obtain ⟨rfl, _, rfl⟩ := e
  cases e2
  have := h5.take l.length
  rw [List.take_left] at this
  simp at h1
  exact ⟨_, _, rfl, by omega, h2, fun _ => ⟨g, 0, rfl, h4, this⟩⟩
/-- rows whose elements are of two types lie in two blocks -/
theorem apart_ty {w : World} {B B' : Nat} {e e' : TypeId} {n n' m m' : Nat} {v v' : Value} {xs xs' : List Value} (he : e ≠ e') (h : w.ownsRow B e n v m xs) (h' : w.ownsRow B' e' n' v' m' xs') : v.ownBlock = none ∨ v.ownBlock ≠ v'.ownBlock := by
  obtain ⟨_, ⟨rfl, _⟩ | ⟨g, cap, cur, rfl, _, hg, _⟩⟩ := h
  · exact .inl rfl
  · obtain ⟨_, ⟨rfl, _⟩ | ⟨g', cap', cur', rfl, _, hg', _⟩⟩ := h'
    · right; simp [Value.ownBlock]
    · right
      intro eq
      simp only [Value.ownBlock, Option.some.injEq] at eq
      subst eq
      rw [hg] at hg'
      cases hg'
      exact he rfl
theorem row_base {e : TypeId} {B B' size n : Nat} {w : World} {v : Value} {xs : List Value} (h : w.ownsRow B e size v n xs) (hB : B' ≤ B) : w.ownsRow B' e size v n xs := by
  refine ⟨h.1, ?_⟩
  rcases h.2 with h' | ⟨g, cap, cur, h1, h2, h3⟩
  · exact .inl h'
  · exact .inr ⟨g, cap, cur, h1, by omega, h3⟩
theorem Lent.base {B B' : Nat} {w : World} {v : Value} {l : List Tm} (h : Lent B w v l) (hB : B' ≤ B) : Lent B' w v l := by
  obtain ⟨g, cap, rfl, hr⟩ := h
  exact ⟨g, cap, rfl, row_base hr hB⟩
theorem wpList_append_run {P : Program} {ops : Array Oper} {rest : List Oper} {o : Oper} {a : Act} {w : World} {Q : Exit → Act → World → Prop} (hgd : o.guard = none) (s x : Operand) (t : TypeId)
    (ho : o.op = .call { callee := .builtin .append, args := #[s, x], argTypes := #[t, t] }) (v u v' : Value) (w' : World) (hs : a.eval s = v) (hx : a.eval x = u)
    (hrun : (Builtin.append_ #[t, t] o.type #[v, u]).run P w = .ok v' w') (h : wpList P ops Q rest (a.put o.dst v') w') : wpList P ops Q (o :: rest) a w :=
  wpList_plain hgd fun K hK => by
    unfold Oper.wp execOp
    simp only [ho, resolve, invoke, builtin, Sem.run_bind, Sem.run_pure, Result.andThen_ok, List.map_toArray, List.map_cons, List.map_nil, hs, hx, hrun]
    exact hK _ _ h
/-- rows of clauses, each one's terms lent -/
structure Cls (B : Nat) (w : World) (v : Value) (qs : List (Value × Cl)) : Prop where
  row : w.ownsRow B 53 3 v qs.length (clCs qs)
  each : ∀ q ∈ qs, Lent B w q.1 q.2.t
theorem Cls.nil (B : Nat) (w : World) : Cls B w (.slice none 0 0) [] := ⟨World.ownsRow_nil _ _ _ _, fun q h => by cases h⟩
theorem Cls.below {B : Nat} {w w' : World} {v : Value} {qs : List (Value × Cl)} (h : Cls B w v qs) (hb : Below w.heap.size w w') : Cls B w' v qs :=
  ⟨row_none h.row (below_grown hb), fun q hq => (h.each q hq).below hb⟩
/-- while a row of terms grows -/
theorem Cls.far {B : Nat} {w w' : World} {v u : Value} {n : Nat} {xs : List Value} {qs : List (Value × Cl)} (h : Cls B w v qs) (hu : w.ownsRow B 51 2 u n xs) (hg : w.grownBy w' u.ownBlock) (hN : ∀ q ∈ qs, q.1.ownBlock ≠ u.ownBlock) : Cls B w' v qs :=
  ⟨h.row.kept hg (apart_ty (by decide) h.row hu), fun q hq => (h.each q hq).kept hg (hN q hq)⟩
/-- one clause more, whatever its terms -/
theorem push_raw (B : Nat) (W : World) (v : Value) (qs : List (Value × Cl)) (hR : Cls B W v qs) (q : Value × Cl) (hone : q.1.oneCell' = true) (h64 : qs.length + 1 ≤ 1000000000000) (hB : B ≤ W.heap.size) (W1 : World)
    (hW1 : W1 = W.alloc (.cells #[q.1, .bool q.2.d, .int .i64 q.2.to] 53) ∨ W1 = (W.alloc (.cells #[q.1, .bool q.2.d, .int .i64 q.2.to] 53)).drew) :
    ∃ v' w', (Builtin.append_ #[25, 25] 25 #[v, .slice (some ⟨W.heap.size, 0, none⟩) 1 1]).run Tryz.prog W1 = .ok v' w' ∧ w'.ownsRow B 53 3 v' (qs ++ [q]).length (clCs (qs ++ [q])) ∧ (∀ q ∈ qs, Lent B w' q.1 q.2.t) ∧ (∀ u l, Lent B W u l → Lent B w' u l) ∧ W.grownBy w' v.ownBlock := by
  obtain ⟨i0, hi, hz0, hz1, hz2⟩ := info_parts infoClause
  have hsz : W1.heap.size = W.heap.size + 1 := by rcases hW1 with rfl | rfl <;> simp
  have hg1 : W.grownBy W1 none := by
    rcases hW1 with rfl | rfl
    · exact grown_of_alloc' (o := .cells #[q.1, .bool q.2.d, .int .i64 q.2.to] 53) ⟨rfl, rfl, rfl, Nat.le_refl _, fun _ _ _ => rfl⟩
    · exact grown_of_alloc (o := .cells #[q.1, .bool q.2.d, .int .i64 q.2.to] 53) ⟨rfl, rfl, rfl, Nat.le_refl _, fun _ _ _ => rfl⟩
  have hcell : ∀ j u, [q.1, Value.bool q.2.d, Value.int .i64 q.2.to][j]? = some u → W1.cell? ((⟨W.heap.size, 0, none⟩ : Addr).add j) = some u := by
    rcases hW1 with rfl | rfl
    · exact cell3_new W _ _ _ _
    · exact cell3_new W _ _ _ _
  obtain ⟨v', w', h1, h2, h3, _⟩ := run_append_own (P := Tryz.prog) W1 B 25 25 53 i0 (.agg #[.slice none 0 0, .bool false, .int .i64 0]) 3 40 (by kernel_rfl) hi hz0 hz1 hz2 rfl (by decide) v qs.length (clCs qs) (row_none hR.row hg1) ⟨W.heap.size, 0, none⟩ 1 1 [q.1, .bool q.2.d, .int .i64 q.2.to] rfl hcell
    (by intro x hx
        simp only [List.mem_cons, List.not_mem_nil, or_false] at hx
        rcases hx with rfl | rfl | rfl
        · exact hone
        · rfl
        · rfl) (by unfold maxLen; omega) (by omega) (by omega)
  have hgw : W.grownBy w' v.ownBlock := ⟨h3.os.trans hg1.os, h3.tape.trans hg1.tape, h3.output.trans hg1.output, Nat.le_trans hg1.size h3.size, fun k hk hne => (h3.block k (by omega) hne).trans (hg1.block k hk (by simp))⟩
  have hk : ∀ u l, Lent B W u l → Lent B w' u l := fun u l hu => by
    obtain ⟨g, cap, rfl, hrow⟩ := hu
    exact ⟨g, cap, rfl, hrow.kept hgw (apart_ty (by decide) hrow hR.row)⟩
  refine ⟨v', w', h1, ?_, fun p hp => hk _ _ (hR.each p hp), hk, hgw⟩
  rw [clCs_snoc, List.length_append]
  exact h2
/-- one clause more -/
theorem push_cl (B : Nat) (W : World) (v : Value) (qs : List (Value × Cl)) (hR : Cls B W v qs) (q : Value × Cl) (hq : Lent B W q.1 q.2.t) (h64 : qs.length + 1 ≤ 1000000000000) (hB : B ≤ W.heap.size) (W1 : World)
    (hW1 : W1 = W.alloc (.cells #[q.1, .bool q.2.d, .int .i64 q.2.to] 53) ∨ W1 = (W.alloc (.cells #[q.1, .bool q.2.d, .int .i64 q.2.to] 53)).drew) :
    ∃ v' w', (Builtin.append_ #[25, 25] 25 #[v, .slice (some ⟨W.heap.size, 0, none⟩) 1 1]).run Tryz.prog W1 = .ok v' w' ∧ Cls B w' v' (qs ++ [q]) ∧ W.grownBy w' v.ownBlock := by
  obtain ⟨g, cap, hv, hrq⟩ := id hq
  obtain ⟨v', w', h1, h2, h3, h4, h5⟩ := push_raw B W v qs hR q (by rw [hv]; rfl) h64 hB W1 hW1
  refine ⟨v', w', h1, ⟨h2, fun p hp => ?_⟩, h5⟩
  rcases List.mem_append.1 hp with hp | hp
  · exact h3 p hp
  · obtain rfl := List.mem_singleton.1 hp
    exact h4 _ _ hq
/-- the front of a row of clauses -/
theorem front_sl {B : Nat} {w : World} {v : Value} {qs : List (Value × Cl)} {q : Value × Cl} (h : w.ownsRow B 53 3 v (qs ++ [q]).length (clCs (qs ++ [q]))) (he : ∀ q ∈ qs, Lent B w q.1 q.2.t) :
    ∃ g cap, v = .slice (some ⟨g, 0, none⟩) (qs.length + 1) cap ∧ qs.length + 1 ≤ cap ∧ ClSl w.heap.size w (.slice (some ⟨g, 0, none⟩) qs.length cap) (qs.map (·.2)) := by
  have hlen : (qs ++ [q]).length = qs.length + 1 := by simp
  rcases h.2 with ⟨rfl, h0⟩ | ⟨g, cap, cur, rfl, hg, hg1, h3, h4, _⟩
  · rw [hlen] at h0; omega
  · unfold maxLen at h4
    rw [hlen] at h3
    refine ⟨g, cap, by rw [hlen], h3, some ⟨g, 0, none⟩, cap, by rw [List.length_map], by rw [List.length_map]; omega, by omega, fun _ => ⟨g, 0, rfl, (Array.getElem?_eq_some_iff.1 hg1).1, fun j z hj => ?_⟩⟩
    rw [List.getElem?_map] at hj
    obtain ⟨p, hp, rfl⟩ := Option.map_eq_some_iff.1 hj
    have hjl : j < qs.length := (List.getElem?_eq_some_iff.1 hp).1
    obtain ⟨e1, e2, e3⟩ := clCs_at (qs ++ [q]) j p (by rw [List.getElem?_append_left hjl]; exact hp)
    refine ⟨p.1, ?_, ?_, ?_, (he p (List.mem_of_getElem? hp)).sl⟩
    · rw [Nat.zero_add, h.cellAt (j * 3) (by rw [hlen]; omega), Nat.mul_comm]; exact e1
    · rw [Nat.zero_add, h.cellAt (j * 3 + 1) (by rw [hlen]; omega), Nat.mul_comm]; exact e2
    · rw [Nat.zero_add, h.cellAt (j * 3 + 2) (by rw [hlen]; omega), Nat.mul_comm]; exact e3
theorem ClSl.take {B : Nat} {w : World} {a : Option Addr} {n c : Nat} {l : List Cl} (h : ClSl B w (.slice a n c) l) (k : Nat) (hk : k ≤ l.length) : ClSl B w (.slice a k c) (l.take k) := by
  obtain ⟨a', c', e, h1, h2, h3⟩ := h
  cases e
  have hl : (l.take k).length = k := by rw [List.length_take]; omega
  refine ⟨a, c, by rw [hl], by omega, h2, fun hne => ?_⟩
  obtain ⟨bk, o, ha, hb, hc⟩ := h3 (by intro e; subst e; simp at hne)
  refine ⟨bk, o, ha, hb, fun j x hx => hc j x ?_⟩
  rw [List.getElem?_take] at hx
  split at hx
  · exact hx
  · cases hx
end Go.Proofs.YtefmffofboddgaaGreat.T
