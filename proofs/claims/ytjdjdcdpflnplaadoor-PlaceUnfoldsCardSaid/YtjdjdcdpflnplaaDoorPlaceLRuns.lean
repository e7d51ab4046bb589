/-
  Rows of runs that were lent, and of the document's runs; what both Unfolds answer hangs on places and times alone.
-/
import Derived.Test.YtjdjdcdpflnplaaDoorPlaceRefUnf
import Derived.Test.YtjdjdcdpflnplaaDoorPlaceRunsEq
import Derived.Test.YtjdjdcdpflnplaaDoorPlaceKeep
set_option linter.unusedVariables false
namespace Go.Proofs.YtjdjdcdpflnplaaDoor.T
open Go Go.Lib Go.RowKit

theorem after_spoil' {e : TypeId} {B N1 N2 : Nat} {W W' : World} {x y : Value} {R : List Pl} (hx : ∀ k, x.ownBlock = some k → N1 ≤ k ∧ k < N2) (hy : PRow e B W y R) (hB : N2 ≤ B) (hg : W.grownBy W' x.ownBlock) : PRow e B W' y R := by
  refine PRow.kept' hy hg ?_
  cases hv : y.ownBlock with
  | none => exact .inl rfl
  | some g =>
    right
    intro e
    have e1 := (World.ownsRow.lt hy g hv).1
    have e2 := (hx g e.symm).2
    omega
theorem twin_cons {z z' : Rz} {zs zs' : List Rz} (h : Twin (z :: zs) (z' :: zs')) : z.ps = z'.ps ∧ z.t = z'.t ∧ Twin zs zs' := by
  unfold Twin at h
  simp only [List.map_cons, List.cons.injEq, Prod.mk.injEq] at h
  exact ⟨h.1.1, h.1.2, h.2⟩
theorem twin_plain : ∀ {zs zs' : List Rz}, Twin zs zs' → zs.any badZ = zs'.any badZ ∧ (∀ n, tooB zs n = tooB zs' n) ∧ zs.all (fun z => z.ps.all mayB) = zs'.all (fun z => z.ps.all mayB) ∧ flatZ zs = flatZ zs'
  | [], [], _ => ⟨rfl, fun _ => rfl, rfl, rfl⟩
  | [], _ :: _, h => by simp [Twin] at h
  | _ :: _, [], h => by simp [Twin] at h
  | z :: zs, z' :: zs', h => by
    obtain ⟨h1, h2, h3⟩ := twin_cons h
    obtain ⟨i1, i2, i3, i4⟩ := twin_plain h3
    refine ⟨by simp only [List.any_cons, badZ, h1, h2, i1], fun n => by unfold tooB; rw [h1, h2]; simp only [i2], by simp only [List.all_cons, h1, i3], by rw [flatZ_cons, flatZ_cons, h1, h2, i4]⟩
theorem twin_unf {zs zs' : List Rz} (h : Twin zs zs') : unfC zs = unfC zs' ∧ unfR zs = unfR zs' := by
  obtain ⟨h1, h2, h3, h4⟩ := twin_plain h
  have e : unfC zs = unfC zs' := by unfold unfC; rw [h1, h2, h3]
  exact ⟨e, by unfold unfR; rw [e, h4]⟩

/-- the cells of pairs: a slice, and how often -/
def pcs (qs : List (Value × Rz)) : List Value := qs.flatMap fun q => [q.1, .int .i64 q.2.t]
theorem pcs_snoc (qs : List (Value × Rz)) (q : Value × Rz) : pcs (qs ++ [q]) = pcs qs ++ [q.1, .int .i64 q.2.t] := by simp [pcs]
theorem pcs_at : ∀ (qs : List (Value × Rz)) (j : Nat) (q : Value × Rz), qs[j]? = some q → (pcs qs)[2 * j]? = some q.1 ∧ (pcs qs)[2 * j + 1]? = some (.int .i64 q.2.t)
  | [], j, q, h => by simp at h
  | p :: l, 0, q, h => by simp at h; subst h; simp [pcs]
  | p :: l, j + 1, q, h => by
    have := pcs_at l j q (by simpa using h)
    have e : pcs (p :: l) = p.1 :: .int .i64 p.2.t :: pcs l := by simp [pcs]
    rw [e]
    rw [show 2 * (j + 1) = 2 * j + 1 + 1 by omega]
    simpa using this
/-- rows of pairs whose slices have the property R -/
structure Pairs (ts : TypeId) (R : World → Value → List Pl → Prop) (B : Nat) (w : World) (v : Value) (qs : List (Value × Rz)) : Prop where
  row : w.ownsRow B ts 2 v qs.length (pcs qs)
  each : ∀ q ∈ qs, R w q.1 q.2.ps
def toR (q : Value × Rz) : Rz := ⟨q.1, q.2.ps, q.2.t⟩
theorem pairs_sl {ts : TypeId} {R : World → Value → List Pl → Prop} {B : Nat} {w : World} {v : Value} {qs : List (Value × Rz)} (h : Pairs ts R B w v qs) (hR : ∀ u l, R w u l → PlSl w.heap.size w u l) : RzSl w.heap.size w v (qs.map toR) := by
  have hp : ∀ z ∈ qs.map toR, PlSl w.heap.size w z.v z.ps := fun z hz => by
    obtain ⟨q, hq, rfl⟩ := List.mem_map.1 hz
    exact hR _ _ (h.each q hq)
  rcases h.row.2 with ⟨rfl, h0⟩ | ⟨g, cap, cur, rfl, hg, hg1, _⟩
  · exact ⟨none, 0, by rw [List.length_map, h0], fun hne => absurd (by simpa using h0) hne, hp⟩
  · refine ⟨some ⟨g, 0, none⟩, cap, by rw [List.length_map], fun _ => ⟨g, 0, rfl, (Array.getElem?_eq_some_iff.1 hg1).1, fun j z hj => ?_⟩, hp⟩
    rw [List.getElem?_map] at hj
    obtain ⟨q, hq, rfl⟩ := Option.map_eq_some_iff.1 hj
    obtain ⟨e1, e2⟩ := pcs_at qs j q hq
    have hjl : j < qs.length := (List.getElem?_eq_some_iff.1 hq).1
    exact ⟨by rw [Nat.zero_add, h.row.cellAt (j * 2) (by omega), Nat.mul_comm]; exact e1, by rw [Nat.zero_add, h.row.cellAt (j * 2 + 1) (by omega), Nat.mul_comm]; exact e2⟩
theorem twin_toR {qs : List (Value × Rz)} {zs : List Rz} (h : qs.map (·.2) = zs) : Twin (qs.map toR) zs := by
  subst h
  unfold Twin
  rw [List.map_map, List.map_map]
  rfl
/-- one pair more -/
theorem push_pair {ts sl : TypeId} (hu : Tryd.prog.underlying sl = some (.slice ts)) (hinf : (Tryd.prog.info? ts).map (fun i => (i.zero, i.size, i.bytes)) = some (some (.agg #[.slice none 0 0, .int .i64 0]), 2, 32))
    (B : Nat) (W : World) (v : Value) (qs : List (Value × Rz)) (hR : W.ownsRow B ts 2 v qs.length (pcs qs)) (q : Value × Rz) (h1u : q.1.oneCell' = true) (h64 : qs.length + 1 ≤ 4398046511104) (hB : B ≤ W.heap.size) :
    ∃ v' w', (Builtin.append_ #[sl, sl] sl #[v, .slice (some ⟨W.heap.size, 0, none⟩) 1 1]).run Tryd.prog (W.alloc (.cells #[q.1, .int .i64 q.2.t] ts)) = .ok v' w' ∧ w'.ownsRow B ts 2 v' (qs ++ [q]).length (pcs (qs ++ [q])) ∧ W.grownBy w' v.ownBlock := by
  obtain ⟨i0, hi, hz0, hz1, hz2⟩ := info_parts hinf
  obtain ⟨v', w', h1, h2, h3, _⟩ := run_append_own (P := Tryd.prog) (W.alloc (.cells #[q.1, .int .i64 q.2.t] ts)) B sl sl ts i0 (.agg #[.slice none 0 0, .int .i64 0]) 2 32 hu hi hz0 hz1 hz2 rfl (by decide) v qs.length (pcs qs) (World.ownsRow.alloc hR _) ⟨W.heap.size, 0, none⟩ 1 1 [q.1, .int .i64 q.2.t] rfl (cell2_new W q.1 (.int .i64 q.2.t) ts)
    (by intro x hx; rcases List.mem_cons.1 hx with rfl | hx
        · exact h1u
        · obtain rfl := List.mem_singleton.1 hx; rfl) (by unfold maxLen; omega) (by omega) (by simp; omega)
  refine ⟨v', w', h1, ?_, grown_of_alloc' h3⟩
  rw [pcs_snoc, List.length_append]
  exact h2
abbrev LA := Pairs 37
/-- the program's runs: what is lent -/
def LentAt (B : Nat) : World → Value → List Pl → Prop := fun w u l => Lent B w u l
/-- the document's runs -/
def RefAt (B : Nat) : World → Value → List Pl → Prop := fun w u l => PRow 96 B w u l
theorem lentPairs_below {B : Nat} {w w' : World} {v : Value} {qs : List (Value × Rz)} (h : Pairs 37 (LentAt B) B w v qs) (hb : Below w.heap.size w w') : Pairs 37 (LentAt B) B w' v qs :=
  ⟨row_none h.row (below_grown hb), fun q hq => Lent.below (h.each q hq) hb⟩
theorem refPairs_below {B : Nat} {w w' : World} {v : Value} {qs : List (Value × Rz)} (h : Pairs 47 (RefAt B) B w v qs) (hb : Below w.heap.size w w') : Pairs 47 (RefAt B) B w' v qs :=
  ⟨row_none h.row (below_grown hb), fun q hq => PRow.below (h.each q hq) hb⟩
theorem lent_row {B : Nat} {w : World} {u : Value} {l : List Pl} (h : Lent B w u l) : ∃ g cap, u = .slice (some ⟨g, 0, none⟩) l.length cap ∧ w.ownsRow B 39 2 (.slice (some ⟨g, 0, none⟩) (l.length + 1) cap) (l.length + 1) (plCs (l ++ [mark])) := h
/-- both rows, while pairs are put behind them -/
theorem lentPairs_push {B : Nat} {W w' : World} {v v' : Value} {qs : List (Value × Rz)} (h : Pairs 37 (LentAt B) B W v qs) (q : Value × Rz) (hq : Lent B W q.1 q.2.ps) (hr : w'.ownsRow B 37 2 v' (qs ++ [q]).length (pcs (qs ++ [q]))) (hg : W.grownBy w' v.ownBlock) : Pairs 37 (LentAt B) B w' v' (qs ++ [q]) := by
  have hk : ∀ u l, Lent B W u l → Lent B w' u l := fun u l hu => by
    obtain ⟨g, cap, rfl, hrow⟩ := hu
    exact ⟨g, cap, rfl, hrow.kept hg (apart_ty (by decide) hrow h.row)⟩
  refine ⟨hr, fun p hp => ?_⟩
  rcases List.mem_append.1 hp with hp | hp
  · exact hk _ _ (h.each p hp)
  · obtain rfl := List.mem_singleton.1 hp
    exact hk _ _ hq
theorem refPairs_push {B : Nat} {W w' : World} {v v' : Value} {qs : List (Value × Rz)} (h : Pairs 47 (RefAt B) B W v qs) (q : Value × Rz) (hq : PRow 96 B W q.1 q.2.ps) (hr : w'.ownsRow B 47 2 v' (qs ++ [q]).length (pcs (qs ++ [q]))) (hg : W.grownBy w' v.ownBlock) : Pairs 47 (RefAt B) B w' v' (qs ++ [q]) := by
  have hk : ∀ u l, PRow 96 B W u l → PRow 96 B w' u l := fun u l hu => PRow.kept' hu hg (apart_ty (by decide) hu h.row)
  refine ⟨hr, fun p hp => ?_⟩
  rcases List.mem_append.1 hp with hp | hp
  · exact hk _ _ (h.each p hp)
  · obtain rfl := List.mem_singleton.1 hp
    exact hk _ _ hq
theorem pairs_nil (ts : TypeId) (R : World → Value → List Pl → Prop) (B : Nat) (w : World) : Pairs ts R B w (.slice none 0 0) [] := ⟨World.ownsRow_nil _ _ _ _, fun q h => by cases h⟩
/-- a row of the one type while another row, of another type, grows -/
theorem refPairs_far {B : Nat} {W w' : World} {v u : Value} {n : Nat} {xs : List Value} {qs : List (Value × Rz)} (h : Pairs 47 (RefAt B) B W v qs) (hu : W.ownsRow B 37 2 u n xs) (hg : W.grownBy w' u.ownBlock) : Pairs 47 (RefAt B) B w' v qs :=
  ⟨h.row.kept hg (apart_ty (by decide) h.row hu), fun q hq => PRow.kept' (h.each q hq) hg (apart_ty (by decide) (show W.ownsRow _ _ _ _ _ _ from h.each q hq) hu)⟩
theorem lentPairs_far {B : Nat} {W w' : World} {v u : Value} {n : Nat} {xs : List Value} {qs : List (Value × Rz)} (h : Pairs 37 (LentAt B) B W v qs) (hu : W.ownsRow B 47 2 u n xs) (hg : W.grownBy w' u.ownBlock) : Pairs 37 (LentAt B) B w' v qs :=
  ⟨h.row.kept hg (apart_ty (by decide) h.row hu), fun q hq => by
    obtain ⟨g, cap, e, hrow⟩ := lent_row (h.each q hq)
    exact ⟨g, cap, e, hrow.kept hg (apart_ty (by decide) hrow hu)⟩⟩
theorem pairs_isSl {ts : TypeId} {R : World → Value → List Pl → Prop} {B : Nat} {w : World} {v : Value} {qs : List (Value × Rz)} (h : Pairs ts R B w v qs) : ∃ a c, v = .slice a qs.length c := by
  rcases h.row.2 with ⟨rfl, h0⟩ | ⟨g, cap, cur, rfl, _⟩
  · exact ⟨none, 0, by rw [h0]⟩
  · exact ⟨_, _, rfl⟩
end Go.Proofs.YtjdjdcdpflnplaaDoor.T
