/-
  PlaceMeets: what it keeps of each list that is added, and its node.
-/
import Derived.Test.YtbldeiejlebbiaaDoorPlaceTrB
import Derived.Test.YtbldeiejlebbiaaDoorPlaceTrC
import Derived.Test.YtbldeiejlebbiaaDoorPlaceBackQ
import Derived.Test.YtbldeiejlebbiaaDoorPlaceFit
import Derived.Test.YtbldeiejlebbiaaDoorPlaceMeetsC
set_option linter.unusedVariables false
namespace Go.Proofs.YtbldeiejlebbiaaDoor.T
open Go Go.Lib Go.RowKit

theorem infoSl : (Tryd.prog.info? 23).map (fun i => (i.zero, i.size, i.bytes)) = some (some (.slice none 0 0), 1, 24) := by kernel_rfl
theorem infoNum : (Tryd.prog.info? 3).map (fun i => (i.zero, i.size, i.bytes)) = some (some (.int .i64 0), 1, 8) := by kernel_rfl
/-- one slice behind a row of slices -/
theorem push_sl (B : Nat) (W : World) (a : Value) (n : Nat) (xs : List Value) (h : W.ownsRow B 23 1 a n xs) (u : Value) (h1u : u.oneCell' = true) (h64 : n ≤ 1000) (hB : B ≤ W.heap.size) :
    ∃ v' w', (Builtin.append_ #[79, 79] 79 #[a, .slice (some ⟨W.heap.size, 0, none⟩) 1 1]).run Tryd.prog (W.alloc (.cells #[u] 23)) = .ok v' w' ∧ w'.ownsRow B 23 1 v' (n + 1) (xs ++ [u]) ∧ W.grownBy w' a.ownBlock := by
  obtain ⟨i0, hi, hz0, hz1, hz2⟩ := info_parts infoSl
  obtain ⟨v', w', h1, h2, h3, _⟩ := run_append_own (P := Tryd.prog) (W.alloc (.cells #[u] 23)) B 79 79 23 i0 (.slice none 0 0) 1 24 (by kernel_rfl) hi hz0 hz1 hz2 rfl (by decide) a n xs (World.ownsRow.alloc h _) ⟨W.heap.size, 0, none⟩ 1 1 [u] rfl (cell1_new W u _)
    (by intro x hx; obtain rfl := List.mem_singleton.1 hx; exact h1u) (by unfold maxLen; omega) (by omega) (by simp; omega)
  exact ⟨v', w', h1, h2, grown_of_alloc' h3⟩
/-- one number behind a row of numbers -/
theorem push_num (B : Nat) (W : World) (a : Value) (n : Nat) (xs : List Value) (h : W.ownsRow B 3 1 a n xs) (k : Int) (h64 : n ≤ 1000) (hB : B ≤ W.heap.size) :
    ∃ v' w', (Builtin.append_ #[80, 80] 80 #[a, .slice (some ⟨W.heap.size, 0, none⟩) 1 1]).run Tryd.prog (W.alloc (.cells #[.int .i64 k] 3)) = .ok v' w' ∧ w'.ownsRow B 3 1 v' (n + 1) (xs ++ [.int .i64 k]) ∧ W.grownBy w' a.ownBlock := by
  obtain ⟨i0, hi, hz0, hz1, hz2⟩ := info_parts infoNum
  obtain ⟨v', w', h1, h2, h3, _⟩ := run_append_own (P := Tryd.prog) (W.alloc (.cells #[.int .i64 k] 3)) B 80 80 3 i0 (.int .i64 0) 1 8 (by kernel_rfl) hi hz0 hz1 hz2 rfl (by decide) a n xs (World.ownsRow.alloc h _) ⟨W.heap.size, 0, none⟩ 1 1 [.int .i64 k] rfl (cell1_new W _ _)
    (by intro x hx; obtain rfl := List.mem_singleton.1 hx; rfl) (by unfold maxLen; omega) (by omega) (by simp; omega)
  exact ⟨v', w', h1, h2, grown_of_alloc' h3⟩

/-- a row of what is no node and no tree outlives a tree's growth -/
theorem row_keepT {B B' T m size n : Nat} {e : TypeId} {w w' : World} {u v : Value} {xs : List Value} {ns : List Nd} (hn : e ≠ 102) (ht0 : e ≠ 106) (h : w.ownsRow B e size u n xs) (ht : TreeAt B' w T v m ns) (k : KeepT T m w w') : w'.ownsRow B e size u n xs := by
  obtain ⟨hl, hno | ⟨g, cap, cur, rfl, hg, hcur, r⟩⟩ := h
  · exact ⟨hl, .inl hno⟩
  · refine ⟨hl, .inr ⟨g, cap, cur, rfl, hg, k.blk g _ hcur (fun e => ?_) (fun e => ?_) (fun cs fr e => ?_), r⟩⟩
    · subst e
      rw [ht.blk] at hcur
      simp only [Option.some.injEq, Obj.cells.injEq] at hcur
      exact ht0 hcur.2.1.symm
    · subst e
      obtain ⟨es, n, hm⟩ := ht.map.obj
      rw [hm] at hcur
      simp at hcur
    · simp only [Obj.cells.injEq] at e
      exact hn e.2.1
/-- a tree outlives the growth of a row of another type -/
theorem TreeAt.kept {B B' T m size n : Nat} {e : TypeId} {w w' : World} {u v : Value} {xs : List Value} {ns : List Nd} (hn : 102 ≠ e) (ht0 : e ≠ 106) (h : TreeAt B w T v m ns) (hr : w.ownsRow B' e size u n xs) (hg : w.grownBy w' u.ownBlock) : TreeAt B w' T v m ns := by
  have hT : some T ≠ u.ownBlock := fun q => by
    obtain ⟨_, ⟨rfl, _⟩ | ⟨g, cap, cur, rfl, _, hcur, _⟩⟩ := hr
    · cases q
    · simp only [Value.ownBlock, Option.some.injEq] at q
      subst q
      rw [h.blk] at hcur
      simp only [Option.some.injEq, Obj.cells.injEq] at hcur
      exact ht0 hcur.2.1.symm
  have hM : some m ≠ u.ownBlock := fun q => by
    obtain ⟨_, ⟨rfl, _⟩ | ⟨g, cap, cur, rfl, _, hcur, _⟩⟩ := hr
    · cases q
    · simp only [Value.ownBlock, Option.some.injEq] at q
      subst q
      obtain ⟨es, n, hm⟩ := h.map.obj
      rw [hm] at hcur
      simp at hcur
  exact ⟨(hg.block T h.lt hT).trans h.blk, h.row.kept hg (apart_ty hn h.row hr), h.map.grown hg hM, h.lo, h.ok, h.few⟩
/-- a list that was added: the slice, the places, the node -/
structure Rec where
  v : Value
  l : List Pl
  n : Nat
structure Recs (B : Nat) (w : World) (a b : Value) (rs : List Rec) : Prop where
  rowA : w.ownsRow B 23 1 a rs.length (rs.map (·.v))
  rowB : w.ownsRow B 3 1 b rs.length (rs.map fun r => Value.int .i64 (r.n : Int))
  each : ∀ r ∈ rs, PRow 39 B w r.v r.l
def ToldR (ns : List Nd) (rs : List Rec) : Prop := ∀ r ∈ rs, checkN r.l = 0 ∧ (∃ q, nodeAt ns r.n = some q) ∧ path ns r.n = r.l
theorem Recs.nil (B : Nat) (w : World) : Recs B w (.slice none 0 0) (.slice none 0 0) [] := ⟨World.ownsRow_nil _ _ _ _, World.ownsRow_nil _ _ _ _, fun r h => by cases h⟩
theorem Recs.below {B : Nat} {w w' : World} {a b : Value} {rs : List Rec} (h : Recs B w a b rs) (hb : Below w.heap.size w w') : Recs B w' a b rs :=
  ⟨row_none h.rowA (below_grown hb), row_none h.rowB (below_grown hb), fun r hr => (h.each r hr).below hb⟩
theorem Recs.keepT {B B' T m : Nat} {w w' : World} {a b v : Value} {rs : List Rec} {ns : List Nd} (h : Recs B w a b rs) (ht : TreeAt B' w T v m ns) (k : KeepT T m w w') : Recs B w' a b rs :=
  ⟨row_keepT (by decide) (by decide) h.rowA ht k, row_keepT (by decide) (by decide) h.rowB ht k, fun r hr => (h.each r hr).keepT ht k⟩
theorem ToldR.grow {ns ms : List Nd} {rs : List Rec} (h : ToldR ns rs) (hw : Wf ns) (hw' : Wf ms) (hp : ns <+: ms) : ToldR ms rs := fun r hr => by
  obtain ⟨h1, ⟨q, h2⟩, h3⟩ := h r hr
  exact ⟨h1, ⟨q, nodeAt_pre hp h2⟩, by rw [path_pre hw hw' hp r.n r.n q (Nat.le_refl _) h2, h3]⟩
theorem ToldR.push {ns : List Nd} {rs : List Rec} (h : ToldR ns rs) {r : Rec} (h1 : checkN r.l = 0) {q : Nd} (h2 : nodeAt ns r.n = some q) (h3 : path ns r.n = r.l) : ToldR ns (rs ++ [r]) := fun x hx => by
  rcases List.mem_append.1 hx with hx | hx
  · exact h x hx
  · obtain rfl := List.mem_singleton.1 hx
    exact ⟨h1, ⟨q, h2⟩, h3⟩
/-- both rows grown by one -/
theorem Recs.push {B : Nat} {w w1 w2 : World} {a b a' b' : Value} {rs : List Rec} (h : Recs B w a b rs) (r : Rec) (hr : PRow 39 B w r.v r.l) (hA : w1.ownsRow B 23 1 a' (rs.length + 1) (rs.map (·.v) ++ [r.v])) (hg1 : w.grownBy w1 a.ownBlock)
    (hB : w2.ownsRow B 3 1 b' (rs.length + 1) ((rs.map fun r => Value.int .i64 (r.n : Int)) ++ [.int .i64 (r.n : Int)])) (hrb : w1.ownsRow B 3 1 b rs.length (rs.map fun r => Value.int .i64 (r.n : Int))) (hg2 : w1.grownBy w2 b.ownBlock) : Recs B w2 a' b' (rs ++ [r]) := by
  have hp : ∀ u l, PRow 39 B w u l → PRow 39 B w2 u l := fun u l hu => by
    have h1 := PRow.kept' hu hg1 (apart_ty (by decide) hu h.rowA)
    exact PRow.kept' h1 hg2 (apart_ty (by decide) h1 hrb)
  refine ⟨?_, ?_, fun x hx => ?_⟩
  · rw [List.length_append, List.map_append]
    exact hA.kept hg2 (apart_ty (by decide) hA hrb)
  · rw [List.length_append, List.map_append]
    exact hB
  · rcases List.mem_append.1 hx with hx | hx
    · exact hp _ _ (h.each x hx)
    · obtain rfl := List.mem_singleton.1 hx
      exact hp _ _ hr
/-- what is read of the k-th -/
theorem Recs.at {B : Nat} {w : World} {a b : Value} {rs : List Rec} (h : Recs B w a b rs) {k : Nat} {r : Rec} (hk : rs[k]? = some r) :
    ∃ g g' c c', a = .slice (some ⟨g, 0, none⟩) rs.length c ∧ b = .slice (some ⟨g', 0, none⟩) rs.length c' ∧ g < w.heap.size ∧ g' < w.heap.size ∧ w.cell? ⟨g, k, none⟩ = some r.v ∧ w.cell? ⟨g', k, none⟩ = some (.int .i64 (r.n : Int)) := by
  obtain ⟨n, hn⟩ : ∃ n, rs.length = n + 1 := ⟨rs.length - 1, by have := (List.getElem?_eq_some_iff.1 hk).1; omega⟩
  have hA := h.rowA
  have hB := h.rowB
  have hkl : k < n + 1 := by have := (List.getElem?_eq_some_iff.1 hk).1; omega
  rw [hn] at hA hB
  obtain ⟨g, c, rfl, _⟩ := own_slice hA
  obtain ⟨g', c', rfl, _⟩ := own_slice hB
  refine ⟨g, g', c, c', by rw [hn], by rw [hn], (hA.lt g rfl).2, (hB.lt g' rfl).2, ?_, ?_⟩
  · rw [hA.cellAt k (by omega), List.getElem?_map, hk]; rfl
  · rw [hB.cellAt k (by omega), List.getElem?_map, hk]; rfl
/-- the same, the blocks given -/
theorem Recs.cells {B : Nat} {w : World} {g g' k c c' : Nat} {rs : List Rec} (h : Recs B w (.slice (some ⟨g, 0, none⟩) k c) (.slice (some ⟨g', 0, none⟩) k c') rs) {j : Nat} {r : Rec} (hj : rs[j]? = some r) : w.cell? ⟨g, j, none⟩ = some r.v ∧ w.cell? ⟨g', j, none⟩ = some (.int .i64 (r.n : Int)) := by
  obtain ⟨_, _, _, _, h1, h2, _, _, h3, h4⟩ := h.at hj
  simp only [Value.slice.injEq, Option.some.injEq, Addr.mk.injEq] at h1 h2
  obtain ⟨⟨rfl, _⟩, _, _⟩ := h1
  obtain ⟨⟨rfl, _⟩, _, _⟩ := h2
  exact ⟨h3, h4⟩
theorem Recs.sl {B : Nat} {w : World} {a b : Value} {rs : List Rec} (h : Recs B w a b rs) : (∃ p c, a = .slice p rs.length c) ∧ ∃ p c, b = .slice p rs.length c := by
  constructor
  · rcases h.rowA.2 with ⟨rfl, h0⟩ | ⟨g, cap, cur, rfl, _⟩
    · exact ⟨none, 0, by rw [h0]⟩
    · exact ⟨_, _, rfl⟩
  · rcases h.rowB.2 with ⟨rfl, h0⟩ | ⟨g, cap, cur, rfl, _⟩
    · exact ⟨none, 0, by rw [h0]⟩
    · exact ⟨_, _, rfl⟩
/-- PLAIN: where two of them meet -/
theorem meet_told {ns : List Nd} {rs : List Rec} (hw : Wf ns) (h : ToldR ns rs) {i k : Nat} {r s : Rec} (hi : rs[i]? = some r) (hk : rs[k]? = some s) :
    (∃ q, nodeAt ns (meetN ns r.n s.n) = some q) ∧ path ns (meetN ns r.n s.n) = r.l.take (com r.l s.l) ∧ (r.n = s.n ↔ r.l = s.l) := by
  obtain ⟨_, ⟨q, h1⟩, h2⟩ := h r (List.mem_of_getElem? hi)
  obtain ⟨_, ⟨q', h1'⟩, h2'⟩ := h s (List.mem_of_getElem? hk)
  obtain ⟨e1, e2⟩ := meetF_path hw (r.n + s.n) r.n s.n q q' (Nat.le_refl _) h1 h1'
  rw [h2, h2'] at e1
  exact ⟨e2, e1, fun e => by rw [← h2, ← h2', e], fun e => path_inj hw r.n r.n s.n q q' (Nat.le_refl _) h1 h1' (by rw [h2, h2', e])⟩
/-- PLAIN: a list that is added twice is one node -/
theorem same_node {ns ms : List Nd} {l : List Pl} {n k : Nat} {q q' : Nd} (hw : Wf ns) (hw' : Wf ms) (hp : ns <+: ms) (h1 : nodeAt ns n = some q) (h2 : path ns n = l) (h3 : nodeAt ms k = some q') (h4 : path ms k = l) : n = k :=
  path_inj hw' n n k q q' (Nat.le_refl _) (nodeAt_pre hp h1) h3 (by rw [path_pre hw hw' hp n n q (Nat.le_refl _) h1, h2, h4])
theorem depth_node {ns : List Nd} {l : List Pl} {n : Nat} {q : Nd} (hw : Wf ns) (h1 : nodeAt ns n = some q) (h2 : path ns n = l) : depthOf ns (n : Int) = l.length := by
  have h3 := path_depth hw n n q (Nat.le_refl _) h1
  rw [h2] at h3
  have hl : n < ns.length + 1 := by have := (List.getElem?_eq_some_iff.1 h1).1; simpa using this
  unfold depthOf
  rw [if_pos (hasB_true hl), Int.toNat_natCast]
  have e : (zeroNd :: ns)[n]? = some q := h1
  rw [e]
  exact h3.symm
/-- what came in: rows of places -/
def RowsSl (B : Nat) (w : World) (v : Value) (qs : List (Value × List Pl)) : Prop :=
  (∃ a c, v = .slice a qs.length c ∧ (qs ≠ [] → ∃ bk o, a = some ⟨bk, o, none⟩ ∧ bk < B ∧ ∀ j q, qs[j]? = some q → w.cell? ⟨bk, o + j, none⟩ = some q.1)) ∧ ∀ q ∈ qs, PlSl B w q.1 q.2
/-- all that PlaceMeets keeps, at one moment -/
structure AtM (B T m : Nat) (w0 w : World) (a b tv : Value) (rs : List Rec) (ns : List Nd) : Prop where
  recs : Recs B w a b rs
  told : ToldR ns rs
  wf : Wf ns
  tree : TreeAt B w T tv m ns
  low : Below B w0 w
theorem AtM.below {B T m : Nat} {w0 w w' : World} {a b tv : Value} {rs : List Rec} {ns : List Nd} (h : AtM B T m w0 w a b tv rs ns) (hb : Below w.heap.size w w') : AtM B T m w0 w' a b tv rs ns :=
  ⟨h.recs.below hb, h.told, h.wf, h.tree.below hb, h.low.trans (hb.mono h.tree.base)⟩
theorem AtM.add {B T m : Nat} {w0 w w' : World} {a b tv tv' : Value} {rs : List Rec} {ns ms : List Nd} (h : AtM B T m w0 w a b tv rs ns) (hw : Wf ms) (hp : ns <+: ms) (ht : TreeAt B w' T tv' m ms) (hk : KeepT T m w w') (hb : Below B w w') : AtM B T m w0 w' a b tv' rs ms :=
  ⟨h.recs.keepT h.tree hk, h.told.grow h.wf hw hp, hw, ht, h.low.trans hb⟩
/-- a list that is copied: append([]Place{}, l...) -/
theorem copy_run {B : Nat} {W : World} {v : Value} {l : List Pl} (h : PRow 39 B W v l) (h64 : l.length ≤ 64) :
    ∃ v' w', (Builtin.append_ #[23, 23] 23 #[.slice (some ⟨W.heap.size, 0, none⟩) 0 0, v]).run Tryd.prog (W.alloc (.cells #[] 39)) = .ok v' w' ∧ PRow 39 W.heap.size w' v' l ∧ Below W.heap.size W w' := by
  have ha : Below W.heap.size W (W.alloc (.cells #[] 39)) := (Below.refl _ W).alloc (Nat.le_refl _) _
  obtain ⟨v', w', h1, h2, h3⟩ := app_all (sl := 23) (by kernel_rfl) infoOwn W.heap.size (W.alloc (.cells #[] 39)).heap.size (W.alloc (.cells #[] 39)) _ v [] l (PRow.empty _ W _ (Nat.le_refl _)) (h.below ha).sl (by simp; omega) ha.size
  exact ⟨v', w', h1, by simpa using h2, ha.grown h3 ha.size (fun k hk => by cases hk; exact Nat.le_refl _)⟩
/-- one list more -/
theorem AtM.push {B T m : Nat} {w0 w w1 w2 : World} {a b a' b' tv : Value} {rs : List Rec} {ns : List Nd} (h : AtM B T m w0 w a b tv rs ns) (r : Rec) (hr : PRow 39 B w r.v r.l) (h1 : checkN r.l = 0) {q : Nd} (h2 : nodeAt ns r.n = some q) (h3 : path ns r.n = r.l)
    (hA : w1.ownsRow B 23 1 a' (rs.length + 1) (rs.map (·.v) ++ [r.v])) (hg1 : w.grownBy w1 a.ownBlock)
    (hB : w2.ownsRow B 3 1 b' (rs.length + 1) ((rs.map fun r => Value.int .i64 (r.n : Int)) ++ [.int .i64 (r.n : Int)])) (hg2 : w1.grownBy w2 b.ownBlock) : AtM B T m w0 w2 a' b' tv (rs ++ [r]) ns := by
  have hrb := h.recs.rowB.kept hg1 (apart_ty (by decide) h.recs.rowB h.recs.rowA)
  have ht1 := h.tree.kept (by decide) (by decide) h.recs.rowA hg1
  have hl1 := h.low.grown hg1 h.tree.base (fun k hk => (World.ownsRow.lt h.recs.rowA k hk).1)
  exact ⟨h.recs.push r hr hA hg1 hB hrb hg2, h.told.push h1 h2 h3, h.wf, ht1.kept (by decide) (by decide) hrb hg2, hl1.grown hg2 ht1.base (fun k hk => (World.ownsRow.lt hrb k hk).1)⟩
/-- Meet only reads -/
theorem meetQ {B T m : Nat} {v : Value} {ns : List Nd} (a b : Nat) (w : World) (h : TreeAt B w T v m ns) (hw : Wf ns) (ha : a ≤ ns.length) (hb : b ≤ ns.length) (W : World) (hd : Dr w W) :
    Calls Tryd.prog 37 #[.pointer (some ⟨T, 0, none⟩), .int .i64 (a : Int), .int .i64 (b : Int)] W fun e w' => e = .returned (.tuple #[.int .i64 ((meetN ns a b : Nat) : Int), .int .i64 0]) ∧ Dr W w' :=
  (Meet_in a b W (h.below (hd.below _)) hw ha hb).mono (by rintro e w' ⟨rfl, rfl⟩; exact ⟨rfl, Dr.refl _⟩)
/-- alike, of two lists that are one just if two numbers are -/
theorem alikeNum {l m : List Pl} {a b : Nat} (he : a = b ↔ l = m) (B : Nat) (u v : Value) (w : World) (hu : PlSl B w u l) (hv : PlSl B w v m) :
    ∃ bq, ((a : Int) == (b : Int)) = bq ∧ ∀ W, Dr w W → Calls Tryd.prog 32 #[u, v] W fun e w' => e = .returned (.bool bq) ∧ Dr W w' := by
  by_cases h : a = b
  · refine ⟨true, by simp [h], fun W hW => ?_⟩
    obtain rfl := he.1 h
    exact alikeYes l B u v W (hu.below (hW.below B) (Nat.le_refl _)) (hv.below (hW.below B) (Nat.le_refl _))
  · refine ⟨false, by rw [beq_eq_false_iff_ne]; omega, fun W hW => ?_⟩
    exact alikeNo (fun e => h (he.2 e)) B u v W (hu.below (hW.below B) (Nat.le_refl _)) (hv.below (hW.below B) (Nat.le_refl _))
end Go.Proofs.YtbldeiejlebbiaaDoor.T
