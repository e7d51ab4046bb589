/-
  The statement's own rows: asks in rows.
-/
import Derived.Test.YtefmffofboddgaaGreatCasesOwn
import Derived.Test.YtefmffofboddgaaGreatCasesFold
set_option linter.unusedVariables false
namespace Go.Proofs.YtefmffofboddgaaGreat.T
open Go Go.Lib Go.RowKit

/-- rows, each one's asks in a row of the call's own -/
structure Rws (B : Nat) (w : World) (v : Value) (qs : List (Value × Cl)) : Prop where
  row : w.ownsRow B 29 3 v qs.length (clCs qs)
  each : ∀ q ∈ qs, TRow 38 B w q.1 q.2.t
theorem Rws.nil (B : Nat) (w : World) : Rws B w (.slice none 0 0) [] := ⟨World.ownsRow_nil _ _ _ _, fun q h => by cases h⟩
theorem Rws.below {B : Nat} {w w' : World} {v : Value} {qs : List (Value × Cl)} (h : Rws B w v qs) (hb : Below w.heap.size w w') : Rws B w' v qs :=
  ⟨row_none h.row (below_grown hb), fun q hq => (h.each q hq).below hb⟩
theorem push_row (B : Nat) (W : World) (v : Value) (qs : List (Value × Cl)) (hR : Rws B W v qs) (q : Value × Cl) (hq : TRow 38 B W q.1 q.2.t) (h64 : qs.length + 1 ≤ 1000000000000) (hB : B ≤ W.heap.size) :
    ∃ v' w', (Builtin.append_ #[30, 30] 30 #[v, .slice (some ⟨W.heap.size, 0, none⟩) 1 1]).run Tryz.prog (W.alloc (.cells #[q.1, .bool q.2.d, .int .i64 q.2.to] 29)) = .ok v' w' ∧ Rws B w' v' (qs ++ [q]) ∧ W.grownBy w' v.ownBlock := by
  obtain ⟨i0, hi, hz0, hz1, hz2⟩ := info_parts infoRowT
  have hg1 : W.grownBy (W.alloc (.cells #[q.1, .bool q.2.d, .int .i64 q.2.to] 29)) none := grown_of_alloc' (o := .cells #[q.1, .bool q.2.d, .int .i64 q.2.to] 29) ⟨rfl, rfl, rfl, Nat.le_refl _, fun _ _ _ => rfl⟩
  obtain ⟨a3, n3, c3, hv3⟩ := hq.isSl
  obtain ⟨v', w', h1, h2, h3, _⟩ := run_append_own (P := Tryz.prog) (W.alloc (.cells #[q.1, .bool q.2.d, .int .i64 q.2.to] 29)) B 30 30 29 i0 (.agg #[.slice none 0 0, .bool false, .int .i64 0]) 3 40 (by kernel_rfl) hi hz0 hz1 hz2 rfl (by decide) v qs.length (clCs qs) (row_none hR.row hg1) ⟨W.heap.size, 0, none⟩ 1 1 [q.1, .bool q.2.d, .int .i64 q.2.to] rfl (cell3_new W _ _ _ _)
    (by intro x hx
        simp only [List.mem_cons, List.not_mem_nil, or_false] at hx
        rcases hx with rfl | rfl | rfl
        · rw [hv3]; rfl
        · rfl
        · rfl) (by unfold maxLen; omega) (by omega) (by simp; omega)
  have hgw := grown_of_alloc' h3
  have hk : ∀ u l, TRow 38 B W u l → TRow 38 B w' u l := fun u l hu => by
    have hu' : W.ownsRow B 38 2 u l.length (tmCs l) := hu
    exact hu'.kept hgw (apart_ty (by decide) hu' hR.row)
  refine ⟨v', w', h1, ⟨?_, fun p hp => ?_⟩, hgw⟩
  · rw [clCs_snoc, List.length_append]
    exact h2
  · rcases List.mem_append.1 hp with hp | hp
    · exact hk _ _ (hR.each p hp)
    · obtain rfl := List.mem_singleton.1 hp
      exact hk _ _ hq
theorem Rws.sl {B : Nat} {w : World} {v : Value} {qs : List (Value × Cl)} (h : Rws B w v qs) : ClSl w.heap.size w v (qs.map (·.2)) := by
  rcases h.row.2 with ⟨rfl, h0⟩ | ⟨g, cap, cur, rfl, hg, hg1, h3, h4, _⟩
  · exact ⟨none, 0, by rw [List.length_map, h0], by rw [List.length_map, h0]; omega, by omega, fun hne => absurd (by simpa using h0) hne⟩
  · unfold maxLen at h4
    refine ⟨some ⟨g, 0, none⟩, cap, by rw [List.length_map], by rw [List.length_map]; omega, by omega, fun _ => ⟨g, 0, rfl, (Array.getElem?_eq_some_iff.1 hg1).1, fun j z hj => ?_⟩⟩
    rw [List.getElem?_map] at hj
    obtain ⟨q, hq, rfl⟩ := Option.map_eq_some_iff.1 hj
    obtain ⟨e1, e2, e3⟩ := clCs_at qs j q hq
    have hjl : j < qs.length := (List.getElem?_eq_some_iff.1 hq).1
    refine ⟨q.1, ?_, ?_, ?_, (h.each q (List.mem_of_getElem? hq)).sl⟩
    · rw [Nat.zero_add, h.row.cellAt (j * 3) (by omega), Nat.mul_comm]; exact e1
    · rw [Nat.zero_add, h.row.cellAt (j * 3 + 1) (by omega), Nat.mul_comm]; exact e2
    · rw [Nat.zero_add, h.row.cellAt (j * 3 + 2) (by omega), Nat.mul_comm]; exact e3
/-- one ask in a block of its own -/
theorem one_ask (W : World) (k f : Int) (B : Nat) (hB : B ≤ W.heap.size) : TRow 38 B (W.alloc (.cells #[.int .u8 k, .int .u8 f] 38)) (.slice (some ⟨W.heap.size, 0, none⟩) 1 1) [⟨k, f⟩] := by
  refine ⟨rfl, .inr ⟨W.heap.size, 1, #[.int .u8 k, .int .u8 f], rfl, hB, heap_alloc_new W _, Nat.le_refl _, by unfold maxLen; omega, rfl, rfl⟩⟩
/-- one row in a block of its own -/
theorem one_row (W : World) (u : Value) (x : Cl) (h : TmSl W.heap.size W u x.t) : ClSl (W.alloc (.cells #[u, .bool x.d, .int .i64 x.to] 29)).heap.size (W.alloc (.cells #[u, .bool x.d, .int .i64 x.to] 29)) (.slice (some ⟨W.heap.size, 0, none⟩) 1 1) [x] := by
  obtain ⟨g0, g1, g2⟩ := box3 (w := W) (x := u) (y := .bool x.d) (z := .int .i64 x.to) (t := 29) (Below.refl _ _)
  have hb : Below W.heap.size W (W.alloc (.cells #[u, .bool x.d, .int .i64 x.to] 29)) := (Below.refl _ _).alloc (Nat.le_refl _) _
  refine ⟨some ⟨W.heap.size, 0, none⟩, 1, rfl, Nat.le_refl _, by omega, fun _ => ⟨W.heap.size, 0, rfl, by simp, fun j y hj => ?_⟩⟩
  cases j with
  | zero =>
    simp at hj
    subst hj
    exact ⟨u, g0, g1, g2, h.below hb hb.size⟩
  | succ j => simp at hj
theorem slice_frontR (bk o n c k : Nat) (hk : k ≤ c) (hc : 0 < c) (W : World) : (Instr.slice 30 (.slice (some ⟨bk, o, none⟩) n c) none (some (.int .i64 (k : Int))) none).run Tryz.prog W = .ok (.slice (some ⟨bk, o, none⟩) k c) W := by
  rw [run_slice_h (P := Tryz.prog) W 30 (some ⟨bk, o, none⟩) n c (by kernel_rfl) .i64 (k : Int) (by omega) (by omega)]
  have hz : (sizeOf (Tryz.prog.elem 30)).run Tryz.prog W = .ok 3 W := by kernel_rfl
  rw [hz]
  simp only [Result.andThen, sliced, Int.toNat_natCast]
  rw [if_neg (by omega)]
  simp [Addr.add]
theorem slice_frontA (bk o n c k : Nat) (hk : k ≤ c) (hc : 0 < c) (W : World) : (Instr.slice 27 (.slice (some ⟨bk, o, none⟩) n c) none (some (.int .i64 (k : Int))) none).run Tryz.prog W = .ok (.slice (some ⟨bk, o, none⟩) k c) W := by
  rw [run_slice_h (P := Tryz.prog) W 27 (some ⟨bk, o, none⟩) n c (by kernel_rfl) .i64 (k : Int) (by omega) (by omega)]
  have hz : (sizeOf (Tryz.prog.elem 27)).run Tryz.prog W = .ok 2 W := by kernel_rfl
  rw [hz]
  simp only [Result.andThen, sliced, Int.toNat_natCast]
  rw [if_neg (by omega)]
  simp [Addr.add]
/-- 65 rows of one ask each; 257 times the same ask -/
def manyL : List Cl := (List.range 65).map fun (i : Nat) => ⟨[⟨(i : Int) + 1, 0⟩], false, 0⟩
def longL : List Tm := List.replicate 257 ⟨1, 0⟩
theorem many_at (k : Nat) (h : k < 65) : manyL[k]? = some ⟨[⟨(k : Int) + 1, 0⟩], false, 0⟩ := by
  unfold manyL
  rw [List.getElem?_map, List.getElem?_range h]
  rfl
theorem many_succ (k : Nat) (h : k < 65) : manyL.take (k + 1) = manyL.take k ++ [⟨[⟨(k : Int) + 1, 0⟩], false, 0⟩] := by
  rw [List.take_add_one, many_at k h]; rfl
theorem long_succ (k : Nat) : (List.replicate (k + 1) (⟨1, 0⟩ : Tm)) = List.replicate k ⟨1, 0⟩ ++ [⟨1, 0⟩] := List.replicate_succ'
theorem chk_bad : checkF [⟨[], false, 0⟩] = (0, 90) := by kernel_rfl
theorem chk_many : checkF manyL = (0, 1) := by kernel_rfl
theorem chk_64 : checkF (manyL.take 64) = (26, 90) := by kernel_rfl
theorem chk_long : checkF [⟨longL, false, 0⟩] = (0, 1) := by kernel_rfl
theorem chk_256 : checkF [⟨longL.take 256, false, 0⟩] = (0, 91) := by kernel_rfl
set_option maxRecDepth 100000 in
theorem new_in (w : World) : Calls Tryz.prog 4 #[] w fun e w' => e = .returned (.pointer (some ⟨w.heap.size, 0, none⟩)) ∧ w'.cell? ⟨w.heap.size, 0, none⟩ = some (.slice none 0 0) ∧ Below w.heap.size w w' := by
  go_enter Tryz.func4, Tryz.ntmps4
  go_wp2
  go_ret
  exact ⟨rfl, read_new1 _ _ _, (Below.refl _ _).alloc (Nat.le_refl _) _⟩
end Go.Proofs.YtefmffofboddgaaGreat.T
