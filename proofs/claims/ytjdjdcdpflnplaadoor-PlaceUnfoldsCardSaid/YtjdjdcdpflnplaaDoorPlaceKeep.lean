/-
  What is kept while rows are grown in their spare room and written over.
-/
import Derived.Test.YtjdjdcdpflnplaaDoorPlaceMany
set_option linter.unusedVariables false
namespace Go.Proofs.YtjdjdcdpflnplaaDoor.T
open Go Go.Lib Go.RowKit

theorem row_heap {w w' : World} {B : Nat} {e : TypeId} {n m : Nat} {v : Value} {xs : List Value} (h : w.ownsRow B e n v m xs) (hk : ∀ k, v.ownBlock = some k → w'.heap[k]? = w.heap[k]?) : w'.ownsRow B e n v m xs := by
  refine ⟨h.1, ?_⟩
  rcases h.2 with h0 | ⟨g, cap, cur, hv, hg0, hg1, h3⟩
  · exact .inl h0
  · exact .inr ⟨g, cap, cur, hv, hg0, (hk g (by rw [hv]; rfl)).trans hg1, h3⟩
/-- a beginning of a row, over the same array -/
theorem row_front {w : World} {B : Nat} {e : TypeId} {z b N n c : Nat} {xs ys : List Value} (h : w.ownsRow B e z (.slice (some ⟨b, 0, none⟩) N c) N (xs ++ ys)) (hn : n ≤ N) (hx : xs.length = n * z) : w.ownsRow B e z (.slice (some ⟨b, 0, none⟩) n c) n xs := by
  refine ⟨hx, ?_⟩
  rcases h.2 with ⟨h0, _⟩ | ⟨g, cap, cur, hv, hg0, hg1, h3, h4, h5, h6⟩
  · cases h0
  · simp only [Value.slice.injEq] at hv
    obtain ⟨e1, _, rfl⟩ := hv
    cases e1
    refine .inr ⟨b, c, cur, rfl, hg0, hg1, by omega, h4, h5, ?_⟩
    have e2 : (xs ++ ys).take (n * z) = xs := by rw [← hx]; exact List.take_left
    rw [← e2, ← h6, List.take_take]
    congr 1
    exact (Nat.min_eq_left (Nat.mul_le_mul_right _ hn)).symm
/-- the blocks from lo to hi alone may have turned -/
structure Within (lo hi : Nat) (w w' : World) : Prop where
  os : w'.os = w.os
  tape : w'.tape = w.tape
  output : w'.output = w.output
  size : w.heap.size ≤ w'.heap.size
  block : ∀ k, k < w.heap.size → (k < lo ∨ hi ≤ k) → w'.heap[k]? = w.heap[k]?
theorem Within.refl (lo hi : Nat) (w : World) : Within lo hi w w := ⟨rfl, rfl, rfl, Nat.le_refl _, fun _ _ _ => rfl⟩
theorem Within.trans {lo hi : Nat} {a b c : World} (h : Within lo hi a b) (k : Within lo hi b c) : Within lo hi a c :=
  ⟨k.os.trans h.os, k.tape.trans h.tape, k.output.trans h.output, Nat.le_trans h.size k.size, fun i hi ho => (k.block i (Nat.lt_of_lt_of_le hi h.size) ho).trans (h.block i hi ho)⟩
theorem Within.of_below {lo hi : Nat} {a b : World} (h : Below a.heap.size a b) : Within lo hi a b := ⟨h.os, h.tape, h.output, h.size, fun k hk _ => h.block k hk⟩
theorem Within.of_grown {lo hi : Nat} {a b : World} {row : Option Nat} (h : a.grownBy b row) (hr : ∀ k, row = some k → lo ≤ k ∧ k < hi) : Within lo hi a b :=
  ⟨h.os, h.tape, h.output, h.size, fun k hk ho => h.block k hk (fun e => by have := hr k e.symm; omega)⟩
theorem Within.below {lo hi : Nat} {a b : World} (h : Within lo hi a b) (hl : lo ≤ a.heap.size) : Below lo a b := ⟨h.os, h.tape, h.output, h.size, fun k hk => h.block k (Nat.lt_of_lt_of_le hk hl) (.inl hk)⟩
theorem Within.row {lo hi : Nat} {a b : World} (h : Within lo hi a b) {B : Nat} {e : TypeId} {n m : Nat} {v : Value} {xs : List Value} (hr : a.ownsRow B e n v m xs) (ho : ∀ k, v.ownBlock = some k → k < lo ∨ hi ≤ k) : b.ownsRow B e n v m xs :=
  row_heap hr (fun k hk => h.block k (World.ownsRow.lt hr k hk).2 (ho k hk))
theorem Within.runs {lo hi : Nat} {a b : World} (h : Within lo hi a b) {e ts : TypeId} {B : Nat} {v : Value} {qs : List (Value × Rn)} (hr : RunsAt e ts B a v qs) (hB : hi ≤ B) : RunsAt e ts B b v qs :=
  ⟨h.row hr.row (fun k hk => .inr (Nat.le_trans hB (World.ownsRow.lt hr.row k hk).1)), fun q hq => h.row (hr.each q hq) (fun k hk => .inr (Nat.le_trans hB (World.ownsRow.lt (hr.each q hq) k hk).1)), hr.inc⟩
/-- one place behind a row: in its spare room, or the row is copied and nothing that was there turns -/
theorem app_keep {e sl : TypeId} (hu : Tryd.prog.underlying sl = some (.slice e)) (hinf : (Tryd.prog.info? e).map (fun i => (i.zero, i.size, i.bytes)) = some (some (.agg #[.string ⟨#[]⟩, .int .i64 0]), 2, 24))
    (B : Nat) (W : World) (v : Value) (l : List Pl) (hrow : PRow e B W v l) (x : Pl) (h63 : l.length + 1 ≤ 5864062014800) (hB : B ≤ W.heap.size) :
    ∃ v' w', (Builtin.append_ #[sl, sl] sl #[v, .slice (some ⟨W.heap.size, 0, none⟩) 1 1]).run Tryd.prog (W.alloc (.cells #[.string x.n, .int .i64 x.k] e)) = .ok v' w' ∧ PRow e B w' v' (l ++ [x]) ∧ W.grownBy w' v.ownBlock ∧
      ((∃ b n c, v = .slice (some ⟨b, 0, none⟩) n c ∧ v' = .slice (some ⟨b, 0, none⟩) (n + 1) c) ∨ (W.grownBy w' none ∧ ∀ k, v'.ownBlock = some k → W.heap.size ≤ k)) := by
  obtain ⟨i0, hi, hz0, hz1, hz2⟩ := info_parts hinf
  have hrow1 := World.ownsRow.alloc hrow (.cells #[.string x.n, .int .i64 x.k] e)
  have hcl := cell2_new W (.string x.n) (.int .i64 x.k) e
  have h1c : ∀ u ∈ [Value.string x.n, Value.int .i64 x.k], u.oneCell' = true := by simp [Value.oneCell']
  obtain ⟨v', w', h1, h2, h3, h4, h5⟩ := run_append_own_at (P := Tryd.prog) (W.alloc (.cells #[.string x.n, .int .i64 x.k] e)) B sl sl e i0 (.agg #[.string ⟨#[]⟩, .int .i64 0]) 2 24 hu hi hz0 hz1 hz2 rfl (by decide) v l.length (plCs l) hrow1 ⟨W.heap.size, 0, none⟩ 1 1 [.string x.n, .int .i64 x.k] rfl hcl h1c (by unfold maxLen; omega) (by omega) (by simp; omega)
  refine ⟨v', w', h1, by unfold PRow; rw [plCs_snoc, List.length_append]; exact h2, grown_of_alloc' h3, ?_⟩
  rcases hrow1 with ⟨hlen, ⟨rfl, h0⟩ | ⟨g, cap, cur, rfl, hg0, hg1, hc1, hc2, hc3, hc4⟩⟩
  · right
    refine ⟨grown_of_alloc' h3, fun k hk => ?_⟩
    rcases h5 with h5 | h5
    · rw [hk] at h5; cases h5
    · rw [hk] at h5; simp at h5; omega
  · by_cases hroom : l.length + 1 ≤ cap
    · left
      refine ⟨g, l.length, cap, rfl, ?_⟩
      have hr := run_append_room (P := Tryd.prog) (W.alloc (.cells #[.string x.n, .int .i64 x.k] e)) sl sl e i0 hu hi g l.length cap cur hg1 ⟨W.heap.size, 0, none⟩ 1 1 [.string x.n, .int .i64 x.k] (by rw [hz1]; rfl) hcl h1c hroom (by rw [hz1, hc3]; simp only [List.length_cons, List.length_nil]; omega)
      rw [h1] at hr
      cases hr
      rfl
    · right
      have hcells : ∀ j u, (plCs l)[j]? = some u → (W.alloc (.cells #[.string x.n, .int .i64 x.k] e)).cell? ((⟨g, 0, none⟩ : Addr).add j) = some u := (World.ownsRow.alloc hrow (.cells #[.string x.n, .int .i64 x.k] e)).cells (g := g) rfl
      have hr := run_append_grow (P := Tryd.prog) (W.alloc (.cells #[.string x.n, .int .i64 x.k] e)) sl sl e i0 (.agg #[.string ⟨#[]⟩, .int .i64 0]) hu hi hz0 ⟨g, 0, none⟩ l.length cap (plCs l) (by rw [hz1]; exact hlen) hcells ⟨W.heap.size, 0, none⟩ 1 1 [.string x.n, .int .i64 x.k] (by rw [hz1]; rfl) hcl (by omega) (by omega) (growslice_fits (by omega) (by rw [hz2]; omega))
      rw [h1] at hr
      cases hr
      refine ⟨?_, fun k hk => ?_⟩
      · refine grown_of_alloc' (o := .cells #[.string x.n, .int .i64 x.k] e) ⟨rfl, rfl, rfl, by simp, fun k hk _ => ?_⟩
        exact heap_alloc_old _ _ hk
      · simp [Value.ownBlock] at hk
        omega
end Go.Proofs.YtjdjdcdpflnplaaDoor.T
