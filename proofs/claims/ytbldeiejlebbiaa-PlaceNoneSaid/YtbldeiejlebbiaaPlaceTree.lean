/-
  A tree as it lies in memory; Len, has, Depth, Parent.
-/
import Derived.Test.YtbldeiejlebbiaaPlaceTreeMap
import Derived.Test.YtbldeiejlebbiaaPlaceMay
set_option linter.unusedVariables false
namespace Go.Proofs.Ytbldeiejlebbiaa.T
open Go Go.Lib Go.RowKit

/-- a node: its parent, its place, its depth -/
structure Nd where
  p : Nat
  x : Pl
  d : Nat
def zeroNd : Nd := ⟨0, ⟨⟨#[]⟩, 0⟩, 0⟩
def ndC (n : Nd) : List Value := [.int .i64 n.p, .string n.x.n, .int .i64 n.x.k, .int .i64 n.d]
def ndCs (ns : List Nd) : List Value := ns.flatMap ndC
theorem ndCs_snoc (ns : List Nd) (n : Nd) : ndCs (ns ++ [n]) = ndCs ns ++ ndC n := by simp [ndCs]
theorem ndCs_length : ∀ ns : List Nd, (ndCs ns).length = ns.length * 4
  | [] => rfl
  | n :: ns => by
    have : ndCs (n :: ns) = ndC n ++ ndCs ns := rfl
    rw [this, List.length_append, ndCs_length ns]; simp [ndC]; omega
theorem ndCs_at : ∀ (ns : List Nd) (j : Nat) (n : Nd), ns[j]? = some n → (ndCs ns)[4 * j]? = some (.int .i64 n.p) ∧ (ndCs ns)[4 * j + 1]? = some (.string n.x.n) ∧ (ndCs ns)[4 * j + 2]? = some (.int .i64 n.x.k) ∧ (ndCs ns)[4 * j + 3]? = some (.int .i64 n.d)
  | [], j, n, h => by simp at h
  | q :: ns, 0, n, h => by
    simp at h; subst h
    exact ⟨rfl, rfl, rfl, rfl⟩
  | q :: ns, j + 1, n, h => by
    have ih := ndCs_at ns j n (by simpa using h)
    have e : ndCs (q :: ns) = .int .i64 q.p :: .string q.x.n :: .int .i64 q.x.k :: .int .i64 q.d :: ndCs ns := rfl
    rw [e, show 4 * (j + 1) = 4 * j + 1 + 1 + 1 + 1 from by omega, show 4 * j + 1 + 1 + 1 + 1 + 1 = (4 * j + 1) + 1 + 1 + 1 + 1 from by omega, show 4 * j + 1 + 1 + 1 + 1 + 2 = (4 * j + 2) + 1 + 1 + 1 + 1 from by omega, show 4 * j + 1 + 1 + 1 + 1 + 3 = (4 * j + 3) + 1 + 1 + 1 + 1 from by omega]
    simpa using ih
theorem own_slice4 {w : World} {B : Nat} {e : TypeId} {size : Nat} {v : Value} {n : Nat} {xs : List Value} (h : w.ownsRow B e size v (n + 1) xs) : ∃ g cap, v = .slice (some ⟨g, 0, none⟩) (n + 1) cap ∧ n + 1 ≤ cap := own_slice h
def stepOf (n : Nd) : Nat × Pl := (n.p, n.x)
/-- the tree with these nodes behind the node 0 lies at T, its nodes in the row v, its map in block m -/
structure TreeAt (B : Nat) (w : World) (T : Nat) (v : Value) (m : Nat) (ns : List Nd) : Prop where
  blk : w.heap[T]? = some (.cells #[v, .map (some m)] 52 (0, 0))
  row : w.ownsRow B 48 4 v (ns.length + 1) (ndCs (zeroNd :: ns))
  map : StMap w m (ns.map stepOf)
  lo : B ≤ T ∧ B ≤ m
  ok : ∀ n ∈ ns, StOk (stepOf n) ∧ n.d ≤ 64
  few : ns.length ≤ 4096
theorem TreeAt.lt {B : Nat} {w : World} {T : Nat} {v : Value} {m : Nat} {ns : List Nd} (h : TreeAt B w T v m ns) : T < w.heap.size := (Array.getElem?_eq_some_iff.1 h.blk).1
theorem TreeAt.c0 {B : Nat} {w : World} {T : Nat} {v : Value} {m : Nat} {ns : List Nd} (h : TreeAt B w T v m ns) : w.cell? ⟨T, 0, none⟩ = some v := by simp [World.cell?, h.blk]
theorem TreeAt.c1 {B : Nat} {w : World} {T : Nat} {v : Value} {m : Nat} {ns : List Nd} (h : TreeAt B w T v m ns) : w.cell? ⟨T, 1, none⟩ = some (.map (some m)) := by simp [World.cell?, h.blk]
theorem TreeAt.f0 {B : Nat} {w : World} {T : Nat} {v : Value} {m : Nat} {ns : List Nd} (h : TreeAt B w T v m ns) (o : Nat) : w.frozen? ⟨T, o, none⟩ = false := by simp [World.frozen?, h.blk]
theorem TreeAt.nodes {B : Nat} {w : World} {T : Nat} {v : Value} {m : Nat} {ns : List Nd} (h : TreeAt B w T v m ns) : ∃ g cap, v = .slice (some ⟨g, 0, none⟩) (ns.length + 1) cap ∧ B ≤ g ∧ g < w.heap.size ∧
    ∀ (j : Nat) n, (zeroNd :: ns)[j]? = some n → w.cell? ⟨g, j * 4, none⟩ = some (.int .i64 n.p) ∧ w.cell? ⟨g, j * 4 + 1, none⟩ = some (.string n.x.n) ∧ w.cell? ⟨g, j * 4 + 2, none⟩ = some (.int .i64 n.x.k) ∧ w.cell? ⟨g, j * 4 + 3, none⟩ = some (.int .i64 n.d) := by
  obtain ⟨g, cap, rfl, _⟩ := own_slice4 h.row
  have hl := World.ownsRow.lt h.row g rfl
  refine ⟨g, cap, rfl, hl.1, hl.2, fun j n hj => ?_⟩
  have hjl : j < ns.length + 1 := by have := (List.getElem?_eq_some_iff.1 hj).1; simpa using this
  obtain ⟨e1, e2, e3, e4⟩ := ndCs_at (zeroNd :: ns) j n hj
  refine ⟨?_, ?_, ?_, ?_⟩
  · rw [h.row.cellAt (j * 4) (by omega), Nat.mul_comm]; exact e1
  · rw [h.row.cellAt (j * 4 + 1) (by omega), Nat.mul_comm]; exact e2
  · rw [h.row.cellAt (j * 4 + 2) (by omega), Nat.mul_comm]; exact e3
  · rw [h.row.cellAt (j * 4 + 3) (by omega), Nat.mul_comm]; exact e4
theorem Len_in {B : Nat} {T : Nat} {v : Value} {m : Nat} {ns : List Nd} (w : World) (h : TreeAt B w T v m ns) :
    Calls Try.prog 9 #[.pointer (some ⟨T, 0, none⟩)] w fun e w' => e = .returned (.int .i64 ((ns.length : Int) + 1)) ∧ w = w' := by
  obtain ⟨g, cap, rfl, _⟩ := h.nodes
  have c0 := h.c0
  have hn := h.few
  go_enter Try.func9, Try.ntmps9
  go_wp2
  go_ret
  exact ⟨rfl, rfl⟩
def hasB (n : Nat) (k : Int) : Bool := decide (0 ≤ k) && decide (k < (n : Int) + 1)
theorem has_in {B : Nat} {T : Nat} {v : Value} {m : Nat} {ns : List Nd} (k : Int) (w : World) (h : TreeAt B w T v m ns) :
    Calls Try.prog 15 #[.pointer (some ⟨T, 0, none⟩), .int .i64 k] w fun e w' => e = .returned (.bool (hasB ns.length k)) ∧ w = w' := by
  have cL := Len_in w h
  have hn := h.few
  generalize ns.length = n at *
  unfold hasB
  go_enter Try.func15, Try.ntmps15
  by_cases h0 : 0 ≤ k
  · have e0 : decide ((0 : Int) ≤ k) = true := decide_eq_true h0
    by_cases h1 : k < (n : Int) + 1
    · have e1 : decide (k < (n : Int) + 1) = true := decide_eq_true h1
      go_wp2_with (go_at_call 9; refine cL.mono ?_; rintro e w' ⟨rfl, rfl⟩)
      go_ret
      exact ⟨by simp [e0, e1], rfl⟩
    · have e1 : decide (k < (n : Int) + 1) = false := decide_eq_false h1
      go_wp2_with (go_at_call 9; refine cL.mono ?_; rintro e w' ⟨rfl, rfl⟩)
      go_ret
      exact ⟨by simp [e0, e1], rfl⟩
  · have e0 : decide ((0 : Int) ≤ k) = false := decide_eq_false h0
    go_wp2_with (go_at_call 9; refine cL.mono ?_; rintro e w' ⟨rfl, rfl⟩)
    go_ret
    exact ⟨by simp, rfl⟩
end Go.Proofs.Ytbldeiejlebbiaa.T
