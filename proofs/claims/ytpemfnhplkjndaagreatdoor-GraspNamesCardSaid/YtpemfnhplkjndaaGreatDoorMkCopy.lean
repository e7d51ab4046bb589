/-
  book.copied: a spec in memory of its own; the bounds of a book.
-/
import Derived.Test.YtpemfnhplkjndaaGreatDoorMkKeep
set_option linter.unusedVariables false
namespace Go.Proofs.YtpemfnhplkjndaaGreatDoor.T
open Go Go.Lib Go.RowKit
attribute [local go_sem] run_store_float

theorem check_in (sz dp L wd : Nat) (h1 : sz ≤ 4096) (h2 : dp ≤ 64) (h3 : L ≤ 65536) (h4 : wd ≤ 1048576) (w : World) : Calls Tryz.prog 39 #[.agg #[.int .i64 sz, .int .i64 dp, .int .i64 L, .int .i64 wd]] w fun e w' => e = .returned (.int .i64 0) ∧ Below w.heap.size w w' := by
  have d1 : ¬ (4096 : Int) < sz := by omega
  have d2 : ¬ (64 : Int) < dp := by omega
  have d3 : ¬ (65536 : Int) < L := by omega
  have d4 : ¬ (1048576 : Int) < wd := by omega
  have e3 : decide ((65536 : Int) < L) = false := by simp; omega
  have e4 : decide ((1048576 : Int) < wd) = false := by simp; omega
  go_enter Tryz.func39, Tryz.ntmps39
  go_wp2
  go_ret
  exact ⟨rfl, (Below.refl _ _).alloc (Nat.le_refl _) _⟩
theorem nsl_row {w : World} {B : Nat} {v : Value} {l : List Nat} (h : w.ownsRow B 3 1 v l.length (l.map fun x : Nat => Value.int .i64 (x : Int))) : NSl w v l := by
  have h' := h
  rcases h.2 with ⟨rfl, h0⟩ | ⟨g, cap, cur, rfl, hg, hg1, h3, h4, _⟩
  · obtain rfl := List.eq_nil_of_length_eq_zero h0
    exact NSl.nil w
  · refine ⟨_, _, rfl, h3, fun _ => ⟨g, 0, cur, (0, 0), rfl, hg1, fun j x hx => ?_⟩⟩
    have := h'.cells (g := g) rfl j (.int .i64 x) (by simp [hx])
    have e : ((⟨g, 0, none⟩ : Addr).add j) = ⟨g, 0 + j, none⟩ := by unfold Addr.add; split <;> simp_all
    rw [e, cells_of hg1] at this
    exact this
/-- a slice in blocks from B on -/
def From (B : Nat) (v : Value) : Prop := ∀ (pb po n c : Nat), v = .slice (some ⟨pb, po, none⟩) n c → B ≤ pb
theorem from_row {w : World} {B : Nat} {e : TypeId} {m k : Nat} {v : Value} {xs : List Value} (h : w.ownsRow B e m v k xs) : From B v := fun pb po n c hv => by
  rcases h.2 with ⟨rfl, h0⟩ | ⟨g, cap, cur, rfl, hg, _⟩
  · cases hv
  · cases hv; exact hg
theorem NSl.set {w : World} {v : Value} {l : List Nat} (h : NSl w v l) {B : Nat} (hf : From B v) {a : Addr} (ha : a.block < B) (u : Value) : NSl (w.setCell a u) v l := by
  obtain ⟨x, c, rfl, hc, h⟩ := h
  refine ⟨x, c, rfl, hc, fun hne => ?_⟩
  obtain ⟨pb, po, cs, fr, rfl, hblk, hcell⟩ := h hne
  have := hf pb po _ _ rfl
  exact ⟨pb, po, cs, fr, rfl, (Below.heap_setCell w a u pb (by omega)).trans hblk, hcell⟩
theorem cloneInts_in (v : Value) (l : List Nat) (w : World) (hl : l.length ≤ 64) (h : NSl w v l) : Calls Tryz.prog 60 #[v] w fun e w' => ∃ v', e = .returned v' ∧ NSl w' v' l ∧ From w.heap.size v' ∧ Below w.heap.size w w' := by
  obtain ⟨a, c, rfl, hc, h⟩ := h.at
  by_cases hne : l = []
  · subst hne
    cases a with
    | none =>
      refine (Go.Proofs.Tryz.slices_Clone_int_nil _ _ w).mono ?_
      rintro e w' ⟨rfl, rfl⟩
      exact ⟨_, rfl, NSl.nil _, (fun _ _ _ _ e => by cases e), Below.refl _ _⟩
    | some a =>
      refine (Go.Proofs.Tryz.slices_Clone_int_zero a c w).mono ?_
      rintro e w' ⟨v', rfl, hr, _, hb⟩
      exact ⟨v', rfl, nsl_row (l := []) hr, from_row hr, hb⟩
  · obtain ⟨pb, po, rfl, hlt, hcell⟩ := h hne
    refine (Go.Proofs.Tryz.slices_Clone_int pb po l.length c (l.map fun x : Nat => (x : Int)) w (by simp) (by omega) (fun j hj => ?_)).mono ?_
    · have hj' : j < l.length := by simpa using hj
      rw [hcell j l[j] (List.getElem?_eq_getElem hj')]
      simp [List.getD, hj']
    · rintro e w' ⟨v', rfl, hr, _, hb⟩
      refine ⟨v', rfl, nsl_row (B := w.heap.size) ?_, from_row hr, hb⟩
      have e : (List.take l.length (l.map fun x : Nat => (x : Int))).map (Value.int .i64) = l.map fun x : Nat => Value.int .i64 (x : Int) := by
        rw [List.take_of_length_le (by simp)]; simp
      rw [e] at hr
      exact hr
theorem cloneStrs_in (p : Option Addr) (c : Nat) (w : World) : Calls Tryz.prog 61 #[.slice p 0 c] w fun e w' => ∃ q d, e = .returned (.slice q 0 d) ∧ Below w.heap.size w w' := by
  cases p with
  | none =>
    refine (Go.Proofs.Tryz.slices_Clone_string_nil _ _ w).mono ?_
    rintro e w' ⟨rfl, rfl⟩
    exact ⟨_, _, rfl, Below.refl _ _⟩
  | some a =>
    refine (Go.Proofs.Tryz.slices_Clone_string_zero a c w).mono ?_
    rintro e w' ⟨v', rfl, hr, _, hb⟩
    rcases hr.2 with ⟨rfl, h0⟩ | ⟨g, cap, cur, rfl, _⟩
    · exact ⟨_, _, rfl, hb⟩
    · exact ⟨_, _, rfl, hb⟩
theorem blk_new {w w1 : World} {o : Obj} (hb : Below (w.alloc o).heap.size (w.alloc o) w1) : w1.heap[w.heap.size]? = some o :=
  (hb.block _ (by simp)).trans (by show (w.heap.push o)[w.heap.size]? = _; simp)
theorem blk_new1 {w w1 : World} {a o : Obj} (hb : Below ((w.alloc a).alloc o).heap.size ((w.alloc a).alloc o) w1) : w1.heap[w.heap.size + 1]? = some o :=
  (hb.block _ (by simp)).trans (blk_at w a o)
theorem blk_set {w : World} {g : Nat} {cs : Array Value} {t : TypeId} {f : Nat × Nat} (h : w.heap[g]? = some (.cells cs t f)) (j : Nat) (u : Value) : (w.setCell ⟨g, j, none⟩ u).heap[g]? = some (.cells (cs.setIfInBounds j u) t f) := by
  have hlt := blk_lt h
  have h' : w.heap[g] = .cells cs t f := by simpa [Array.getElem?_eq_getElem hlt] using h
  show (w.heap.modify g _)[g]? = _
  rw [Array.getElem?_eq_getElem (by simpa using hlt), Array.getElem_modify_self, h']
  rfl
theorem blk_other {w : World} {g : Nat} {o : Obj} (h : w.heap[g]? = some o) {a : Addr} (ha : g ≠ a.block) (u : Value) : (w.setCell a u).heap[g]? = some o := (Below.heap_setCell w a u g ha).trans h
theorem cells11 {w : World} {g : Nat} {c0 c1 c2 c3 c4 c5 c6 c7 c8 c9 c10 : Value} {t : TypeId} {f : Nat × Nat} (h : w.heap[g]? = some (.cells #[c0, c1, c2, c3, c4, c5, c6, c7, c8, c9, c10] t f)) : w.cell? ⟨g, 0, none⟩ = some c0 ∧ w.cell? ⟨g, 1, none⟩ = some c1 ∧ w.cell? ⟨g, 2, none⟩ = some c2 ∧ w.cell? ⟨g, 3, none⟩ = some c3 ∧ w.cell? ⟨g, 4, none⟩ = some c4 ∧ w.cell? ⟨g, 5, none⟩ = some c5 ∧ w.cell? ⟨g, 6, none⟩ = some c6 ∧ w.cell? ⟨g, 7, none⟩ = some c7 ∧ w.cell? ⟨g, 8, none⟩ = some c8 ∧ w.cell? ⟨g, 9, none⟩ = some c9 ∧ w.cell? ⟨g, 10, none⟩ = some c10 :=
  ⟨cells_of h 0, cells_of h 1, cells_of h 2, cells_of h 3, cells_of h 4, cells_of h 5, cells_of h 6, cells_of h 7, cells_of h 8, cells_of h 9, cells_of h 10⟩
set_option maxRecDepth 100000 in
set_option maxHeartbeats 1000000 in
theorem copied_in (k : Int) (t : ByteArray) (n : Int) (p : Option Addr) (c : Nat) (parts : Value) (l : List Nat) (ht : t.size ≤ 4096) (hl : l.length ≤ 64) (w : World) (h : NSl w parts l) :
    Calls Tryz.prog 41 #[spV k t n (.slice p 0 c) parts] w fun e w' => ∃ q d parts', e = .returned (spV k t n (.slice q 0 d) parts') ∧ NSl w' parts' l ∧ Below w.heap.size w w' := by
  have h0 := h
  obtain ⟨pa, pc, rfl, hpc, _⟩ := h0
  have KC := Lib.hid (fun W => clone_in t W (by omega))
  have KI := Lib.hid (fun W hW => cloneInts_in (.slice pa l.length pc) l W hl hW)
  have KS := Lib.hid (fun q d W => cloneStrs_in q d W)
  have HN := Lib.hid h
  clear h
  generalize l.length = m at *
  unfold spV at *
  go_enter Tryz.func41, Tryz.ntmps41
  go_wp2_with fail
  refine (KC.out _).mono ?_
  rintro e w1 ⟨rfl, hb1⟩
  have hA : Below w.heap.size w w1 := (((Below.refl _ _).alloc (Nat.le_refl _) _).alloc (by simp) _).trans (hb1.mono (by simp; omega))
  have G := Lib.hid (blk_new (below_a2 hb1))
  have R := Lib.hid (blk_new1 hb1)
  have hs1 : w.heap.size + 2 ≤ w1.heap.size := by have := hb1.size; simp at this; omega
  clear hb1
  obtain ⟨g0, g1, g2, g3, g4, g5, g6, g7, g8, g9, g10⟩ := cells11 G.out
  have gz := free_of G.out
  go_wp2_with fail
  clear g0 g1 g2 g3 g4 g5 g6 g7 g8 g9 g10 gz
  have G1 := Lib.hid (blk_set G.out 2 (.string t))
  have R1 := Lib.hid (blk_other R.out (a := ⟨w.heap.size, 2, none⟩) (by simp) (.string t))
  have hB1 : Below w.heap.size w (w1.setCell ⟨w.heap.size, 2, none⟩ (.string t)) := hA.setCell (p := ⟨w.heap.size, 2, none⟩) (Nat.le_refl _) _
  have hS1 : w.heap.size + 2 ≤ (w1.setCell ⟨w.heap.size, 2, none⟩ (.string t)).heap.size := by simp; omega
  generalize w1.setCell ⟨w.heap.size, 2, none⟩ (.string t) = W1 at *
  clear G R hA hs1
  refine (KI.out W1 (HN.out.below hB1)).mono ?_
  rintro e w2 ⟨v2, rfl, hN2, hF2, hb2⟩
  have hN2' := hN2
  obtain ⟨qa, qc, rfl, _, _⟩ := hN2'
  have G2 := Lib.hid ((hb2.block _ (blk_lt G1.out)).trans G1.out)
  have R2 := Lib.hid ((hb2.block _ (blk_lt R1.out)).trans R1.out)
  have hA2 := more hB1 hb2
  have hS2 : w.heap.size + 2 ≤ w2.heap.size := Nat.le_trans hS1 hb2.size
  have hF := Lib.hid (fun pb po n c e => Nat.le_trans hS1 (hF2 pb po n c e))
  clear G1 R1 hB1 hS1 hb2 hF2
  obtain ⟨g0, g1, g2, g3, g4, g5, g6, g7, g8, g9, g10⟩ := cells11 G2.out
  have gz := free_of G2.out
  go_wp2_with fail
  clear g0 g1 g2 g3 g4 g5 g6 g7 g8 g9 g10 gz
  generalize hm2 : l.length = m2 at *
  have G3 := Lib.hid (blk_set G2.out 10 (.slice qa m2 qc))
  have R3 := Lib.hid (blk_other R2.out (a := ⟨w.heap.size, 10, none⟩) (by simp) (.slice qa m2 qc))
  have hB3 : Below w.heap.size w (w2.setCell ⟨w.heap.size, 10, none⟩ (.slice qa m2 qc)) := hA2.setCell (p := ⟨w.heap.size, 10, none⟩) (Nat.le_refl _) _
  have hN3 : NSl (w2.setCell ⟨w.heap.size, 10, none⟩ (.slice qa m2 qc)) (.slice qa m2 qc) l := hN2.set (B := w.heap.size + 2) hF.out (by simp) _
  have hS3 : w.heap.size + 2 ≤ (w2.setCell ⟨w.heap.size, 10, none⟩ (.slice qa m2 qc)).heap.size := by simp; omega
  generalize w2.setCell ⟨w.heap.size, 10, none⟩ (.slice qa m2 qc) = W3 at *
  clear G2 R2 hA2 hS2
  refine (KS.out _ _ _).mono ?_
  rintro e w4 ⟨q4, d4, rfl, hb4⟩
  have G4 := Lib.hid ((hb4.block _ (blk_lt G3.out)).trans G3.out)
  have R4 := Lib.hid ((hb4.block _ (blk_lt R3.out)).trans R3.out)
  have hA4 := more hB3 hb4
  have hN4 := Lib.hid (hN3.below hb4)
  have hS4 : w.heap.size + 2 ≤ w4.heap.size := Nat.le_trans hS3 hb4.size
  clear G3 R3 hB3 hS3 hb4 hN3
  obtain ⟨g0, g1, g2, g3, g4, g5, g6, g7, g8, g9, g10⟩ := cells11 G4.out
  have gz := free_of G4.out
  obtain ⟨r0, r1, r2, r3, r4, r5, r6, r7, r8, r9, r10⟩ := cells11 R4.out
  have rz := free_of R4.out
  go_wp2_with fail
  refine wp_loop_rounds 1 ?_
  rw [rounds_succ]
  go_wp2
  refine bodyPost_ret (v := spV k t n (.slice q4 0 d4) (.slice qa m2 qc)) ?_ rfl ⟨_, _, _, rfl, ?_, ?_⟩
  · unfold spV
    simp [results, Tryz.f41, go_sem, r0, r1, r2, r3, r4, r5, r6, r7, r8, r9, r10]
  · have hF' : From (w.heap.size + 2) (.slice qa m2 qc) := hF.out
    repeat (refine NSl.set ?_ hF' (by simp) _)
    exact hN4.out
  · repeat (refine Below.setCell ?_ (by simp) _)
    exact hA4
end Go.Proofs.YtpemfnhplkjndaaGreatDoor.T
