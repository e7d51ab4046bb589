/-
  What book.Make asks of its book: the errors of handles, how great an error becomes.
-/
import Derived.Test.YtpemfnhplkjndaaGreatDoorMkBook
set_option linter.unusedVariables false
namespace Go.Proofs.YtpemfnhplkjndaaGreatDoor.T
open Go Go.Lib Go.RowKit
attribute [local go_sem] run_store_float

/-- that handle is found in that book, whatever is made meanwhile -/
def Finds (w : World) (b h : Nat) (x : En) : Prop := ∀ W, Below w.heap.size w W → Calls Tryz.prog 32 #[.pointer (some ⟨b, 0, none⟩), .int .i64 (h : Int)] W fun e w' => e = .returned (.tuple #[enV x, .int .i64 0]) ∧ Below W.heap.size W w'
theorem Finds.below {w w' : World} {b h : Nat} {x : En} (H : Finds w b h x) (hb : Below w.heap.size w w') : Finds w' b h x := fun W hW => H W (more hb hW)
theorem finds_in {B : Nat} {b : Nat} {es : List En} (j : Nat) (x : En) (w : World) (h : BkAt B w b es) (hx : es[j]? = some x) : Finds w b (j + 1) x := fun W hW => find_in j x W (h.below hW) hx
set_option maxRecDepth 100000 in
theorem len_in {B : Nat} {b : Nat} {es : List En} (w : World) (h : BkAt B w b es) : Calls Tryz.prog 40 #[.pointer (some ⟨b, 0, none⟩)] w fun e w' => e = .returned (.int .i64 es.length) ∧ w' = w := by
  obtain ⟨a, c, h0, _⟩ := h.open
  go_enter Tryz.func40, Tryz.ntmps40
  go_wp2
  go_ret
  exact ⟨rfl, rfl⟩
theorem errorsOf_nil (p : Option Addr) (q : Option Addr) (c : Nat) (w : World) : Calls Tryz.prog 36 #[.pointer p, .slice q 0 c] w fun e w' => e = .returned (.tuple #[.slice none 0 0, .int .i64 0]) ∧ w' = w := by
  go_enter Tryz.func36, Tryz.ntmps36
  go_wp2
  refine wp_loop_rounds 1 ?_
  rw [rounds_succ]
  go_wp2
  go_ret2
  exact ⟨rfl, rfl⟩
set_option maxRecDepth 100000 in
set_option maxHeartbeats 1000000 in
theorem errorsOf_one (b : Nat) (h : Nat) (x : En) (w : World) (H : Finds w b h x) (hi : ∃ a n c, x.its = .slice a n c) (hp : ∃ a n c, x.parts = .slice a n c) (pb po d : Nat) (hc : w.cell? ⟨pb, po, none⟩ = some (.int .i64 h)) :
    Calls Tryz.prog 36 #[.pointer (some ⟨b, 0, none⟩), .slice (some ⟨pb, po, none⟩) 1 d] w fun e w' => ∃ g z, e = .returned (.tuple #[.slice (some ⟨g, 0, none⟩) 1 z, .int .i64 0]) ∧ w'.cell? ⟨g, 0, none⟩ = some (.iface x.T x.u) ∧ Below w.heap.size w w' := by
  obtain ⟨T, u, k, t, n, its, parts, hs, sz, dp, lg, wd⟩ := x
  obtain ⟨ia, in_, ic, hi⟩ := hi
  obtain ⟨pa, pn, pc, hp⟩ := hp
  simp only at hi hp
  subst hi hp
  obtain ⟨i0, hi, hz0, hz1, hz2⟩ := info_parts infoErr
  have KF := Lib.hid H
  unfold Finds enV enC at KF
  clear H
  go_enter Tryz.func36, Tryz.ntmps36
  go_wp2
  refine wp_loop_rounds 2 ?_
  rw [rounds_succ]
  go_wp2_with fail
  refine (KF.out _ (Below.refl _ _)).mono ?_
  rintro e w1 ⟨rfl, hb1⟩
  go_wp2_with (at_builtin; refine wpList_append_own _ rfl (.tmp 26) (.tmp 29) 33 rfl w.heap.size 23 i0 .nilIface 1 16 Tryz.underlying33 hi hz0 hz1 hz2 rfl (by decide) (.slice none 0 0) 0 [] rfl (World.ownsRow_nil _ _ _ _) ⟨w1.heap.size + 1, 0, none⟩ 1 1 [.iface T u] rfl rfl (cell1_in _ _ _ _ (by simp)) (by simp [Value.oneCell']) (by unfold maxLen; omega) (by omega) (by have := hb1.size; simp; omega) ?_; intro v' w3 hown' hgrow _)
  obtain ⟨g, z, rfl, hg, hz, hcg⟩ := row_one hown'
  have hbF := (((hb1.alloc hb1.size _).alloc (by have := hb1.size; simp; omega) _)).trans (grown_below (B := w.heap.size) hgrow (by have := hb1.size; simp; omega) (fun k hk => by simp [Value.ownBlock] at hk))
  rw [rounds_succ]
  go_wp2
  go_ret2
  exact ⟨g, z, rfl, hcg, hbF⟩
set_option maxRecDepth 100000 in
theorem wordsOf_in (k : Int) (t : ByteArray) (n : Int) (p q : Option Addr) (c m d : Nat) (ht : t.size ≤ 4096) (w : World) : Calls Tryz.prog 57 #[spV k t n (.slice p 0 c) (.slice q m d)] w fun e w' => e = .returned (.int .i64 t.size) ∧ Below w.heap.size w w' := by
  unfold spV
  go_enter Tryz.func57, Tryz.ntmps57
  go_wp2
  refine wp_loop_rounds 1 ?_
  rw [rounds_succ]
  go_wp2
  go_ret
  exact ⟨rfl, (Below.refl _ _).alloc (Nat.le_refl _) _⟩
/-- how long the text of an error of this spec is, whatever is made meanwhile -/
def LongIs (w : World) (s : Value) (l : Value) (L : Nat) : Prop := ∀ W, Below w.heap.size w W → Calls Tryz.prog 58 #[s, l] W fun e w' => e = .returned (.int .i64 L) ∧ Below W.heap.size W w'
theorem below_a2 {w w1 : World} {A R : Obj} (hb : Below ((w.alloc A).alloc R).heap.size ((w.alloc A).alloc R) w1) : Below (w.alloc A).heap.size (w.alloc A) w1 :=
  ((Below.refl (w.alloc A).heap.size (w.alloc A)).alloc (Nat.le_refl _) R).trans (hb.mono (by simp))
set_option maxRecDepth 100000 in
set_option maxHeartbeats 1000000 in
theorem bulkOf_nil (k : Int) (t : ByteArray) (n : Int) (p q r : Option Addr) (c d : Nat) (ht : t.size ≤ 4096) (L : Nat) (w : World) (hL : LongIs w (spV k t n (.slice p 0 c) (.slice q 0 d)) (.slice none 0 0) L) :
    Calls Tryz.prog 38 #[.pointer r, spV k t n (.slice p 0 c) (.slice q 0 d)] w fun e w' => e = .returned (.agg #[.int .i64 1, .int .i64 1, .int .i64 L, .int .i64 t.size]) ∧ Below w.heap.size w w' := by
  have KW := Lib.hid (fun W => wordsOf_in k t n p q c 0 d ht W)
  have KL := Lib.hid hL
  clear hL
  unfold LongIs at KL
  unfold spV at *
  go_enter Tryz.func38, Tryz.ntmps38
  go_wp2_with fail
  refine (KW.out _).mono ?_
  rintro e w1 ⟨rfl, hb1⟩
  have hA : Below w.heap.size w w1 := (((Below.refl _ _).alloc (Nat.le_refl _) _).alloc (by simp) _).trans (hb1.mono (by simp; omega))
  have hA0 := below_a2 hb1
  obtain ⟨g0, g1, g2, g3, g4, g5, g6, g7, g8, g9, g10⟩ := box11 hA0
  have r0 := cell_at hb1 0; have r1 := cell_at hb1 1; have r2 := cell_at hb1 2; have r3 := cell_at hb1 3
  simp only [List.getElem?_toArray, List.getElem?_cons_zero, List.getElem?_cons_succ] at r0 r1 r2 r3
  have rz := frozen_at hb1
  have hs1 : w.heap.size + 2 ≤ w1.heap.size := by have := hb1.size; simp at this; omega
  have hn1 : ¬ w.heap.size = w1.heap.size := by omega
  have hn2 : ¬ w1.heap.size = w.heap.size := by omega
  have hn3 : ¬ w.heap.size + 1 = w1.heap.size := by omega
  have hn4 : ¬ w1.heap.size = w.heap.size + 1 := by omega
  have hn5 : w.heap.size < w1.heap.size := by omega
  have hn6 : w.heap.size + 1 < w1.heap.size := by omega
  go_wp2_with fail
  refine wp_loop_rounds 1 ?_
  rw [rounds_succ]
  go_wp2_with fail
  refine (KL.out _ (hA.alloc hA.size _)).mono ?_
  rintro e w2 ⟨rfl, hb2⟩
  have m0 := cell_new hb2 0; have m1 := cell_new hb2 1; have m2 := cell_new hb2 2; have m3 := cell_new hb2 3
  simp only [List.getElem?_toArray, List.getElem?_cons_zero, List.getElem?_cons_succ] at m0 m1 m2 m3
  have mz := frozen_new hb2 2
  have hb12 : Below w1.heap.size w1 w2 := ((Below.refl _ _).alloc (Nat.le_refl _) _).trans (hb2.mono (by simp))
  have s0 := (hb12.cell (p := ⟨w.heap.size + 1, 0, none⟩) hn6).trans r0
  have s1 := (hb12.cell (p := ⟨w.heap.size + 1, 1, none⟩) hn6).trans r1
  have s2 := (hb12.cell (p := ⟨w.heap.size + 1, 2, none⟩) hn6).trans r2
  have s3 := (hb12.cell (p := ⟨w.heap.size + 1, 3, none⟩) hn6).trans r3
  have sz := fun j => (hb12.frozen (p := ⟨w.heap.size + 1, j, none⟩) hn6).trans (rz j)
  have hAw := more hA hb12
  clear g0 g1 g2 g3 g4 g5 g6 g7 g8 g9 g10 r0 r1 r2 r3 rz hb1 hb2 hA0
  go_wp2
  refine bodyPost_ret (v := .agg #[.int .i64 1, .int .i64 1, .int .i64 L, .int .i64 t.size]) ?_ rfl ⟨rfl, ?_⟩
  · simp [results, Tryz.f38, go_sem, s0, s1, s2, s3]
  · repeat (refine Below.setCell ?_ (by first | (simp; done) | exact hA.size | omega) _)
    exact hAw
/-- the same, with the length of the one part's text -/
def LongOne (w : World) (s : Value) (l L : Nat) : Prop := ∀ W, Below w.heap.size w W → ∀ g z, W.cell? ⟨g, 0, none⟩ = some (.int .i64 l) → Calls Tryz.prog 58 #[s, .slice (some ⟨g, 0, none⟩) 1 z] W fun e w' => e = .returned (.int .i64 L) ∧ Below W.heap.size W w'
set_option maxRecDepth 100000 in
set_option maxHeartbeats 2000000 in
theorem bulkOf_one (k : Int) (t : ByteArray) (n : Int) (p : Option Addr) (c d : Nat) (pb po : Nat) (ht : t.size ≤ 4096) (b h : Nat) (x : En) (w : World) (H : Finds w b h x) (hi : ∃ a n c, x.its = .slice a n c) (hpx : ∃ a n c, x.parts = .slice a n c) (hp : w.cell? ⟨pb, po, none⟩ = some (.int .i64 h))
    (hx1 : x.sz ≤ 4096) (hx2 : x.dp ≤ 64) (hx3 : x.lg ≤ 65536) (hx4 : x.wd ≤ 1048576) (L : Nat) (hL : LongOne w (spV k t n (.slice p 0 c) (.slice (some ⟨pb, po, none⟩) 1 d)) x.lg L) :
    Calls Tryz.prog 38 #[.pointer (some ⟨b, 0, none⟩), spV k t n (.slice p 0 c) (.slice (some ⟨pb, po, none⟩) 1 d)] w fun e w' => e = .returned (.agg #[.int .i64 ((1 + x.sz : Nat) : Int), .int .i64 ((x.dp + 1 : Nat) : Int), .int .i64 L, .int .i64 ((t.size + x.wd : Nat) : Int)]) ∧ Below w.heap.size w w' := by
  obtain ⟨T, u, xk, xt, xn, its, parts, hs, sz, dp, lg, wd⟩ := x
  obtain ⟨ia, in_, ic, hi⟩ := hi
  obtain ⟨pa, pn, pc, hpp⟩ := hpx
  simp only at hi hpp hx1 hx2 hx3 hx4 hL ⊢
  subst hi hpp
  obtain ⟨i0, hi, hz0, hz1, hz2⟩ := info_parts infoInt
  have hlp : pb < w.heap.size := World.block_lt_of_cell? _ _ hp
  have KW := Lib.hid (fun W => wordsOf_in k t n p (some ⟨pb, po, none⟩) c 1 d ht W)
  have KL := Lib.hid hL
  have KF := Lib.hid H
  clear hL H
  unfold LongOne at KL
  unfold Finds enV enC at KF
  unfold spV at *
  go_enter Tryz.func38, Tryz.ntmps38
  go_wp2_with fail
  refine (KW.out _).mono ?_
  rintro e w1 ⟨rfl, hb1⟩
  have hA : Below w.heap.size w w1 := (((Below.refl _ _).alloc (Nat.le_refl _) _).alloc (by simp) _).trans (hb1.mono (by simp; omega))
  have hA0 := below_a2 hb1
  obtain ⟨g0, g1, g2, g3, g4, g5, g6, g7, g8, g9, g10⟩ := box11 hA0
  have r0 := cell_at hb1 0; have r1 := cell_at hb1 1; have r2 := cell_at hb1 2; have r3 := cell_at hb1 3
  simp only [List.getElem?_toArray, List.getElem?_cons_zero, List.getElem?_cons_succ] at r0 r1 r2 r3
  have rz := frozen_at hb1
  have hs1 : w.heap.size + 2 ≤ w1.heap.size := by have := hb1.size; simp at this; omega
  have hn1 : ¬ w.heap.size = w1.heap.size := by omega
  have hn2 : ¬ w1.heap.size = w.heap.size := by omega
  have hn3 : ¬ w.heap.size + 1 = w1.heap.size := by omega
  have hn4 : ¬ w1.heap.size = w.heap.size + 1 := by omega
  have hn5 : w.heap.size < w1.heap.size := by omega
  have hn6 : w.heap.size + 1 < w1.heap.size := by omega
  have hp1 := (hA.cell (p := ⟨pb, po, none⟩) hlp).trans hp
  have hn7 : pb < w1.heap.size := by omega
  have hn8 : ¬ pb = w1.heap.size := by omega
  go_wp2_with fail
  refine wp_loop_rounds 2 ?_
  rw [rounds_succ]
  go_wp2_with fail
  refine (KF.out _ (hA.alloc hA.size _)).mono ?_
  rintro e w2 ⟨rfl, hb2⟩
  have m0 := cell_new hb2 0; have m1 := cell_new hb2 1; have m2 := cell_new hb2 2; have m3 := cell_new hb2 3
  simp only [List.getElem?_toArray, List.getElem?_cons_zero, List.getElem?_cons_succ] at m0 m1 m2 m3
  have mz := frozen_new hb2
  have hb12 : Below w1.heap.size w1 w2 := ((Below.refl _ _).alloc (Nat.le_refl _) _).trans (hb2.mono (by simp))
  have s0 := (hb12.cell (p := ⟨w.heap.size + 1, 0, none⟩) hn6).trans r0
  have s1 := (hb12.cell (p := ⟨w.heap.size + 1, 1, none⟩) hn6).trans r1
  have s2 := (hb12.cell (p := ⟨w.heap.size + 1, 2, none⟩) hn6).trans r2
  have s3 := (hb12.cell (p := ⟨w.heap.size + 1, 3, none⟩) hn6).trans r3
  have sz' := fun j => (hb12.frozen (p := ⟨w.heap.size + 1, j, none⟩) hn6).trans (rz j)
  have q0 := (hb12.cell (p := ⟨w.heap.size, 0, none⟩) hn5).trans g0
  have q1 := (hb12.cell (p := ⟨w.heap.size, 1, none⟩) hn5).trans g1
  have q2 := (hb12.cell (p := ⟨w.heap.size, 2, none⟩) hn5).trans g2
  have q3 := (hb12.cell (p := ⟨w.heap.size, 3, none⟩) hn5).trans g3
  have q4 := (hb12.cell (p := ⟨w.heap.size, 4, none⟩) hn5).trans g4
  have q5 := (hb12.cell (p := ⟨w.heap.size, 5, none⟩) hn5).trans g5
  have q6 := (hb12.cell (p := ⟨w.heap.size, 6, none⟩) hn5).trans g6
  have q7 := (hb12.cell (p := ⟨w.heap.size, 7, none⟩) hn5).trans g7
  have q8 := (hb12.cell (p := ⟨w.heap.size, 8, none⟩) hn5).trans g8
  have q9 := (hb12.cell (p := ⟨w.heap.size, 9, none⟩) hn5).trans g9
  have q10 := (hb12.cell (p := ⟨w.heap.size, 10, none⟩) hn5).trans g10
  have hAw := more hA hb12
  have hs2 : w1.heap.size < w2.heap.size := by have := hb2.size; simp at this; omega
  have ho1 : ¬ w1.heap.size = w2.heap.size := by omega
  have ho2 : ¬ w2.heap.size = w1.heap.size := by omega
  clear g0 g1 g2 g3 g4 g5 g6 g7 g8 g9 g10 r0 r1 r2 r3 rz hb1 hb2 hA0 hp1
  go_wp2_with (at_builtin; refine wpList_append_own _ rfl (.tmp 48) (.tmp 52) 38 rfl w2.heap.size 3 i0 (.int .i64 0) 1 8 Tryz.underlying38 hi hz0 hz1 hz2 rfl (by decide) (.slice none 0 0) 0 [] rfl (World.ownsRow_nil _ _ _ _) ⟨w2.heap.size + 1, 0, none⟩ 1 1 [.int .i64 lg] rfl rfl (cell1_in _ _ _ _ (by simp)) (by simp [Value.oneCell']) (by unfold maxLen; omega) (by omega) (by simp; omega) ?_; intro v' w3 hown' hgrow _)
  obtain ⟨V, hV⟩ : ∃ V, ((w2.setCell ⟨w1.heap.size, 0, none⟩ (.int .i64 (1 + sz))).setCell ⟨w1.heap.size, 1, none⟩ (.int .i64 dp)).setCell ⟨w1.heap.size, 3, none⟩ (.int .i64 (t.size + wd)) = V := ⟨_, rfl⟩
  rw [hV] at hgrow
  have hVs : V.heap.size = w2.heap.size := by rw [← hV]; simp
  have hwV : Below w1.heap.size w2 V := by
    rw [← hV]
    refine Below.setCell (p := ⟨w1.heap.size, 3, none⟩) ?_ (Nat.le_refl _) _
    refine Below.setCell (p := ⟨w1.heap.size, 1, none⟩) ?_ (Nat.le_refl _) _
    exact Below.setCell (p := ⟨w1.heap.size, 0, none⟩) (Below.refl _ _) (Nat.le_refl _) _
  have hG : Below V.heap.size V w3 := (((Below.refl _ _).alloc (Nat.le_refl _) _).alloc (by simp) _).trans (grown_below (B := V.heap.size) hgrow (by simp; omega) (fun k hk => by simp [Value.ownBlock] at hk))
  have v0 : V.cell? ⟨w1.heap.size, 0, none⟩ = some (.int .i64 (1 + sz)) := by rw [← hV]; simp [go_sem, m0]
  have v1 : V.cell? ⟨w1.heap.size, 1, none⟩ = some (.int .i64 dp) := by rw [← hV]; simp [go_sem, m1]
  have v2 : V.cell? ⟨w1.heap.size, 2, none⟩ = some (.int .i64 0) := by rw [← hV]; simp [go_sem, m2]
  have v3 : V.cell? ⟨w1.heap.size, 3, none⟩ = some (.int .i64 (t.size + wd)) := by rw [← hV]; simp [go_sem, m3]
  have vz : ∀ j, V.frozen? ⟨w1.heap.size, j, none⟩ = false := fun j => by rw [← hV]; simp [go_sem, mz]
  have hVl : w1.heap.size < V.heap.size := by omega
  have y0 := (hG.cell (p := ⟨w1.heap.size, 0, none⟩) hVl).trans v0
  have y1 := (hG.cell (p := ⟨w1.heap.size, 1, none⟩) hVl).trans v1
  have y2 := (hG.cell (p := ⟨w1.heap.size, 2, none⟩) hVl).trans v2
  have y3 := (hG.cell (p := ⟨w1.heap.size, 3, none⟩) hVl).trans v3
  have yz := fun j => (hG.frozen (p := ⟨w1.heap.size, j, none⟩) hVl).trans (vz j)
  have hw3 : Below w1.heap.size w2 w3 := hwV.trans (hG.mono (by omega))
  have a0 := (hw3.cell (p := ⟨w.heap.size + 1, 0, none⟩) hn6).trans s0
  have a1 := (hw3.cell (p := ⟨w.heap.size + 1, 1, none⟩) hn6).trans s1
  have a2 := (hw3.cell (p := ⟨w.heap.size + 1, 2, none⟩) hn6).trans s2
  have a3 := (hw3.cell (p := ⟨w.heap.size + 1, 3, none⟩) hn6).trans s3
  have az := fun j => (hw3.frozen (p := ⟨w.heap.size + 1, j, none⟩) hn6).trans (sz' j)
  have e0 := (hw3.cell (p := ⟨w.heap.size, 0, none⟩) hn5).trans q0
  have e1 := (hw3.cell (p := ⟨w.heap.size, 1, none⟩) hn5).trans q1
  have e2 := (hw3.cell (p := ⟨w.heap.size, 2, none⟩) hn5).trans q2
  have e3 := (hw3.cell (p := ⟨w.heap.size, 3, none⟩) hn5).trans q3
  have e4 := (hw3.cell (p := ⟨w.heap.size, 4, none⟩) hn5).trans q4
  have e5 := (hw3.cell (p := ⟨w.heap.size, 5, none⟩) hn5).trans q5
  have e6 := (hw3.cell (p := ⟨w.heap.size, 6, none⟩) hn5).trans q6
  have e7 := (hw3.cell (p := ⟨w.heap.size, 7, none⟩) hn5).trans q7
  have e8 := (hw3.cell (p := ⟨w.heap.size, 8, none⟩) hn5).trans q8
  have e9 := (hw3.cell (p := ⟨w.heap.size, 9, none⟩) hn5).trans q9
  have e10 := (hw3.cell (p := ⟨w.heap.size, 10, none⟩) hn5).trans q10
  have hAw3 : Below w.heap.size w w3 := hAw.trans (hw3.mono hA.size)
  obtain ⟨g, z, rfl, hg, hz, hcg⟩ := row_one hown'
  have hgw : w2.heap.size ≤ w3.heap.size := by have := hG.size; omega
  clear q0 q1 q2 q3 q4 q5 q6 q7 q8 q9 q10 s0 s1 s2 s3 sz' m0 m1 m2 m3 mz v0 v1 v2 v3 vz hown' hgrow hV hVs hwV hG hVl hw3
  have hgn : ¬ g = w1.heap.size := by omega
  have hgn' : ¬ w1.heap.size = g := by omega
  rw [rounds_succ]
  go_wp2_with fail
  have k0 : (w3.setCell ⟨w1.heap.size, 1, none⟩ (.int .i64 (dp + 1))).cell? ⟨g, 0, none⟩ = some (.int .i64 lg) := by simp [go_sem, hcg]
  have k1 : (w3.setCell ⟨w1.heap.size, 1, none⟩ (.int .i64 (dp + 1))).cell? ⟨w1.heap.size, 0, none⟩ = some (.int .i64 (1 + sz)) := by simp [go_sem, y0]
  have k2 : (w3.setCell ⟨w1.heap.size, 1, none⟩ (.int .i64 (dp + 1))).cell? ⟨w1.heap.size, 1, none⟩ = some (.int .i64 (dp + 1)) := by simp [go_sem, y1]
  have k3 : (w3.setCell ⟨w1.heap.size, 1, none⟩ (.int .i64 (dp + 1))).cell? ⟨w1.heap.size, 2, none⟩ = some (.int .i64 0) := by simp [go_sem, y2]
  have k4 : (w3.setCell ⟨w1.heap.size, 1, none⟩ (.int .i64 (dp + 1))).cell? ⟨w1.heap.size, 3, none⟩ = some (.int .i64 (t.size + wd)) := by simp [go_sem, y3]
  have k5 : (w3.setCell ⟨w1.heap.size, 1, none⟩ (.int .i64 (dp + 1))).frozen? ⟨w1.heap.size, 2, none⟩ = false := by simp [go_sem, yz]
  have hb4 : Below w1.heap.size w3 (w3.setCell ⟨w1.heap.size, 1, none⟩ (.int .i64 (dp + 1))) := Below.setCell (p := ⟨w1.heap.size, 1, none⟩) (Below.refl _ _) (Nat.le_refl _) _
  have hsz4 : (w3.setCell ⟨w1.heap.size, 1, none⟩ (.int .i64 (dp + 1))).heap.size = w3.heap.size := by simp
  generalize w3.setCell ⟨w1.heap.size, 1, none⟩ (.int .i64 (dp + 1)) = W4 at *
  refine (KL.out _ (hAw3.trans (hb4.mono hA.size)) g z k0).mono ?_
  rintro e w5 ⟨rfl, hb5⟩
  have hl4 : w1.heap.size < W4.heap.size := by omega
  have m0 := (hb5.cell (p := ⟨w1.heap.size, 0, none⟩) hl4).trans k1
  have m1 := (hb5.cell (p := ⟨w1.heap.size, 1, none⟩) hl4).trans k2
  have m2 := (hb5.cell (p := ⟨w1.heap.size, 2, none⟩) hl4).trans k3
  have m3 := (hb5.cell (p := ⟨w1.heap.size, 3, none⟩) hl4).trans k4
  have mz := (hb5.frozen (p := ⟨w1.heap.size, 2, none⟩) hl4).trans k5
  have hw5 : Below w1.heap.size w3 w5 := hb4.trans (hb5.mono (by omega))
  have s0 := (hw5.cell (p := ⟨w.heap.size + 1, 0, none⟩) hn6).trans a0
  have s1 := (hw5.cell (p := ⟨w.heap.size + 1, 1, none⟩) hn6).trans a1
  have s2 := (hw5.cell (p := ⟨w.heap.size + 1, 2, none⟩) hn6).trans a2
  have s3 := (hw5.cell (p := ⟨w.heap.size + 1, 3, none⟩) hn6).trans a3
  have sz' := fun j => (hw5.frozen (p := ⟨w.heap.size + 1, j, none⟩) hn6).trans (az j)
  have hAw5 : Below w.heap.size w w5 := hAw3.trans (hw5.mono hA.size)
  clear a0 a1 a2 a3 az e0 e1 e2 e3 e4 e5 e6 e7 e8 e9 e10 y0 y1 y2 y3 yz k0 k1 k2 k3 k4 k5 hb4 hb5 hcg hw5
  go_wp2
  refine bodyPost_ret (v := .agg #[.int .i64 ((1 + sz : Nat) : Int), .int .i64 ((dp + 1 : Nat) : Int), .int .i64 L, .int .i64 ((t.size + wd : Nat) : Int)]) ?_ rfl ⟨rfl, ?_⟩
  · simp [results, Tryz.f38, go_sem, s0, s1, s2, s3]
  · repeat (refine Below.setCell ?_ (by first | (simp; done) | exact hA.size | omega) _)
    exact hAw5
end Go.Proofs.YtpemfnhplkjndaaGreatDoor.T
