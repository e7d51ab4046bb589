/-
  kinds.Make of a Code, a Wrap and a Veil.
-/
import Derived.Test.YtpemfnhplkjndaaGreatDoorMkSpec
import Derived.Test.YtpemfnhplkjndaaGreatDoorShelf
set_option linter.unusedVariables false
namespace Go.Proofs.YtpemfnhplkjndaaGreatDoor.T
open Go Go.Lib Go.RowKit
attribute [local go_sem] run_store_float

/-- the cells of a block that has just been made, whatever came behind it -/
theorem cell_new {w w1 : World} {c : Array Value} {t : TypeId} (hb : Below (w.alloc (.cells c t)).heap.size (w.alloc (.cells c t)) w1) (j : Nat) : w1.cell? ⟨w.heap.size, j, none⟩ = c[j]? :=
  (hb.cell (p := ⟨w.heap.size, j, none⟩) (by simp)).trans (by rw [World.cell?_alloc_at _ _ _ _ rfl])
theorem frozen_new {w w1 : World} {c : Array Value} {t : TypeId} (hb : Below (w.alloc (.cells c t)).heap.size (w.alloc (.cells c t)) w1) (j : Nat) : w1.frozen? ⟨w.heap.size, j, none⟩ = false :=
  (World.frozen?_of_block (hb.block _ (by simp))).trans (World.frozen?_alloc_at _ _ _ _ rfl)
theorem clone_in (s : ByteArray) (w : World) (hs : s.size ≤ 281474976710656) : Calls Tryz.prog 59 #[.string s] w fun e w' => e = .returned (.string s) ∧ Below w.heap.size w w' := by
  go_enter Tryz.func59, Tryz.ntmps59
  go_wp2_with (go_at_call 78; refine (Go.Proofs.Tryz.stringslite_Clone s _ hs).mono ?_; rintro e w1 ⟨rfl, hb1⟩)
  go_ret
  exact ⟨rfl, hb1⟩
theorem box11 {w w1 : World} {c0 c1 c2 c3 c4 c5 c6 c7 c8 c9 c10 : Value} {t : TypeId} (hb : Below (w.alloc (.cells #[c0, c1, c2, c3, c4, c5, c6, c7, c8, c9, c10] t)).heap.size (w.alloc (.cells #[c0, c1, c2, c3, c4, c5, c6, c7, c8, c9, c10] t)) w1) : w1.cell? ⟨w.heap.size, 0, none⟩ = some c0 ∧ w1.cell? ⟨w.heap.size, 1, none⟩ = some c1 ∧ w1.cell? ⟨w.heap.size, 2, none⟩ = some c2 ∧ w1.cell? ⟨w.heap.size, 3, none⟩ = some c3 ∧ w1.cell? ⟨w.heap.size, 4, none⟩ = some c4 ∧ w1.cell? ⟨w.heap.size, 5, none⟩ = some c5 ∧ w1.cell? ⟨w.heap.size, 6, none⟩ = some c6 ∧ w1.cell? ⟨w.heap.size, 7, none⟩ = some c7 ∧ w1.cell? ⟨w.heap.size, 8, none⟩ = some c8 ∧ w1.cell? ⟨w.heap.size, 9, none⟩ = some c9 ∧ w1.cell? ⟨w.heap.size, 10, none⟩ = some c10 :=
  ⟨cell_new hb 0, cell_new hb 1, cell_new hb 2, cell_new hb 3, cell_new hb 4, cell_new hb 5, cell_new hb 6, cell_new hb 7, cell_new hb 8, cell_new hb 9, cell_new hb 10⟩
theorem mkS0 (W : World) : (Instr.makeSlice 69 (.int .i64 0) (.int .i64 0)).run Tryz.prog W = .ok (.slice (some ⟨W.heap.size, 0, none⟩) 0 0) (W.alloc (.cells #[] 9)) := by kernel_rfl
theorem below_a {w w1 : World} {A R S : Obj} (hb : Below (((w.alloc A).alloc R).alloc S).heap.size (((w.alloc A).alloc R).alloc S) w1) : Below (w.alloc A).heap.size (w.alloc A) w1 :=
  (((Below.refl (w.alloc A).heap.size (w.alloc A)).alloc (Nat.le_refl _) R).alloc (by simp) S).trans (hb.mono (by simp))
theorem below_r {w w1 : World} {A R S : Obj} (hb : Below (((w.alloc A).alloc R).alloc S).heap.size (((w.alloc A).alloc R).alloc S) w1) : Below ((w.alloc A).alloc R).heap.size ((w.alloc A).alloc R) w1 :=
  ((Below.refl ((w.alloc A).alloc R).heap.size ((w.alloc A).alloc R)).alloc (Nat.le_refl _) S).trans (hb.mono (by simp))
theorem frozen_at {w w1 : World} {A : Obj} {c : Array Value} {t : TypeId} (hb : Below ((w.alloc A).alloc (.cells c t)).heap.size ((w.alloc A).alloc (.cells c t)) w1) : ∀ j, w1.frozen? ⟨w.heap.size + 1, j, none⟩ = false := fun j => by
  have := frozen_new hb j
  simpa using this
theorem cell_at {w w1 : World} {A : Obj} {c : Array Value} {t : TypeId} (hb : Below ((w.alloc A).alloc (.cells c t)).heap.size ((w.alloc A).alloc (.cells c t)) w1) (j : Nat) : w1.cell? ⟨w.heap.size + 1, j, none⟩ = c[j]? := by
  have := cell_new hb j
  simpa using this
theorem box11r {w w1 : World} {A : Obj} {c0 c1 c2 c3 c4 c5 c6 c7 c8 c9 c10 : Value} {t : TypeId} (hb : Below ((w.alloc A).alloc (.cells #[c0, c1, c2, c3, c4, c5, c6, c7, c8, c9, c10] t)).heap.size ((w.alloc A).alloc (.cells #[c0, c1, c2, c3, c4, c5, c6, c7, c8, c9, c10] t)) w1) : w1.cell? ⟨w.heap.size + 1, 0, none⟩ = some c0 ∧ w1.cell? ⟨w.heap.size + 1, 1, none⟩ = some c1 ∧ w1.cell? ⟨w.heap.size + 1, 2, none⟩ = some c2 ∧ w1.cell? ⟨w.heap.size + 1, 3, none⟩ = some c3 ∧ w1.cell? ⟨w.heap.size + 1, 4, none⟩ = some c4 ∧ w1.cell? ⟨w.heap.size + 1, 5, none⟩ = some c5 ∧ w1.cell? ⟨w.heap.size + 1, 6, none⟩ = some c6 ∧ w1.cell? ⟨w.heap.size + 1, 7, none⟩ = some c7 ∧ w1.cell? ⟨w.heap.size + 1, 8, none⟩ = some c8 ∧ w1.cell? ⟨w.heap.size + 1, 9, none⟩ = some c9 ∧ w1.cell? ⟨w.heap.size + 1, 10, none⟩ = some c10 :=
  ⟨cell_at hb 0, cell_at hb 1, cell_at hb 2, cell_at hb 3, cell_at hb 4, cell_at hb 5, cell_at hb 6, cell_at hb 7, cell_at hb 8, cell_at hb 9, cell_at hb 10⟩
set_option maxRecDepth 100000 in
theorem words_in (k : Int) (t : ByteArray) (n : Int) (p q : Option Addr) (c m d : Nat) (ht : t.size ≤ 4096) (w : World) :
    Calls Tryz.prog 50 #[spV k t n (.slice p 0 c) (.slice q m d)] w fun e w' => ∃ x, e = .returned (spV k t n (.slice (some x) 0 0) (.slice q m d)) ∧ Below w.heap.size w w' := by
  have cC := fun W => clone_in t W (by omega)
  have hm := mkS0
  unfold spV
  go_enter Tryz.func50, Tryz.ntmps50
  go_wp2
  refine wp_loop_rounds 1 ?_
  rw [rounds_succ]
  go_wp2_with (go_at_call 59; refine (cC _).mono ?_; rintro e w1 ⟨rfl, hb1⟩; have hA := below_a hb1; have hR := below_r hb1; obtain ⟨g0, g1, g2, g3, g4, g5, g6, g7, g8, g9, g10⟩ := box11 hA; have z2 := frozen_new hA 2; have z9 := frozen_new hA 9; have zr := frozen_at hR; obtain ⟨r0, r1, r2, r3, r4, r5, r6, r7, r8, r9, r10⟩ := box11r hR)
  have hb2 : Below w.heap.size w w1 := (((Below.refl _ _).alloc (Nat.le_refl _) _).trans (hA.mono (by simp)))
  refine bodyPost_ret (v := spV k t n (.slice (some ⟨w.heap.size + 1 + 1, 0, none⟩) 0 0) (.slice q m d)) ?_ rfl ⟨_, rfl, ?_⟩
  · unfold spV
    simp [results, Tryz.f50, go_sem, r0, r1, r2, r3, r4, r5, r6, r7, r8, r9, r10]
  · repeat (refine Below.setCell ?_ (by simp) _)
    exact hb2
theorem blk_at (w : World) (A B : Obj) : ((w.alloc A).alloc B).heap[w.heap.size + 1]? = some B := by
  show ((w.heap.push A).push B)[w.heap.size + 1]? = _
  rw [Array.getElem?_push, if_pos (by simp)]
theorem parts_leaf (w : World) : Calls Tryz.prog 51 #[.int .u8 1] w fun e w' => e = .returned (.tuple #[.int .i64 0, .int .i64 0]) ∧ w' = w := by
  go_enter Tryz.func51, Tryz.ntmps51
  go_wp2
  go_ret2
  exact ⟨rfl, rfl⟩
theorem parts_wrap (w : World) : Calls Tryz.prog 51 #[.int .u8 14] w fun e w' => e = .returned (.tuple #[.int .i64 0, .int .i64 1]) ∧ w' = w := by
  go_enter Tryz.func51, Tryz.ntmps51
  go_wp2
  go_ret2
  exact ⟨rfl, rfl⟩
theorem parts_veil (w : World) : Calls Tryz.prog 51 #[.int .u8 20] w fun e w' => e = .returned (.tuple #[.int .i64 0, .int .i64 1]) ∧ w' = w := by
  go_enter Tryz.func51, Tryz.ntmps51
  go_wp2
  go_ret2
  exact ⟨rfl, rfl⟩
set_option maxRecDepth 100000 in
theorem leaf_code (n : Int) (p q : Option Addr) (c m d k : Nat) (w : World) : Calls Tryz.prog 52 #[spV 1 ⟨#[]⟩ n (.slice p k c) (.slice q m d)] w fun e w' => e = .returned (.iface 72 (.int .i16 n)) ∧ Below w.heap.size w w' := by
  unfold spV
  go_enter Tryz.func52, Tryz.ntmps52
  go_wp2
  go_ret
  exact ⟨rfl, (Below.refl _ _).alloc (Nat.le_refl _) _⟩
set_option maxRecDepth 100000 in
theorem about_wrap (t : ByteArray) (n : Int) (p q : Option Addr) (c m d k : Nat) (T : TypeId) (u : Value) (w : World) : Calls Tryz.prog 53 #[spV 14 t n (.slice p k c) (.slice q m d), .iface T u] w fun e w' => e = .returned (.tuple #[.iface 137 (.pointer (some ⟨w.heap.size + 1, 0, none⟩)), .int .i64 0]) ∧ w'.heap[w.heap.size + 1]? = some (.cells #[.string t, .iface T u] 185 (0, 0)) ∧ Below w.heap.size w w' := by
  unfold spV
  go_enter Tryz.func53, Tryz.ntmps53
  go_wp2
  go_ret2
  exact ⟨rfl, blk_at w _ _, ((Below.refl _ _).alloc (Nat.le_refl _) _).alloc (by simp) _⟩
set_option maxRecDepth 100000 in
theorem about_veil (t : ByteArray) (n : Int) (p q : Option Addr) (c m d k : Nat) (T : TypeId) (u : Value) (w : World) : Calls Tryz.prog 53 #[spV 20 t n (.slice p k c) (.slice q m d), .iface T u] w fun e w' => e = .returned (.tuple #[.iface 190 (.agg #[.iface T u]), .int .i64 0]) ∧ Below w.heap.size w w' := by
  unfold spV
  go_enter Tryz.func53, Tryz.ntmps53
  go_wp2
  go_ret2
  exact ⟨rfl, (Below.refl _ _).alloc (Nat.le_refl _) _⟩
theorem theOne_in (b o d : Nat) (x : Value) (w : World) (hc : w.cell? ⟨b, o, none⟩ = some x) : Calls Tryz.prog 54 #[.slice (some ⟨b, o, none⟩) 1 d] w fun e w' => e = .returned x ∧ w' = w := by
  go_enter Tryz.func54, Tryz.ntmps54
  go_wp2
  go_ret
  exact ⟨rfl, rfl⟩
set_option maxRecDepth 100000 in
set_option maxHeartbeats 1000000 in
theorem make_code (n : Int) (p q : Option Addr) (c d : Nat) (x : Option Addr) (y : Nat) (w : World) : Calls Tryz.prog 37 #[spV 1 ⟨#[]⟩ n (.slice p 0 c) (.slice q 0 d), .slice x 0 y] w fun e w' => e = .returned (.tuple #[.iface 72 (.int .i16 n), .int .i64 0]) ∧ Below w.heap.size w w' := by
  have cK := fun W => check_code n p q c d W
  have cW := fun W => words_in 1 ⟨#[]⟩ n p q c 0 d (by decide) W
  have cL := fun z W => leaf_code n (some z) q 0 0 d 0 W
  have KK := Lib.hid cK; have KW := Lib.hid cW; have KL := Lib.hid cL
  clear cK cW cL
  unfold spV at *
  go_enter Tryz.func37, Tryz.ntmps37
  go_wp2_with fail
  refine (KK.out _).mono ?_
  rintro e w1 ⟨rfl, hb1⟩
  obtain ⟨g0, g1, g2, g3, g4, g5, g6, g7, g8, g9, g10⟩ := box11 hb1
  go_wp2_with fail
  refine (KW.out _).mono ?_
  rintro e w2 ⟨z, rfl, hb2⟩
  have hb3 := more hb1 hb2
  obtain ⟨h0, h1, h2, h3, h4, h5, h6, h7, h8, h9, h10⟩ := box11 hb3
  have hz := frozen_new hb3
  have hbw : Below w.heap.size w w2 := ((Below.refl _ _).alloc (Nat.le_refl _) _).trans (hb3.mono (by simp))
  clear g0 g1 g2 g3 g4 g5 g6 g7 g8 g9 g10 hb1 hb2 hb3
  go_wp2_with fail
  refine (parts_leaf _).mono ?_
  rintro e w3 ⟨rfl, rfl⟩
  go_wp2_with fail
  refine (KL.out z _).mono ?_
  rintro e w4 ⟨rfl, hb4⟩
  go_wp2
  go_ret2
  refine ⟨rfl, more ?_ hb4⟩
  repeat (refine Below.setCell ?_ (by simp) _)
  exact hbw
set_option maxRecDepth 100000 in
set_option maxHeartbeats 1000000 in
theorem make_wrap (t : ByteArray) (ht : t.size ≤ 4096) (p q : Option Addr) (c d : Nat) (b o y : Nat) (T : TypeId) (u : Value) (w : World) (hc : w.cell? ⟨b, o, none⟩ = some (.iface T u)) :
    Calls Tryz.prog 37 #[spV 14 t 0 (.slice p 0 c) (.slice q 1 d), .slice (some ⟨b, o, none⟩) 1 y] w fun e w' => ∃ g, e = .returned (.tuple #[.iface 137 (.pointer (some ⟨g, 0, none⟩)), .int .i64 0]) ∧ w.heap.size ≤ g ∧ w'.heap[g]? = some (.cells #[.string t, .iface T u] 185 (0, 0)) ∧ Below w.heap.size w w' := by
  have hlt : b < w.heap.size := World.block_lt_of_cell? _ _ hc
  have cK := fun W => check_wrap t ht p q c 1 d (by decide) W
  have cW := fun W => words_in 14 t 0 p q c 1 d ht W
  have cL := fun z W => about_wrap t 0 (some z) q 0 1 d 0 T u W
  have KK := Lib.hid cK; have KW := Lib.hid cW; have KL := Lib.hid cL
  clear cK cW cL
  unfold spV at *
  go_enter Tryz.func37, Tryz.ntmps37
  go_wp2_with fail
  refine (KK.out _).mono ?_
  rintro e w1 ⟨rfl, hb1⟩
  obtain ⟨g0, g1, g2, g3, g4, g5, g6, g7, g8, g9, g10⟩ := box11 hb1
  go_wp2_with fail
  refine (KW.out _).mono ?_
  rintro e w2 ⟨z, rfl, hb2⟩
  have hb3 := more hb1 hb2
  obtain ⟨h0, h1, h2, h3, h4, h5, h6, h7, h8, h9, h10⟩ := box11 hb3
  have hz := frozen_new hb3
  have hbw : Below w.heap.size w w2 := ((Below.refl _ _).alloc (Nat.le_refl _) _).trans (hb3.mono (by simp))
  clear g0 g1 g2 g3 g4 g5 g6 g7 g8 g9 g10 hb1 hb2 hb3
  go_wp2_with fail
  refine (parts_wrap _).mono ?_
  rintro e w3 ⟨rfl, rfl⟩
  go_wp2_with fail
  obtain ⟨W, hW⟩ : ∃ W, (((((((((((w2.setCell ⟨w.heap.size, 0, none⟩ (.int .u8 14)).setCell ⟨w.heap.size, 1, none⟩ (.bool false)).setCell ⟨w.heap.size, 2, none⟩ (.string t)).setCell ⟨w.heap.size, 3, none⟩ (.int .i16 0)).setCell ⟨w.heap.size, 4, none⟩ (.int .i8 0)).setCell ⟨w.heap.size, 5, none⟩ (.float .f64 0)).setCell ⟨w.heap.size, 6, none⟩ (.float .f64 0)).setCell ⟨w.heap.size, 7, none⟩ (.bool false)).setCell ⟨w.heap.size, 8, none⟩ (.int .u32 0)).setCell ⟨w.heap.size, 9, none⟩ (.slice (some z) 0 0)).setCell ⟨w.heap.size, 10, none⟩ (.slice q 1 d)) = W := ⟨_, rfl⟩
  have hbW : Below w.heap.size w W := by
    rw [← hW]
    repeat (refine Below.setCell ?_ (by simp) _)
    exact hbw
  have hcW := (hbW.cell (p := ⟨b, o, none⟩) hlt).trans hc
  have k0 : W.cell? ⟨w.heap.size, 0, none⟩ = some (.int .u8 14) := by rw [← hW]; simp [go_sem, h0]
  have k1 : W.cell? ⟨w.heap.size, 1, none⟩ = some (.bool false) := by rw [← hW]; simp [go_sem, h1]
  have k2 : W.cell? ⟨w.heap.size, 2, none⟩ = some (.string t) := by rw [← hW]; simp [go_sem, h2]
  have k3 : W.cell? ⟨w.heap.size, 3, none⟩ = some (.int .i16 0) := by rw [← hW]; simp [go_sem, h3]
  have k4 : W.cell? ⟨w.heap.size, 4, none⟩ = some (.int .i8 0) := by rw [← hW]; simp [go_sem, h4]
  have k5 : W.cell? ⟨w.heap.size, 5, none⟩ = some (.float .f64 0) := by rw [← hW]; simp [go_sem, h5]
  have k6 : W.cell? ⟨w.heap.size, 6, none⟩ = some (.float .f64 0) := by rw [← hW]; simp [go_sem, h6]
  have k7 : W.cell? ⟨w.heap.size, 7, none⟩ = some (.bool false) := by rw [← hW]; simp [go_sem, h7]
  have k8 : W.cell? ⟨w.heap.size, 8, none⟩ = some (.int .u32 0) := by rw [← hW]; simp [go_sem, h8]
  have k9 : W.cell? ⟨w.heap.size, 9, none⟩ = some (.slice (some z) 0 0) := by rw [← hW]; simp [go_sem, h9]
  have k10 : W.cell? ⟨w.heap.size, 10, none⟩ = some (.slice q 1 d) := by rw [← hW]; simp [go_sem, h10]
  rw [hW]
  clear hW
  go_region_with (first | (go_at_call 54; refine (theOne_in b o y (.iface T u) W.drew hcW).mono ?_; rintro e w3 ⟨rfl, rfl⟩) | (go_at_call 53; refine (KL.out z _).mono ?_; rintro e w4 ⟨rfl, hg, hb4⟩))
  all_goals
    go_wp2
    go_ret2
    exact ⟨_, rfl, by have := hbW.size; show _ ≤ W.heap.size + 1; omega, hg, hbW.drew.trans (hb4.mono hbW.size)⟩
set_option maxRecDepth 100000 in
set_option maxHeartbeats 1000000 in
theorem make_veil (p q : Option Addr) (c d : Nat) (b o y : Nat) (T : TypeId) (u : Value) (w : World) (hc : w.cell? ⟨b, o, none⟩ = some (.iface T u)) :
    Calls Tryz.prog 37 #[spV 20 ⟨#[]⟩ 0 (.slice p 0 c) (.slice q 1 d), .slice (some ⟨b, o, none⟩) 1 y] w fun e w' => e = .returned (.tuple #[.iface 190 (.agg #[.iface T u]), .int .i64 0]) ∧ Below w.heap.size w w' := by
  have hlt : b < w.heap.size := World.block_lt_of_cell? _ _ hc
  have cK := fun W => check_veil p q c 1 d (by decide) W
  have cW := fun W => words_in 20 ⟨#[]⟩ 0 p q c 1 d (by decide) W
  have cL := fun z W => about_veil ⟨#[]⟩ 0 (some z) q 0 1 d 0 T u W
  have KK := Lib.hid cK; have KW := Lib.hid cW; have KL := Lib.hid cL
  clear cK cW cL
  unfold spV at *
  go_enter Tryz.func37, Tryz.ntmps37
  go_wp2_with fail
  refine (KK.out _).mono ?_
  rintro e w1 ⟨rfl, hb1⟩
  obtain ⟨g0, g1, g2, g3, g4, g5, g6, g7, g8, g9, g10⟩ := box11 hb1
  go_wp2_with fail
  refine (KW.out _).mono ?_
  rintro e w2 ⟨z, rfl, hb2⟩
  have hb3 := more hb1 hb2
  obtain ⟨h0, h1, h2, h3, h4, h5, h6, h7, h8, h9, h10⟩ := box11 hb3
  have hz := frozen_new hb3
  have hbw : Below w.heap.size w w2 := ((Below.refl _ _).alloc (Nat.le_refl _) _).trans (hb3.mono (by simp))
  clear g0 g1 g2 g3 g4 g5 g6 g7 g8 g9 g10 hb1 hb2 hb3
  go_wp2_with fail
  refine (parts_veil _).mono ?_
  rintro e w3 ⟨rfl, rfl⟩
  go_wp2_with fail
  obtain ⟨W, hW⟩ : ∃ W, (((((((((((w2.setCell ⟨w.heap.size, 0, none⟩ (.int .u8 20)).setCell ⟨w.heap.size, 1, none⟩ (.bool false)).setCell ⟨w.heap.size, 2, none⟩ (.string ⟨#[]⟩)).setCell ⟨w.heap.size, 3, none⟩ (.int .i16 0)).setCell ⟨w.heap.size, 4, none⟩ (.int .i8 0)).setCell ⟨w.heap.size, 5, none⟩ (.float .f64 0)).setCell ⟨w.heap.size, 6, none⟩ (.float .f64 0)).setCell ⟨w.heap.size, 7, none⟩ (.bool false)).setCell ⟨w.heap.size, 8, none⟩ (.int .u32 0)).setCell ⟨w.heap.size, 9, none⟩ (.slice (some z) 0 0)).setCell ⟨w.heap.size, 10, none⟩ (.slice q 1 d)) = W := ⟨_, rfl⟩
  have hbW : Below w.heap.size w W := by
    rw [← hW]
    repeat (refine Below.setCell ?_ (by simp) _)
    exact hbw
  have hcW := (hbW.cell (p := ⟨b, o, none⟩) hlt).trans hc
  have k0 : W.cell? ⟨w.heap.size, 0, none⟩ = some (.int .u8 20) := by rw [← hW]; simp [go_sem, h0]
  have k1 : W.cell? ⟨w.heap.size, 1, none⟩ = some (.bool false) := by rw [← hW]; simp [go_sem, h1]
  have k2 : W.cell? ⟨w.heap.size, 2, none⟩ = some (.string ⟨#[]⟩) := by rw [← hW]; simp [go_sem, h2]
  have k3 : W.cell? ⟨w.heap.size, 3, none⟩ = some (.int .i16 0) := by rw [← hW]; simp [go_sem, h3]
  have k4 : W.cell? ⟨w.heap.size, 4, none⟩ = some (.int .i8 0) := by rw [← hW]; simp [go_sem, h4]
  have k5 : W.cell? ⟨w.heap.size, 5, none⟩ = some (.float .f64 0) := by rw [← hW]; simp [go_sem, h5]
  have k6 : W.cell? ⟨w.heap.size, 6, none⟩ = some (.float .f64 0) := by rw [← hW]; simp [go_sem, h6]
  have k7 : W.cell? ⟨w.heap.size, 7, none⟩ = some (.bool false) := by rw [← hW]; simp [go_sem, h7]
  have k8 : W.cell? ⟨w.heap.size, 8, none⟩ = some (.int .u32 0) := by rw [← hW]; simp [go_sem, h8]
  have k9 : W.cell? ⟨w.heap.size, 9, none⟩ = some (.slice (some z) 0 0) := by rw [← hW]; simp [go_sem, h9]
  have k10 : W.cell? ⟨w.heap.size, 10, none⟩ = some (.slice q 1 d) := by rw [← hW]; simp [go_sem, h10]
  rw [hW]
  clear hW
  go_region_with (first | (go_at_call 54; refine (theOne_in b o y (.iface T u) W.drew hcW).mono ?_; rintro e w3 ⟨rfl, rfl⟩) | (go_at_call 53; refine (KL.out z _).mono ?_; rintro e w4 ⟨rfl, hb4⟩))
  all_goals
    go_wp2
    go_ret2
    exact ⟨rfl, hbW.drew.trans (hb4.mono hbW.size)⟩
end Go.Proofs.YtpemfnhplkjndaaGreatDoor.T
