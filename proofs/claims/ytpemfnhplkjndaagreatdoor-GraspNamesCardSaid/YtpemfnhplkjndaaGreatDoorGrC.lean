/-
  grasp.Nodes, grasp.within.
-/
import Derived.Test.YtpemfnhplkjndaaGreatDoorGrB
set_option linter.unusedVariables false
namespace Go.Proofs.YtpemfnhplkjndaaGreatDoor.T
open Go Go.Lib Go.RowKit
attribute [local go_sem] run_store_float

/-- what an error with nothing within is -/
def Bare (x : En) : Prop := x.hs.length ≤ 64 ∧ x.k ≠ 14 ∧ x.k ≠ 15 ∧ x.k ≠ 16 ∧ x.k ≠ 26 ∧ x.k ≠ 25
/-- the handles of all within -/
def Within (w : World) (b h : Nat) (l : List Nat) : Prop := ∀ W, Below w.heap.size w W → Calls Tryz.prog 24 #[.slice none 0 0, .pointer (some ⟨b, 0, none⟩), .int .i64 (h : Int)] W fun e w' => ∃ v', e = .returned v' ∧ IRow w.heap.size w' v' l ∧ Below w.heap.size w w'
theorem within_bare (b h : Nat) (x : En) (w : World) (H : Has w b h x) (hb : Bare x) : Within w b h [h] := fun W hW => by
  obtain ⟨h1, h2, h3, h4, h5, h6⟩ := hb
  exact withNodes_leaf b h x w H h1 h2 h3 h4 h5 h6 _ [] (by simp) W hW (IRow.nil _ _)
theorem within_wrap (b h h1 : Nat) (x y : En) (w : World) (H : Has w b h x) (k1 : x.k = 14) (hhs : x.hs = [h1]) (H1 : Has w b h1 y) (hb : Bare y) : Within w b h [h, h1] := fun W hW => by
  obtain ⟨y0, y2, y3, y4, y5, y6⟩ := hb
  exact withNodes_wrap b h h1 x y w H k1 hhs H1 y0 y2 y3 y4 y5 y6 _ [] (by simp) W hW (IRow.nil _ _)
set_option maxRecDepth 100000 in
theorem Nodes_in (b h : Nat) (x : En) (l : List Nat) (w : World) (H : Has w b h x) (HW : Within w b h l) : Calls Tryz.prog 12 #[.pointer (some ⟨b, 0, none⟩), .int .i64 (h : Int)] w fun e w' => ∃ v', e = .returned (.tuple #[v', .int .i64 0]) ∧ IRow w.heap.size w' v' l ∧ Below w.heap.size w w' := by
  have KE := Lib.hid (Error_in b h x w H)
  have KW := Lib.hid HW
  unfold Within at KW
  clear H HW
  go_enter Tryz.func12, Tryz.ntmps12
  go_wp2_with fail
  refine KE.out.mono ?_
  rintro e w1 ⟨rfl, hb1⟩
  go_wp2_with fail
  refine (KW.out _ hb1).mono ?_
  rintro e w2 ⟨v', rfl, hr, hb2⟩
  have HR := Lib.hid hr
  clear hr
  go_wp2
  go_ret2
  exact ⟨v', rfl, HR.out, hb2⟩
theorem mkE1 (W : World) : (Instr.makeSlice 33 (.int .i64 1) (.int .i64 1)).run Tryz.prog W = .ok (.slice (some ⟨W.heap.size, 0, none⟩) 1 1) (W.alloc (.cells #[.nilIface] 23)) := by kernel_rfl
theorem mkE2 (W : World) : (Instr.makeSlice 33 (.int .i64 2) (.int .i64 2)).run Tryz.prog W = .ok (.slice (some ⟨W.heap.size, 0, none⟩) 2 2) (W.alloc (.cells #[.nilIface, .nilIface] 23)) := by kernel_rfl
theorem mkE0 (W : World) : (Instr.makeSlice 33 (.int .i64 0) (.int .i64 0)).run Tryz.prog W = .ok (.slice (some ⟨W.heap.size, 0, none⟩) 0 0) (W.alloc (.cells #[] 23)) := by kernel_rfl
theorem irow_one {B : Nat} {w : World} {v : Value} {a : Nat} (h : IRow B w v [a]) : ∃ g c, v = .slice (some ⟨g, 0, none⟩) 1 c ∧ B ≤ g ∧ g < w.heap.size ∧ w.cell? ⟨g, 0, none⟩ = some (.int .i64 a) := by
  have h' : w.ownsRow B 3 1 v 1 [Value.int .i64 (a : Int)] := h
  obtain ⟨g, c, rfl, hg, _, hc⟩ := row_one h'
  exact ⟨g, c, rfl, hg, World.block_lt_of_cell? _ _ hc, hc⟩
theorem irow_two {B : Nat} {w : World} {v : Value} {a b : Nat} (h : IRow B w v [a, b]) : ∃ g c, v = .slice (some ⟨g, 0, none⟩) 2 c ∧ B ≤ g ∧ g < w.heap.size ∧ w.cell? ⟨g, 0, none⟩ = some (.int .i64 a) ∧ w.cell? ⟨g, 1, none⟩ = some (.int .i64 b) := by
  have h' : w.ownsRow B 3 1 v 2 [Value.int .i64 (a : Int), .int .i64 (b : Int)] := h
  have h'' := h'
  rcases h'.2 with ⟨_, h0⟩ | ⟨g, cap, cur, rfl, hg, hg1, h3, h4, _⟩
  · simp at h0
  · have c0 := h''.cells (g := g) rfl 0 _ rfl
    have c1 := h''.cells (g := g) rfl 1 _ rfl
    exact ⟨g, cap, rfl, hg, (Array.getElem?_eq_some_iff.1 hg1).1, by simpa [Addr.add] using c0, by simpa [Addr.add] using c1⟩
set_option maxRecDepth 100000 in
set_option maxHeartbeats 1000000 in
theorem within_one (b h : Nat) (x : En) (w : World) (H : Has w b h x) (HW : Within w b h [h]) : Calls Tryz.prog 18 #[.pointer (some ⟨b, 0, none⟩), .int .i64 (h : Int)] w fun e w' => ∃ g, e = .returned (.tuple #[.slice (some ⟨g, 0, none⟩) 1 1, .int .i64 0]) ∧ w'.heap[g]? = some (.cells #[.iface x.T x.u] 23 (0, 0)) ∧ Below w.heap.size w w' := by
  have KN := Lib.hid (Nodes_in b h x [h] w H HW)
  have KE := Lib.hid (fun W (hW : Below w.heap.size w W) => Error_in b h x W (H.below hW))
  have hm := mkE1
  clear H HW
  generalize x.T = T at *
  generalize x.u = u at *
  go_enter Tryz.func18, Tryz.ntmps18
  go_wp2_with fail
  refine KN.out.mono ?_
  rintro e w1 ⟨v, rfl, hr, hb1⟩
  obtain ⟨g, c, rfl, hg, hgl, hc0⟩ := irow_one hr
  clear hr
  have hn1 : ¬ g = w1.heap.size := by omega
  go_wp2_with fail
  refine wp_loop_rounds 2 ?_
  rw [rounds_succ]
  go_wp2_with fail
  have hb2 := hb1.alloc hb1.size (.cells #[.nilIface] 23)
  refine (KE.out _ hb2).mono ?_
  rintro e w3 ⟨rfl, hb3⟩
  have HA := Lib.hid (blk_new hb3)
  have hc3 := cells_of HA.out 0
  have hf3 := free_of HA.out 0
  simp only [List.getElem?_toArray, List.getElem?_cons_zero] at hc3
  have HB := Lib.hid (more hb2 hb3)
  have hz1 := hb1.size
  clear hb1 hb2 hb3
  go_wp2_with fail
  rw [rounds_succ]
  go_wp2_with fail
  go_ret2
  exact ⟨_, rfl, blk_set HA.out 0 _, HB.out.setCell (p := ⟨w1.heap.size, 0, none⟩) hz1 _⟩
set_option maxRecDepth 100000 in
set_option maxHeartbeats 1000000 in
theorem within_two (b h k : Nat) (x y : En) (w : World) (H : Has w b h x) (H2 : Has w b k y) (HW : Within w b h [h, k]) : Calls Tryz.prog 18 #[.pointer (some ⟨b, 0, none⟩), .int .i64 (h : Int)] w fun e w' => ∃ g, e = .returned (.tuple #[.slice (some ⟨g, 0, none⟩) 2 2, .int .i64 0]) ∧ w'.heap[g]? = some (.cells #[.iface x.T x.u, .iface y.T y.u] 23 (0, 0)) ∧ Below w.heap.size w w' := by
  have KN := Lib.hid (Nodes_in b h x [h, k] w H HW)
  have KE := Lib.hid (fun W (hW : Below w.heap.size w W) => Error_in b h x W (H.below hW))
  have KE2 := Lib.hid (fun W (hW : Below w.heap.size w W) => Error_in b k y W (H2.below hW))
  have hm := mkE2
  clear H HW H2
  generalize x.T = T at *
  generalize x.u = u at *
  generalize y.T = T2 at *
  generalize y.u = u2 at *
  go_enter Tryz.func18, Tryz.ntmps18
  go_wp2_with fail
  refine KN.out.mono ?_
  rintro e w1 ⟨v, rfl, hr, hb1⟩
  obtain ⟨g, c, rfl, hg, hgl, hc0, hc1⟩ := irow_two hr
  clear hr
  have hn1 : ¬ g = w1.heap.size := by omega
  go_wp2_with fail
  refine wp_loop_rounds 3 ?_
  rw [rounds_succ]
  go_wp2_with fail
  have hb2 := hb1.alloc hb1.size (.cells #[.nilIface, .nilIface] 23)
  refine (KE.out _ hb2).mono ?_
  rintro e w3 ⟨rfl, hb3⟩
  have HA := Lib.hid (blk_new hb3)
  have hc3 := cells_of HA.out 0
  have hc4 := cells_of HA.out 1
  have hf3 := free_of HA.out 0
  simp only [List.getElem?_toArray, List.getElem?_cons_zero, List.getElem?_cons_succ] at hc3 hc4
  have HB := Lib.hid (more hb2 hb3)
  have hz1 := hb1.size
  have hb13 : Below w1.heap.size w1 w3 := ((Below.refl _ _).alloc (Nat.le_refl _) _).trans (hb3.mono (by simp))
  have hd1 := (hb13.cell (p := ⟨g, 1, none⟩) hgl).trans hc1
  clear hb1 hb2 hb3 hc0 hc1 hb13
  go_wp2_with fail
  rw [rounds_succ]
  have HA4 := Lib.hid (blk_set HA.out 0 (.iface T u))
  have HB4 := Lib.hid (HB.out.setCell (p := ⟨w1.heap.size, 0, none⟩) hz1 (.iface T u))
  have hd4 : (w3.setCell ⟨w1.heap.size, 0, none⟩ (.iface T u)).cell? ⟨g, 1, none⟩ = some (.int .i64 k) := by
    rw [World.cell?_setCell_other _ _ _ _ (by intro e; simp at e)]; exact hd1
  generalize w3.setCell ⟨w1.heap.size, 0, none⟩ (.iface T u) = W4 at *
  clear HA HB hc3 hc4 hf3 hd1
  go_wp2_with fail
  refine (KE2.out _ HB4.out).mono ?_
  rintro e w5 ⟨rfl, hb5⟩
  have HA5 := Lib.hid ((hb5.block _ (blk_lt HA4.out)).trans HA4.out)
  have hc5 := cells_of HA5.out 1
  have hf5 := free_of HA5.out 1
  simp only [Array.getElem?_setIfInBounds, List.getElem?_toArray, List.getElem?_cons_zero, List.getElem?_cons_succ] at hc5
  have HB5 := Lib.hid (more HB4.out hb5)
  clear hb5 HA4 HB4
  go_wp2_with fail
  rw [rounds_succ]
  go_wp2_with fail
  go_ret2
  exact ⟨_, rfl, blk_set HA5.out 1 _, HB5.out.setCell (p := ⟨w1.heap.size, 1, none⟩) hz1 _⟩
set_option maxRecDepth 100000 in
theorem find_nil (h : Int) (w : World) : Calls Tryz.prog 32 #[.pointer none, .int .i64 h] w fun e w' => e = .returned (.tuple #[enZ, .int .i64 2]) ∧ Below w.heap.size w w' := by
  unfold enZ
  go_enter Tryz.func32, Tryz.ntmps32
  go_wp2
  exact bodyPost_ret (v := .tuple #[.agg #[.nilIface, .int .u8 0, .bool false, .string ⟨#[]⟩, .int .i16 0, .int .i8 0, .float .f64 0, .float .f64 0, .bool false, .int .u32 0, .slice none 0 0, .slice none 0 0, .int .i64 0, .int .i64 0, .int .i64 0, .int .i64 0], .int .i64 2]) (by simp [results, Tryz.f32, go_sem]) rfl ⟨rfl, (Below.refl _ _).alloc (Nat.le_refl _) _⟩
set_option maxRecDepth 100000 in
theorem find_zero (p : Addr) (w : World) : Calls Tryz.prog 32 #[.pointer (some p), .int .i64 0] w fun e w' => e = .returned (.tuple #[enZ, .int .i64 0]) ∧ Below w.heap.size w w' := by
  unfold enZ
  go_enter Tryz.func32, Tryz.ntmps32
  go_wp2
  exact bodyPost_ret (v := .tuple #[.agg #[.nilIface, .int .u8 0, .bool false, .string ⟨#[]⟩, .int .i16 0, .int .i8 0, .float .f64 0, .float .f64 0, .bool false, .int .u32 0, .slice none 0 0, .slice none 0 0, .int .i64 0, .int .i64 0, .int .i64 0, .int .i64 0], .int .i64 0]) (by simp [results, Tryz.f32, go_sem]) rfl ⟨rfl, (Below.refl _ _).alloc (Nat.le_refl _) _⟩
/-- a book that answers that number for that handle, and no error -/
def NoErr (p : Option Addr) (h c : Int) : Prop := ∀ W, Calls Tryz.prog 32 #[.pointer p, .int .i64 h] W fun e w' => e = .returned (.tuple #[enZ, .int .i64 c]) ∧ Below W.heap.size W w'
set_option maxRecDepth 100000 in
theorem Error_no (p : Option Addr) (h c : Int) (w : World) (C : NoErr p h c) : Calls Tryz.prog 20 #[.pointer p, .int .i64 h] w fun e w' => e = .returned (.tuple #[.nilIface, .int .i64 c]) ∧ Below w.heap.size w w' := by
  have KF := Lib.hid (C w)
  clear C
  unfold enZ at KF
  go_enter Tryz.func20, Tryz.ntmps20
  go_wp2_with fail
  refine KF.out.mono ?_
  rintro e w1 ⟨rfl, hb1⟩
  go_wp2
  go_ret2
  exact ⟨rfl, hb1.alloc hb1.size _⟩
theorem withNodes_zero (p : Option Addr) (w : World) : Calls Tryz.prog 24 #[.slice none 0 0, .pointer p, .int .i64 0] w fun e w' => e = .returned (.slice none 0 0) ∧ w' = w := by
  go_enter Tryz.func24, Tryz.ntmps24
  go_wp2_with fail
  go_ret
  exact ⟨rfl, rfl⟩
theorem Nodes_no (p : Option Addr) (h c : Int) (w : World) (C : NoErr p h c) (hc : c = 2 ∨ c = 0 ∧ h = 0) : Calls Tryz.prog 12 #[.pointer p, .int .i64 h] w fun e w' => e = .returned (.tuple #[.slice none 0 0, .int .i64 c]) ∧ Below w.heap.size w w' := by
  have KE := Lib.hid (Error_no p h c w C)
  clear C
  rcases hc with rfl | ⟨rfl, rfl⟩
  · go_enter Tryz.func12, Tryz.ntmps12
    go_wp2_with fail
    refine KE.out.mono ?_
    rintro e w1 ⟨rfl, hb1⟩
    go_wp2_with fail
    go_ret2
    exact ⟨rfl, hb1⟩
  · go_enter Tryz.func12, Tryz.ntmps12
    go_wp2_with fail
    refine KE.out.mono ?_
    rintro e w1 ⟨rfl, hb1⟩
    go_wp2_with fail
    refine (withNodes_zero p _).mono ?_
    rintro e w2 ⟨rfl, rfl⟩
    go_wp2_with fail
    go_ret2
    exact ⟨rfl, hb1⟩
theorem within_nil (h : Int) (w : World) : Calls Tryz.prog 18 #[.pointer none, .int .i64 h] w fun e w' => e = .returned (.tuple #[.slice none 0 0, .int .i64 2]) ∧ Below w.heap.size w w' := by
  have KN := Lib.hid (Nodes_no none h 2 w (find_nil h) (.inl rfl))
  go_enter Tryz.func18, Tryz.ntmps18
  go_wp2_with fail
  refine KN.out.mono ?_
  rintro e w1 ⟨rfl, hb1⟩
  go_wp2_with fail
  go_ret2
  exact ⟨rfl, hb1⟩
theorem within_zero (p : Addr) (w : World) : Calls Tryz.prog 18 #[.pointer (some p), .int .i64 0] w fun e w' => ∃ q, e = .returned (.tuple #[.slice (some q) 0 0, .int .i64 0]) ∧ Below w.heap.size w w' := by
  have KN := Lib.hid (Nodes_no (some p) 0 0 w (find_zero p) (.inr ⟨rfl, rfl⟩))
  have hm := mkE0
  go_enter Tryz.func18, Tryz.ntmps18
  go_wp2_with fail
  refine KN.out.mono ?_
  rintro e w1 ⟨rfl, hb1⟩
  go_wp2_with fail
  refine wp_loop_rounds 1 ?_
  rw [rounds_succ]
  go_wp2_with fail
  go_ret2
  exact ⟨_, rfl, hb1.alloc hb1.size _⟩
end Go.Proofs.YtpemfnhplkjndaaGreatDoor.T
