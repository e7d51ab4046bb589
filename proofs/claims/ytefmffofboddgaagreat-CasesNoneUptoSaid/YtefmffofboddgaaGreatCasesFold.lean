/-
  cases.Fold[int]: what is wrong, and no error.
-/
import Derived.Test.YtefmffofboddgaaGreatCasesSw
set_option linter.unusedVariables false
namespace Go.Proofs.YtefmffofboddgaaGreat.T
open Go Go.Lib Go.RowKit
theorem eqNilF (W : World) : (binOp .eql 77 Value.nilFunc Value.nilFunc).run Tryz.prog W = .ok (.bool true) W := by kernel_rfl
theorem eqNilS (W : World) : (binOp .eql 45 (.slice none 0 0) (.slice none 0 0)).run Tryz.prog W = .ok (.bool true) W := by kernel_rfl
theorem eqNilI (W : World) : (binOp .eql 94 (.slice none 0 0) (.slice none 0 0)).run Tryz.prog W = .ok (.bool true) W := by kernel_rfl
attribute [local go_sem] run_store_float eqNilF eqNilS eqNilI

set_option maxRecDepth 100000 in
theorem isNil_in (w : World) : Calls Tryz.prog 21 #[Value.nilFunc] w fun e w' => e = .returned (.bool true) ∧ w' = w := by
  go_enter Tryz.func21, Tryz.ntmps21
  go_wp2
  go_ret
  exact ⟨rfl, rfl⟩
def isNilV : Value := .func (.func 21) #[] #[]
set_option maxRecDepth 100000 in
theorem indexNil_none (w : World) : Calls Tryz.prog 33 #[.slice none 0 0, isNilV] w fun e w' => e = .returned (.int .i64 (-1)) ∧ w' = w := by
  unfold isNilV
  go_enter Tryz.func33, Tryz.ntmps33
  go_wp2
  go_loopw [8] (fun i wr => i = .int .i64 0 ∧ wr = w) (fun _ _ => 0)
  case atStart => exact ⟨rfl, rfl⟩
  case round =>
    obtain ⟨rfl, rfl⟩ := hrel
    go_wp2
    go_ret
    exact ⟨rfl, rfl⟩
set_option maxRecDepth 100000 in
theorem indexNil_one (g : Nat) (w : World) (h : w.cell? ⟨g, 0, none⟩ = some Value.nilFunc) : Calls Tryz.prog 33 #[.slice (some ⟨g, 0, none⟩) 1 1, isNilV] w fun e w' => e = .returned (.int .i64 0) ∧ w' = w := by
  unfold isNilV
  go_enter Tryz.func33, Tryz.ntmps33
  go_wp2
  go_loopw [8] (fun i wr => i = .int .i64 0 ∧ wr = w) (fun _ _ => 0)
  case atStart => exact ⟨rfl, rfl⟩
  case round =>
    obtain ⟨rfl, rfl⟩ := hrel
    go_wp2_with (go_at_call 21; refine (isNil_in _).mono ?_; rintro e w1 ⟨rfl, rfl⟩)
    go_ret
    exact ⟨rfl, rfl⟩
set_option maxRecDepth 100000 in
theorem anyNil_none (w : World) : Calls Tryz.prog 20 #[.slice none 0 0, isNilV] w fun e w' => e = .returned (.bool false) ∧ w' = w := by
  have hI := fun W => indexNil_none W
  unfold isNilV at *
  go_enter Tryz.func20, Tryz.ntmps20
  go_wp2_with (go_at_call 33; refine (hI _).mono ?_; rintro e w1 ⟨rfl, rfl⟩)
  go_ret
  exact ⟨rfl, rfl⟩
set_option maxRecDepth 100000 in
theorem anyNil_one (g : Nat) (w : World) (h : w.cell? ⟨g, 0, none⟩ = some Value.nilFunc) : Calls Tryz.prog 20 #[.slice (some ⟨g, 0, none⟩) 1 1, isNilV] w fun e w' => e = .returned (.bool true) ∧ w' = w := by
  have hI := indexNil_one g w h
  unfold isNilV at *
  go_enter Tryz.func20, Tryz.ntmps20
  go_wp2_with (go_at_call 33; refine hI.mono ?_; rintro e w1 ⟨rfl, rfl⟩)
  go_ret
  exact ⟨rfl, rfl⟩
set_option maxRecDepth 100000 in
theorem cloneF_none (w : World) : Calls Tryz.prog 23 #[.slice none 0 0] w fun e w' => e = .returned (.slice none 0 0) ∧ w' = w := by
  go_enter Tryz.func23, Tryz.ntmps23
  go_wp2
  go_ret
  exact ⟨rfl, rfl⟩
set_option maxRecDepth 100000 in
theorem cloneI_none (w : World) : Calls Tryz.prog 39 #[.slice none 0 0] w fun e w' => e = .returned (.slice none 0 0) ∧ w' = w := by
  go_enter Tryz.func39, Tryz.ntmps39
  go_wp2
  go_ret
  exact ⟨rfl, rfl⟩
set_option maxRecDepth 100000 in
theorem parts_zero (p : Addr) (w : World) : Calls Tryz.prog 34 #[.pointer (some p), .int .i64 0] w fun e w' => e = .returned (.tuple #[.slice none 0 0, .int .i64 0]) ∧ Below w.heap.size w w' := by
  have hF := find_zero p w
  unfold entZ at hF
  go_enter Tryz.func34, Tryz.ntmps34
  go_wp2_with (first | (go_at_call 32; refine hF.mono ?_; rintro e w1 ⟨rfl, hb1⟩) | (go_at_call 39; refine (cloneI_none _).mono ?_; rintro e w2 ⟨rfl, rfl⟩))
  go_ret2
  exact ⟨rfl, hb1.alloc hb1.size _⟩
set_option maxRecDepth 100000 in
theorem fold_zero (q : Nat) (p : Addr) (w : World) (hr : w.cell? ⟨q, 0, none⟩ = some (.slice none 0 0)) : Calls Tryz.prog 22 #[.pointer (some p), .int .i64 0, .pointer (some ⟨q, 0, none⟩), .slice none 0 0] w fun e w' => e = .returned (.int .i64 0) ∧ Below w.heap.size w w' := by
  have hq : q < w.heap.size := World.block_lt_of_cell? _ _ hr
  have hP := fun W (hb : Below w.heap.size w W) => spick_zero q p W ((hb.cell (p := ⟨q, 0, none⟩) hq).trans hr)
  unfold choNo at hP
  go_enter Tryz.func22, Tryz.ntmps22
  go_wp2_with (go_at_call 34; refine (parts_zero p w).mono ?_; rintro e w1 ⟨rfl, hb1⟩)
  go_loopw [25] (fun i wr => i = .int .i64 0 ∧ wr = w1) (fun _ _ => 0)
  case atStart => exact ⟨rfl, rfl⟩
  case round =>
    obtain ⟨rfl, rfl⟩ := hrel
    go_wp2_with (go_at_call 7; refine (hP _ hb1).mono ?_; rintro e w2 ⟨rfl, hb2⟩)
    go_ret
    exact ⟨rfl, (more hb1 hb2).alloc (more hb1 hb2).size _⟩
def foldN : Nat := 11
set_option maxRecDepth 100000 in
theorem Fold_nobook (p : Option Addr) (h : Int) (v : Value) (w : World) : Calls Tryz.prog 11 #[.pointer none, .int .i64 h, .pointer p, v] w fun e w' => e = .returned (.tuple #[.int .i64 0, .int .i64 2]) ∧ w' = w := by
  go_enter Tryz.func11, Tryz.ntmps11
  go_wp2
  go_ret2
  exact ⟨rfl, rfl⟩
set_option maxRecDepth 100000 in
theorem Fold_noswitch (p : Addr) (h : Int) (v : Value) (w : World) : Calls Tryz.prog 11 #[.pointer (some p), .int .i64 h, .pointer none, v] w fun e w' => e = .returned (.tuple #[.int .i64 0, .int .i64 2]) ∧ w' = w := by
  go_enter Tryz.func11, Tryz.ntmps11
  go_wp2
  go_ret2
  exact ⟨rfl, rfl⟩
set_option maxRecDepth 100000 in
theorem Fold_handle (p : Addr) (q : Addr) (h c : Int) (v : Value) (w : World) (C : Finds w (some p) h c) (hc : c ≠ 0) : Calls Tryz.prog 11 #[.pointer (some p), .int .i64 h, .pointer (some q), v] w fun e w' => e = .returned (.tuple #[.int .i64 0, .int .i64 c]) ∧ Below w.heap.size w w' := by
  have hE := error_of (some p) h c w C
  have hne : (c != 0) = true := by simp [hc]
  have hne2 : (c == 0) = false := by simp [hc]
  go_enter Tryz.func11, Tryz.ntmps11
  go_wp2_with (go_at_call 19; refine hE.mono ?_; rintro e w1 ⟨rfl, hb1⟩)
  go_ret2
  exact ⟨rfl, hb1⟩
set_option maxRecDepth 100000 in
theorem Fold_few (p : Addr) (q : Nat) (w : World) (hn : w.cell? ⟨q, 1, none⟩ = some (.int .i64 1)) : Calls Tryz.prog 11 #[.pointer (some p), .int .i64 0, .pointer (some ⟨q, 0, none⟩), .slice none 0 0] w fun e w' => e = .returned (.tuple #[.int .i64 0, .int .i64 1]) ∧ Below w.heap.size w w' := by
  have hq : q < w.heap.size := World.block_lt_of_cell? _ _ hn
  have hE := error_of (some p) 0 0 w (finds_zero w p)
  have hL := fun W (hb : Below w.heap.size w W) => len_some q 1 W ((hb.cell (p := ⟨q, 1, none⟩) hq).trans hn)
  go_enter Tryz.func11, Tryz.ntmps11
  go_wp2_with (first | (go_at_call 19; refine hE.mono ?_; rintro e w1 ⟨rfl, hb1⟩) | (go_at_call 9; refine (hL _ hb1).mono ?_; rintro e w2 ⟨rfl, rfl⟩))
  go_ret2
  exact ⟨rfl, hb1⟩
set_option maxRecDepth 100000 in
theorem Fold_nofunc (p : Addr) (q g : Nat) (w : World) (hn : w.cell? ⟨q, 1, none⟩ = some (.int .i64 1)) (hg : w.cell? ⟨g, 0, none⟩ = some Value.nilFunc) : Calls Tryz.prog 11 #[.pointer (some p), .int .i64 0, .pointer (some ⟨q, 0, none⟩), .slice (some ⟨g, 0, none⟩) 1 1] w fun e w' => e = .returned (.tuple #[.int .i64 0, .int .i64 2]) ∧ Below w.heap.size w w' := by
  have hq : q < w.heap.size := World.block_lt_of_cell? _ _ hn
  have hgl : g < w.heap.size := World.block_lt_of_cell? _ _ hg
  have hE := error_of (some p) 0 0 w (finds_zero w p)
  have hL := fun W (hb : Below w.heap.size w W) => len_some q 1 W ((hb.cell (p := ⟨q, 1, none⟩) hq).trans hn)
  have hA := fun W (hb : Below w.heap.size w W) => anyNil_one g W ((hb.cell (p := ⟨g, 0, none⟩) hgl).trans hg)
  unfold isNilV at hA
  go_enter Tryz.func11, Tryz.ntmps11
  go_wp2_with (first | (go_at_call 19; refine hE.mono ?_; rintro e w1 ⟨rfl, hb1⟩) | (go_at_call 9; refine (hL _ hb1).mono ?_; rintro e w2 ⟨rfl, rfl⟩) | (go_at_call 20; refine (hA _ hb1).mono ?_; rintro e w2 ⟨rfl, rfl⟩))
  go_ret2
  exact ⟨rfl, hb1⟩
set_option maxRecDepth 100000 in
theorem Fold_zero (p : Addr) (q : Nat) (w : World) (hr : w.cell? ⟨q, 0, none⟩ = some (.slice none 0 0)) (hn : w.cell? ⟨q, 1, none⟩ = some (.int .i64 0)) : Calls Tryz.prog 11 #[.pointer (some p), .int .i64 0, .pointer (some ⟨q, 0, none⟩), .slice none 0 0] w fun e w' => e = .returned (.tuple #[.int .i64 0, .int .i64 0]) ∧ Below w.heap.size w w' := by
  have hq : q < w.heap.size := World.block_lt_of_cell? _ _ hn
  have hE := error_of (some p) 0 0 w (finds_zero w p)
  have hL := fun W (hb : Below w.heap.size w W) => len_some q 0 W ((hb.cell (p := ⟨q, 1, none⟩) hq).trans hn)
  have hF := fun W (hb : Below w.heap.size w W) => fold_zero q p W ((hb.cell (p := ⟨q, 0, none⟩) hq).trans hr)
  have hA := fun W => anyNil_none W
  unfold isNilV at hA
  go_enter Tryz.func11, Tryz.ntmps11
  go_wp2_with (first | (go_at_call 19; refine hE.mono ?_; rintro e w1 ⟨rfl, hb1⟩) | (go_at_call 9; refine (hL _ hb1).mono ?_; rintro e w2 ⟨rfl, rfl⟩) | (go_at_call 20; refine (hA _).mono ?_; rintro e w2 ⟨rfl, rfl⟩) | (go_at_call 23; refine (cloneF_none _).mono ?_; rintro e w2 ⟨rfl, rfl⟩) | (go_at_call 22; refine (hF _ hb1).mono ?_; rintro e w3 ⟨rfl, hb3⟩))
  go_ret2
  exact ⟨rfl, more hb1 hb3⟩
end Go.Proofs.YtefmffofboddgaaGreat.T
