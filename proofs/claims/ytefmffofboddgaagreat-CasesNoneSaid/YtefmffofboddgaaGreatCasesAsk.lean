/-
  cases.ask.
-/
import Derived.Test.YtefmffofboddgaaGreatCasesBook
set_option linter.unusedVariables false
namespace Go.Proofs.YtefmffofboddgaaGreat.T
open Go Go.Lib Go.RowKit
set_option maxRecDepth 100000 in
theorem ask_bad (p : Option Addr) (h c : Int) (w : World) (C : Finds w p h c) (hc : c ≠ 0) : Calls Tryz.prog 12 #[.pointer p, .int .i64 h] w fun e w' => e = .returned (.tuple #[askZ, .int .i64 c]) ∧ Below w.heap.size w w' := by
  unfold askZ
  have hE := fun W hb => error_of p h c W (C.below hb)
  have hne : (c != 0) = true := by simp [hc]
  go_enter Tryz.func12, Tryz.ntmps12
  have hbA : Below w.heap.size w (w.alloc (.cells #[.pointer none, .int .i64 0, .int .u8 0] 55)) := (Below.refl _ _).alloc (Nat.le_refl _) _
  go_wp2_with (go_at_call 19; refine (hE _ hbA).mono ?_; rintro e w1 ⟨rfl, hb1⟩; obtain ⟨g0, g1, g2⟩ := box3 hb1; have gz := frozen_new hb1; have z0 := gz 0; have z1 := gz 1; have z2 := gz 2)
  exact bodyPost_ret (v := .tuple #[.agg #[.pointer none, .int .i64 0, .int .u8 0], .int .i64 c]) (by simp [results, Tryz.f12, go_sem, g0, g1, g2]) rfl ⟨rfl, (((more hbA hb1).setCell (Nat.le_refl _) _).setCell (Nat.le_refl _) _).setCell (Nat.le_refl _) _⟩
set_option maxRecDepth 100000 in
theorem ask_zero (p : Addr) (w : World) : Calls Tryz.prog 12 #[.pointer (some p), .int .i64 0] w fun e w' => e = .returned (.tuple #[.agg #[.pointer (some p), .int .i64 0, .int .u8 0], .int .i64 0]) ∧ Below w.heap.size w w' := by
  have hE := fun W => error_of (some p) 0 0 W (finds_zero W p)
  go_enter Tryz.func12, Tryz.ntmps12
  have hbA : Below w.heap.size w (w.alloc (.cells #[.pointer none, .int .i64 0, .int .u8 0] 55)) := (Below.refl _ _).alloc (Nat.le_refl _) _
  go_wp2_with (first | (go_at_call 19; refine (hE _).mono ?_; rintro e w1 ⟨rfl, hb1⟩) | (go_at_call 24; refine (kindof_nil _).mono ?_; rintro e w2 ⟨rfl, hb2⟩; have hb3 := more hb1 hb2; obtain ⟨g0, g1, g2⟩ := box3 hb3; have gz := frozen_new hb3; have z0 := gz 0; have z1 := gz 1; have z2 := gz 2))
  exact bodyPost_ret (v := .tuple #[.agg #[.pointer (some p), .int .i64 0, .int .u8 0], .int .i64 0]) (by simp [results, Tryz.f12, go_sem, g0, g1, g2]) rfl ⟨rfl, (((more hbA hb3).setCell (Nat.le_refl _) _).setCell (Nat.le_refl _) _).setCell (Nat.le_refl _) _⟩
end Go.Proofs.YtefmffofboddgaaGreat.T
