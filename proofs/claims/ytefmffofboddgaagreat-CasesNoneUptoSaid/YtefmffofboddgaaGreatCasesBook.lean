/-
  What no book and an empty book find; cases.ask; kindof.Error of no error.
-/
import Derived.Test.YtefmffofboddgaaGreatCasesKind
import Derived.Laws.EntriesVeiled
set_option linter.unusedVariables false
namespace Go.Proofs.YtefmffofboddgaaGreat.T
open Go Go.Lib Go.RowKit

theorem run_store_float (P : Program) (w : World) (a : Addr) (m : Mode) (k : FloatKind) (b) : (store a (.float k b) m).run P w = stored P w a (.float k b) m := run_store P w a _ m rfl
attribute [local go_sem] run_store_float
def entZ : Value := .agg #[.nilIface, .int .u8 0, .bool false, .string ⟨#[]⟩, .int .i16 0, .int .i8 0, .float .f64 0, .float .f64 0, .bool false, .int .u32 0, .slice none 0 0, .slice none 0 0, .int .i64 0, .int .i64 0, .int .i64 0, .int .i64 0]
def choZ : Value := .agg #[.int .i64 0, .int .i64 0, .int .i64 0]
def choNo : Value := .agg #[.int .i64 (-1), .int .i64 (-1), .int .i64 0]
def askZ : Value := .agg #[.pointer none, .int .i64 0, .int .u8 0]

set_option maxRecDepth 100000 in
theorem find_nil (h : Int) (w : World) : Calls Tryz.prog 32 #[.pointer none, .int .i64 h] w fun e w' => e = .returned (.tuple #[entZ, .int .i64 2]) ∧ Below w.heap.size w w' := by
  unfold entZ
  go_enter Tryz.func32, Tryz.ntmps32
  go_wp2
  exact bodyPost_ret (v := .tuple #[.agg #[.nilIface, .int .u8 0, .bool false, .string ⟨#[]⟩, .int .i16 0, .int .i8 0, .float .f64 0, .float .f64 0, .bool false, .int .u32 0, .slice none 0 0, .slice none 0 0, .int .i64 0, .int .i64 0, .int .i64 0, .int .i64 0], .int .i64 2]) (by simp [results, Tryz.f32, go_sem]) rfl ⟨rfl, (Below.refl _ _).alloc (Nat.le_refl _) _⟩
set_option maxRecDepth 100000 in
theorem find_zero (p : Addr) (w : World) : Calls Tryz.prog 32 #[.pointer (some p), .int .i64 0] w fun e w' => e = .returned (.tuple #[entZ, .int .i64 0]) ∧ Below w.heap.size w w' := by
  unfold entZ
  go_enter Tryz.func32, Tryz.ntmps32
  go_wp2
  exact bodyPost_ret (v := .tuple #[.agg #[.nilIface, .int .u8 0, .bool false, .string ⟨#[]⟩, .int .i16 0, .int .i8 0, .float .f64 0, .float .f64 0, .bool false, .int .u32 0, .slice none 0 0, .slice none 0 0, .int .i64 0, .int .i64 0, .int .i64 0, .int .i64 0], .int .i64 0]) (by simp [results, Tryz.f32, go_sem]) rfl ⟨rfl, (Below.refl _ _).alloc (Nat.le_refl _) _⟩
set_option maxRecDepth 100000 in
theorem find_nine (b : Nat) (w : World) (hc : w.cell? ⟨b, 0, none⟩ = some (.slice none 0 0)) : Calls Tryz.prog 32 #[.pointer (some ⟨b, 0, none⟩), .int .i64 9] w fun e w' => e = .returned (.tuple #[entZ, .int .i64 50]) ∧ Below w.heap.size w w' := by
  unfold entZ
  have hb : b < w.heap.size := World.block_lt_of_cell? _ _ hc
  have hc2 := (((Below.refl w.heap.size w).alloc (Nat.le_refl _) (.cells #[.nilIface, .int .u8 0, .bool false, .string ⟨#[]⟩, .int .i16 0, .int .i8 0, .float .f64 0, .float .f64 0, .bool false, .int .u32 0, .slice none 0 0, .slice none 0 0, .int .i64 0, .int .i64 0, .int .i64 0, .int .i64 0] 100)).cell (p := ⟨b, 0, none⟩) hb).trans hc
  go_enter Tryz.func32, Tryz.ntmps32
  go_wp2
  exact bodyPost_ret (v := .tuple #[.agg #[.nilIface, .int .u8 0, .bool false, .string ⟨#[]⟩, .int .i16 0, .int .i8 0, .float .f64 0, .float .f64 0, .bool false, .int .u32 0, .slice none 0 0, .slice none 0 0, .int .i64 0, .int .i64 0, .int .i64 0, .int .i64 0], .int .i64 50]) (by simp [results, Tryz.f32, go_sem]) rfl ⟨rfl, (Below.refl _ _).alloc (Nat.le_refl _) _⟩
/-- what a book answers for a handle, whatever is made meanwhile -/
def Finds (w : World) (p : Option Addr) (h c : Int) : Prop := ∀ W, Below w.heap.size w W → Calls Tryz.prog 32 #[.pointer p, .int .i64 h] W fun e w' => e = .returned (.tuple #[entZ, .int .i64 c]) ∧ Below W.heap.size W w'
theorem Finds.below {w w' : World} {p : Option Addr} {h c : Int} (H : Finds w p h c) (hb : Below w.heap.size w w') : Finds w' p h c := fun W hW => H W (more hb hW)
theorem finds_nil (w : World) (h : Int) : Finds w none h 2 := fun W _ => find_nil h W
theorem finds_zero (w : World) (p : Addr) : Finds w (some p) 0 0 := fun W _ => find_zero p W
theorem finds_nine (w : World) (b : Nat) (hc : w.cell? ⟨b, 0, none⟩ = some (.slice none 0 0)) : Finds w (some ⟨b, 0, none⟩) 9 50 := fun W hb => find_nine b W ((hb.cell (p := ⟨b, 0, none⟩) (World.block_lt_of_cell? _ _ hc)).trans hc)
set_option maxRecDepth 100000 in
theorem error_of (p : Option Addr) (h c : Int) (w : World) (C : Finds w p h c) : Calls Tryz.prog 19 #[.pointer p, .int .i64 h] w fun e w' => e = .returned (.tuple #[.nilIface, .int .i64 c]) ∧ Below w.heap.size w w' := by
  unfold Finds entZ at C
  go_enter Tryz.func19, Tryz.ntmps19
  go_wp2_with (go_at_call 32; refine (C _ (by repeat (first | exact Below.refl _ _ | (refine Below.alloc ?_ (by simp <;> omega) _)))).mono ?_; rintro e w1 ⟨rfl, hb1⟩)
  go_ret2
  exact ⟨rfl, hb1.alloc hb1.size _⟩
theorem frozen_new {w w1 : World} {c : Array Value} {t : TypeId} (hb : Below (w.alloc (.cells c t)).heap.size (w.alloc (.cells c t)) w1) (j : Nat) : w1.frozen? ⟨w.heap.size, j, none⟩ = false :=
  (World.frozen?_of_block (hb.block _ (by simp))).trans (World.frozen?_alloc_at _ _ _ _ rfl)
end Go.Proofs.YtefmffofboddgaaGreat.T
