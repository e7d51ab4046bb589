/-
  What package faces answers of no book, and of a road that is too long or has what is no face.
-/
import Derived.Test.YtobpmjphakkekaaNoneA
namespace Go.Proofs.Ytobpmjphakkekaa.facesNone
open Go.ChangeShapes Go.WideShapes Go.ChangeAt Go.RowKit
set_option linter.unusedVariables false
attribute [local go_sem] run_store_float

theorem error_nil (h : Int) (w : World) : Calls Try.prog 12 #[.pointer none, .int .i64 h] w fun e w' => e = .returned (.tuple #[.nilIface, .int .i64 2]) ∧ Below w.heap.size w w' :=
  error_of none h 2 w (fun W _ => find_nil h W)
theorem error_zero (p : Addr) (w : World) : Calls Try.prog 12 #[.pointer (some p), .int .i64 0] w fun e w' => e = .returned (.tuple #[.nilIface, .int .i64 0]) ∧ Below w.heap.size w w' :=
  error_of (some p) 0 0 w (fun W _ => find_zero p W)
theorem error_one (b : Nat) (w : World) (hc : w.cell? ⟨b, 0, none⟩ = some (.slice none 0 0)) : Calls Try.prog 12 #[.pointer (some ⟨b, 0, none⟩), .int .i64 1] w fun e w' => e = .returned (.tuple #[.nilIface, .int .i64 50]) ∧ Below w.heap.size w w' :=
  error_of (some ⟨b, 0, none⟩) 1 50 w (fun W hW => find_one b W ((hW.cell (p := ⟨b, 0, none⟩) (World.block_lt_of_cell? _ _ hc)).trans hc))
theorem holds_nil (w : World) : Calls Try.prog 4 #[.pointer none, .int .i64 9, .int .u8 99] w fun e w' => e = .returned (.tuple #[.bool false, .int .i64 2]) ∧ Below w.heap.size w w' := by
  have c := fun W => error_nil 9 W
  go_enter Try.func4, Try.ntmps4
  go_wp2_with (go_at_call 12; refine (c _).mono ?_; rintro e w1 ⟨rfl, hb1⟩)
  go_ret2
  exact ⟨rfl, hb1⟩
theorem assert_nil (w : World) : Calls Try.prog 5 #[.pointer none, .int .i64 9, .int .u8 99] w fun e w' => e = .returned (.tuple #[.agg #[.int .i64 0, .string ⟨#[]⟩, .int .i64 0], .int .i64 2]) ∧ Below w.heap.size w w' := by
  have c := error_nil 9 (w.alloc (.cells #[.int .i64 0, .string ⟨#[]⟩, .int .i64 0] 26))
  have f : ∀ o, (w.alloc (.cells #[.int .i64 0, .string ⟨#[]⟩, .int .i64 0] 26)).frozen? ⟨w.heap.size, o, none⟩ = false := fun o => by
    have hbk := heap_alloc_new w (.cells #[.int .i64 0, .string ⟨#[]⟩, .int .i64 0] 26)
    unfold World.frozen?
    simp only [hbk]
    simp
  have c0 : (w.alloc (.cells #[.int .i64 0, .string ⟨#[]⟩, .int .i64 0] 26)).cell? ⟨w.heap.size, 0, none⟩ = some (.int .i64 0) := by simp
  have c1 : (w.alloc (.cells #[.int .i64 0, .string ⟨#[]⟩, .int .i64 0] 26)).cell? ⟨w.heap.size, 1, none⟩ = some (.string ⟨#[]⟩) := by simp
  have c2 : (w.alloc (.cells #[.int .i64 0, .string ⟨#[]⟩, .int .i64 0] 26)).cell? ⟨w.heap.size, 2, none⟩ = some (.int .i64 0) := by simp
  have hz : w.heap.size < (w.alloc (.cells #[.int .i64 0, .string ⟨#[]⟩, .int .i64 0] 26)).heap.size := by simp
  go_enter Try.func5, Try.ntmps5
  go_wp2_with (go_at_call 12; refine c.mono ?_; rintro e w1 ⟨rfl, hb1⟩; have k0 := (hb1.cell (p := ⟨w.heap.size, 0, none⟩) hz).trans c0; have k1 := (hb1.cell (p := ⟨w.heap.size, 1, none⟩) hz).trans c1; have k2 := (hb1.cell (p := ⟨w.heap.size, 2, none⟩) hz).trans c2; have f0 := (World.frozen?_of_block (a := ⟨w.heap.size, 0, none⟩) (hb1.block _ hz)).trans (f 0); have f1 := (World.frozen?_of_block (a := ⟨w.heap.size, 1, none⟩) (hb1.block _ hz)).trans (f 1); have f2 := (World.frozen?_of_block (a := ⟨w.heap.size, 2, none⟩) (hb1.block _ hz)).trans (f 2); have hB1 := ((Below.refl w.heap.size w).alloc (Nat.le_refl _) (.cells #[.int .i64 0, .string ⟨#[]⟩, .int .i64 0] 26)).trans (hb1.mono (Nat.le_of_lt hz)); have hl1 : w.heap.size < w1.heap.size := Nat.lt_of_lt_of_le hz hb1.size)
  exact bodyPost_ret (v := .tuple #[.agg #[.int .i64 0, .string ⟨#[]⟩, .int .i64 0], .int .i64 2]) (by simp [results, Try.f5, go_sem, k0, k1, k2]) rfl ⟨rfl, ((hB1.setCell (p := ⟨w.heap.size, 0, none⟩) (Nat.le_refl _) _).setCell (p := ⟨w.heap.size, 1, none⟩) (Nat.le_refl _) _).setCell (p := ⟨w.heap.size, 2, none⟩) (Nat.le_refl _) _⟩
theorem held_nil (w : World) : Calls Try.prog 6 #[.pointer none, .int .i64 9] w fun e w' => e = .returned (.tuple #[.int .u32 0, .int .i64 2]) ∧ Below w.heap.size w w' := by
  have c := fun W => error_nil 9 W
  go_enter Try.func6, Try.ntmps6
  go_wp2_with (go_at_call 12; refine (c _).mono ?_; rintro e w1 ⟨rfl, hb1⟩)
  go_ret2
  exact ⟨rfl, hb1⟩
theorem road_nil (v : Value) (w : World) : Calls Try.prog 7 #[.pointer none, .int .i64 9, v] w fun e w' => e = .returned (.tuple #[.int .i64 0, .int .i64 2]) ∧ Below w.heap.size w w' := by
  have c := fun W => error_nil 9 W
  go_enter Try.func7, Try.ntmps7
  go_wp2_with (go_at_call 12; refine (c _).mono ?_; rintro e w1 ⟨rfl, hb1⟩)
  go_ret2
  exact ⟨rfl, hb1⟩
theorem which_nil (w : World) : Calls Try.prog 8 #[.pointer none, .int .u8 99] w fun e w' => e = .returned (.tuple #[.slice none 0 0, .int .i64 2]) ∧ Below w.heap.size w w' := by
  go_enter Try.func8, Try.ntmps8
  go_wp2
  go_ret2
  exact ⟨rfl, (Below.refl _ _).alloc (Nat.le_refl _) _⟩
theorem shared_nil (v : Value) (w : World) : Calls Try.prog 9 #[.pointer none, v] w fun e w' => e = .returned (.tuple #[.int .u32 0, .int .i64 2]) ∧ Below w.heap.size w w' := by
  go_enter Try.func9, Try.ntmps9
  go_wp2
  go_ret2
  exact ⟨rfl, Below.refl _ _⟩
theorem isFace_zero (w : World) : Calls Try.prog 13 #[.int .u8 0] w fun e w' => e = .returned (.bool false) ∧ Below w.heap.size w w' := by
  go_enter Try.func13, Try.ntmps13
  go_wp2
  go_ret
  exact ⟨rfl, by first | exact Below.refl _ _ | exact Go.below_drewN (Below.refl _ _) _⟩
theorem road_long (p : Addr) (a : Option Addr) (w : World) : Calls Try.prog 7 #[.pointer (some p), .int .i64 0, .slice a 65 65] w fun e w' => e = .returned (.tuple #[.int .i64 0, .int .i64 1]) ∧ Below w.heap.size w w' := by
  have c := fun W => error_zero p W
  go_enter Try.func7, Try.ntmps7
  go_wp2_with (go_at_call 12; refine (c _).mono ?_; rintro e w1 ⟨rfl, hb1⟩)
  go_ret2
  exact ⟨rfl, hb1⟩
theorem road_one (b : Nat) (v : Value) (w : World) (hc : w.cell? ⟨b, 0, none⟩ = some (.slice none 0 0)) : Calls Try.prog 7 #[.pointer (some ⟨b, 0, none⟩), .int .i64 1, v] w fun e w' => e = .returned (.tuple #[.int .i64 0, .int .i64 50]) ∧ Below w.heap.size w w' := by
  have c := error_one b w hc
  go_enter Try.func7, Try.ntmps7
  go_wp2_with (go_at_call 12; refine c.mono ?_; rintro e w1 ⟨rfl, hb1⟩)
  go_ret2
  exact ⟨rfl, hb1⟩
theorem road_none (p : Addr) (g : Nat) (w : World) (hc : w.cell? ⟨g, 0, none⟩ = some (.int .u8 0)) : Calls Try.prog 7 #[.pointer (some p), .int .i64 0, .slice (some ⟨g, 0, none⟩) 64 64] w fun e w' => e = .returned (.tuple #[.int .i64 0, .int .i64 60]) ∧ Below w.heap.size w w' := by
  have c := error_zero p w
  have d := fun W => isFace_zero W
  have hg : g < w.heap.size := World.block_lt_of_cell? _ _ hc
  go_enter Try.func7, Try.ntmps7
  go_wp2_with (go_at_call 12; refine c.mono ?_; rintro e w1 ⟨rfl, hb1⟩; have hc1 := (hb1.cell (p := ⟨g, 0, none⟩) hg).trans hc)
  refine wp_loop_rounds 1 ?_
  rw [rounds_succ]
  go_wp2_with (go_at_call 13; refine (d _).mono ?_; rintro e w2 ⟨rfl, hb2⟩)
  go_ret2
  exact ⟨rfl, more hb1 hb2⟩
end Go.Proofs.Ytobpmjphakkekaa.facesNone
