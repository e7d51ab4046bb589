/-
  (*cases.Switch).Len, choose, Pick; cases.Pick.
-/
import Derived.Test.YtefmffofboddgaaGreatCasesAsk
import Derived.Test.YtefmffofboddgaaGreatCasesComp
set_option linter.unusedVariables false
namespace Go.Proofs.YtefmffofboddgaaGreat.T
open Go Go.Lib Go.RowKit

set_option maxRecDepth 100000 in
theorem len_none (w : World) : Calls Tryz.prog 9 #[.pointer none] w fun e w' => e = .returned (.int .i64 0) ∧ w' = w := by
  go_enter Tryz.func9, Tryz.ntmps9
  go_wp2
  go_ret
  exact ⟨rfl, rfl⟩
set_option maxRecDepth 100000 in
theorem len_some (q : Nat) (n : Int) (w : World) (h : w.cell? ⟨q, 1, none⟩ = some (.int .i64 n)) : Calls Tryz.prog 9 #[.pointer (some ⟨q, 0, none⟩)] w fun e w' => e = .returned (.int .i64 n) ∧ w' = w := by
  go_enter Tryz.func9, Tryz.ntmps9
  go_wp2
  go_ret
  exact ⟨rfl, rfl⟩
set_option maxRecDepth 100000 in
theorem choose_none (q : Nat) (p : Option Addr) (w : World) (h : w.cell? ⟨q, 0, none⟩ = some (.slice none 0 0)) : Calls Tryz.prog 13 #[.pointer (some ⟨q, 0, none⟩), .agg #[.pointer p, .int .i64 0, .int .u8 0]] w fun e w' => e = .returned choNo ∧ Below w.heap.size w w' := by
  unfold choNo
  have hq : q < w.heap.size := World.block_lt_of_cell? _ _ h
  go_enter Tryz.func13, Tryz.ntmps13
  go_wp2
  have hS : (w.alloc (.cells #[.pointer p, .int .i64 0, .int .u8 0] 55)).heap.size = w.heap.size + 1 := by simp
  have hbA : Below w.heap.size w (w.alloc (.cells #[.pointer p, .int .i64 0, .int .u8 0] 55)) := (Below.refl _ _).alloc (Nat.le_refl _) _
  generalize w.alloc (.cells #[.pointer p, .int .i64 0, .int .u8 0] 55) = W1 at *
  have hbB : Below w.heap.size w (W1.alloc (.cells #[.int .i64 0, .int .i64 0, .int .i64 0] 32)) := hbA.alloc (by omega) _
  obtain ⟨g0, g1, g2⟩ := box3 (w := W1) (x := .int .i64 0) (y := .int .i64 0) (z := .int .i64 0) (t := 32) (Below.refl _ _)
  have gz := frozen_new (w := W1) (c := #[.int .i64 0, .int .i64 0, .int .i64 0]) (t := 32) (Below.refl _ _)
  have z0 := gz 0
  have z1 := gz 1
  have z2 := gz 2
  rw [hS] at g0 g1 g2 z0 z1 z2
  clear gz
  generalize W1.alloc (.cells #[.int .i64 0, .int .i64 0, .int .i64 0] 32) = W2 at *
  go_loopw [14] (fun i wr => i = .int .i64 0 ∧ wr = W2) (fun _ _ => 0)
  case atStart => exact ⟨rfl, rfl⟩
  case round =>
    obtain ⟨rfl, rfl⟩ := hrel
    go_wp2
    exact bodyPost_ret (v := .agg #[.int .i64 (-1), .int .i64 (-1), .int .i64 0]) (by simp [results, Tryz.f13, go_sem, g0, g1, g2]) rfl ⟨rfl, ((hbB.setCell (by simp) _).setCell (by simp) _).setCell (by simp) _⟩
set_option maxRecDepth 100000 in
theorem spick_none (p : Option Addr) (h : Int) (w : World) : Calls Tryz.prog 7 #[.pointer none, .pointer p, .int .i64 h] w fun e w' => e = .returned (.tuple #[choZ, .int .i64 2]) ∧ Below w.heap.size w w' := by
  unfold choZ
  have hbA : Below w.heap.size w (w.alloc (.cells #[.int .i64 0, .int .i64 0, .int .i64 0] 32)) := (Below.refl _ _).alloc (Nat.le_refl _) _
  obtain ⟨g0, g1, g2⟩ := box3 (w := w) (x := .int .i64 0) (y := .int .i64 0) (z := .int .i64 0) (t := 32) (Below.refl _ _)
  have gz := frozen_new (w := w) (c := #[.int .i64 0, .int .i64 0, .int .i64 0]) (t := 32) (Below.refl _ _)
  have z0 := gz 0
  have z1 := gz 1
  have z2 := gz 2
  go_enter Tryz.func7, Tryz.ntmps7
  go_wp2
  exact bodyPost_ret (v := .tuple #[.agg #[.int .i64 0, .int .i64 0, .int .i64 0], .int .i64 2]) (by simp [results, Tryz.f7, go_sem, g0, g1, g2]) rfl ⟨rfl, hbA⟩
set_option maxRecDepth 100000 in
theorem spick_bad (q : Nat) (p : Option Addr) (h c : Int) (w : World) (C : Finds w p h c) (hc : c ≠ 0) : Calls Tryz.prog 7 #[.pointer (some ⟨q, 0, none⟩), .pointer p, .int .i64 h] w fun e w' => e = .returned (.tuple #[choZ, .int .i64 c]) ∧ Below w.heap.size w w' := by
  have hA := fun W hb => ask_bad p h c W (C.below hb) hc
  have hne : (c != 0) = true := by simp [hc]
  have hne2 : (c == 0) = false := by simp [hc]
  unfold choZ askZ at *
  have hbA : Below w.heap.size w (w.alloc (.cells #[.int .i64 0, .int .i64 0, .int .i64 0] 32)) := (Below.refl _ _).alloc (Nat.le_refl _) _
  go_enter Tryz.func7, Tryz.ntmps7
  go_wp2_with (go_at_call 12; refine (hA _ hbA).mono ?_; rintro e w1 ⟨rfl, hb1⟩; have hb2 := hb1.alloc hb1.size (.cells #[.pointer none, .int .i64 0, .int .u8 0] 55); obtain ⟨g0, g1, g2⟩ := box3 hb2; have gz := frozen_new hb2; have z0 := gz 0; have z1 := gz 1; have z2 := gz 2; have hb3 := more hbA hb2)
  exact bodyPost_ret (v := .tuple #[.agg #[.int .i64 0, .int .i64 0, .int .i64 0], .int .i64 c]) (by simp [results, Tryz.f7, go_sem, g0, g1, g2]) rfl ⟨rfl, by first | exact hb3 | exact ((hb3.setCell (Nat.le_refl _) _).setCell (Nat.le_refl _) _).setCell (Nat.le_refl _) _⟩
set_option maxRecDepth 100000 in
theorem spick_zero (q : Nat) (p : Addr) (w : World) (hr : w.cell? ⟨q, 0, none⟩ = some (.slice none 0 0)) : Calls Tryz.prog 7 #[.pointer (some ⟨q, 0, none⟩), .pointer (some p), .int .i64 0] w fun e w' => e = .returned (.tuple #[choNo, .int .i64 0]) ∧ Below w.heap.size w w' := by
  have hq : q < w.heap.size := World.block_lt_of_cell? _ _ hr
  have hC := fun W (hb : Below w.heap.size w W) => choose_none q (some p) W ((hb.cell (p := ⟨q, 0, none⟩) hq).trans hr)
  unfold choNo at *
  have hbA : Below w.heap.size w (w.alloc (.cells #[.int .i64 0, .int .i64 0, .int .i64 0] 32)) := (Below.refl _ _).alloc (Nat.le_refl _) _
  go_enter Tryz.func7, Tryz.ntmps7
  go_wp2_with (first | (go_at_call 12; refine (ask_zero _ _).mono ?_; rintro e w1 ⟨rfl, hb1⟩; have hb2 := hb1.alloc hb1.size (.cells #[.pointer (some p), .int .i64 0, .int .u8 0] 55)) | (go_at_call 13; refine (hC _ (more hbA hb2)).mono ?_; rintro e w3 ⟨rfl, hb4⟩; have hb5 := more hb2 hb4; obtain ⟨g0, g1, g2⟩ := box3 hb5; have gz := frozen_new hb5; have z0 := gz 0; have z1 := gz 1; have z2 := gz 2; have hb6 := more hbA hb5))
  exact bodyPost_ret (v := .tuple #[.agg #[.int .i64 (-1), .int .i64 (-1), .int .i64 0], .int .i64 0]) (by simp [results, Tryz.f7, go_sem, g0, g1, g2]) rfl ⟨rfl, ((hb6.setCell (Nat.le_refl _) _).setCell (Nat.le_refl _) _).setCell (Nat.le_refl _) _⟩
set_option maxRecDepth 100000 in
theorem pick_bad (p : Option Addr) (h c : Int) (v : Value) (w : World) (C : Finds w p h c) (hc : c ≠ 0) : Calls Tryz.prog 6 #[.pointer p, .int .i64 h, v] w fun e w' => e = .returned (.tuple #[choZ, .int .i64 c]) ∧ Below w.heap.size w w' := by
  have hA := fun W hb => ask_bad p h c W (C.below hb) hc
  have hne : (c != 0) = true := by simp [hc]
  have hne2 : (c == 0) = false := by simp [hc]
  unfold choZ askZ at *
  have hbA : Below w.heap.size w (w.alloc (.cells #[.int .i64 0, .int .i64 0, .int .i64 0] 32)) := (Below.refl _ _).alloc (Nat.le_refl _) _
  go_enter Tryz.func6, Tryz.ntmps6
  go_wp2_with (go_at_call 12; refine (hA _ hbA).mono ?_; rintro e w1 ⟨rfl, hb1⟩; have hb2 := hb1.alloc hb1.size (.cells #[.pointer none, .int .i64 0, .int .u8 0] 55); obtain ⟨g0, g1, g2⟩ := box3 hb2; have gz := frozen_new hb2; have z0 := gz 0; have z1 := gz 1; have z2 := gz 2; have hb3 := more hbA hb2)
  exact bodyPost_ret (v := .tuple #[.agg #[.int .i64 0, .int .i64 0, .int .i64 0], .int .i64 c]) (by simp [results, Tryz.f6, go_sem, g0, g1, g2]) rfl ⟨rfl, by first | exact hb3 | exact ((hb3.setCell (Nat.le_refl _) _).setCell (Nat.le_refl _) _).setCell (Nat.le_refl _) _⟩
set_option maxRecDepth 100000 in
theorem pick_wrong (l : List Cl) (hl : l.length ≤ 1000000) (hts : ∀ x ∈ l, x.t.length ≤ 1000000) (i : Nat) (c : Int) (hc : checkF l = (i, c)) (hn0 : c ≠ 0) (p : Addr) (v : Value) (w : World) (h : ClSl w.heap.size w v l) : Calls Tryz.prog 6 #[.pointer (some p), .int .i64 0, v] w fun e w' => e = .returned (.tuple #[choZ, .int .i64 c]) ∧ Below w.heap.size w w' := by
  have hK := fun W (hb : Below w.heap.size w W) => compile_bad l hl hts i c hc hn0 v W (h.below hb hb.size)
  have hne : (c != 0) = true := by simp [hn0]
  have hne2 : (c == 0) = false := by simp [hn0]
  unfold choZ at *
  have hbA : Below w.heap.size w (w.alloc (.cells #[.int .i64 0, .int .i64 0, .int .i64 0] 32)) := (Below.refl _ _).alloc (Nat.le_refl _) _
  go_enter Tryz.func6, Tryz.ntmps6
  go_wp2_with (first | (go_at_call 12; refine (ask_zero _ _).mono ?_; rintro e w1 ⟨rfl, hb1⟩; have hb2 := hb1.alloc hb1.size (.cells #[.pointer (some p), .int .i64 0, .int .u8 0] 55)) | (go_at_call 10; refine (hK _ (more hbA hb2)).mono ?_; rintro e w3 ⟨rfl, hb4⟩; have hb5 := more hb2 hb4; obtain ⟨g0, g1, g2⟩ := box3 hb5; have gz := frozen_new hb5; have z0 := gz 0; have z1 := gz 1; have z2 := gz 2; have hb6 := more hbA hb5))
  exact bodyPost_ret (v := .tuple #[.agg #[.int .i64 0, .int .i64 0, .int .i64 0], .int .i64 c]) (by simp [results, Tryz.f6, go_sem, g0, g1, g2]) rfl ⟨rfl, by first | exact hb6 | exact ((hb6.setCell (Nat.le_refl _) _).setCell (Nat.le_refl _) _).setCell (Nat.le_refl _) _⟩
end Go.Proofs.YtefmffofboddgaaGreat.T
