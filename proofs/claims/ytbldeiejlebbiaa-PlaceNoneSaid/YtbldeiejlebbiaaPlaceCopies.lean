/-
  (place.Place).copied and place.copies: places in memory of their own.
-/
import Derived.Test.YtbldeiejlebbiaaPlaceCheck
import Derived.Test.YtbldeiejlebbiaaShelf
set_option linter.unusedVariables false
namespace Go.Proofs.Ytbldeiejlebbiaa.T
open Go Go.Lib Go.RowKit

theorem Clone_in (s : ByteArray) (hs : s.size ≤ 281474976710656) (w : World) : Calls Try.prog 22 #[.string s] w fun e w' => e = .returned (.string s) ∧ Below w.heap.size w w' := by
  go_enter Try.func22, Try.ntmps22
  go_wp2_with (go_at_call 23; refine (Try.stringslite_Clone s _ hs).mono ?_; rintro e w' ⟨rfl, hb⟩)
  go_ret
  exact ⟨rfl, hb⟩

theorem results_pl {fn : Func} {p : Tmp} (h : fn.results = #[.cell p 24]) (tmps : Array Value) (w : World) (g : Nat) (s : ByteArray) (k : Int)
    (hp : tmps.getD p undef = .pointer (some ⟨g, 0, none⟩)) (h0 : w.cell? ⟨g, 0, none⟩ = some (.string s)) (h1 : w.cell? ⟨g, 1, none⟩ = some (.int .i64 k)) :
    (results fn tmps).run Try.prog w = .ok (.agg #[.string s, .int .i64 k]) w := by
  have hp' : tmps[p]?.getD undef = .pointer (some ⟨g, 0, none⟩) := by simpa using hp
  simp only [results, h]
  simp [hp', asAddr]
  go_simp
theorem cell_other (w : World) (b : Nat) (u : Value) (i j : Nat) (h : i ≠ j) : (w.setCell ⟨b, i, none⟩ u).cell? ⟨b, j, none⟩ = w.cell? ⟨b, j, none⟩ := by
  have hne : (⟨b, i, none⟩ : Addr) ≠ ⟨b, j, none⟩ := fun e => h (by cases e; rfl)
  first | exact World.cell?_setCell_other _ _ _ _ hne | exact World.cell?_setCell_other _ _ _ hne | exact World.cell?_setCell_other _ _ hne
theorem cell2_set0 {w : World} {b : Nat} {x y u v : Value} (h0 : w.cell? ⟨b, 0, none⟩ = some x) (h1 : w.cell? ⟨b, 1, none⟩ = some y) : ((w.setCell ⟨b, 0, none⟩ u).setCell ⟨b, 1, none⟩ v).cell? ⟨b, 0, none⟩ = some u := by
  rw [cell_other _ _ _ _ _ (by decide)]
  exact World.cell?_setCell_same _ _ _ h0
theorem cell2_set1 {w : World} {b : Nat} {y u v : Value} (h1 : w.cell? ⟨b, 1, none⟩ = some y) : ((w.setCell ⟨b, 0, none⟩ u).setCell ⟨b, 1, none⟩ v).cell? ⟨b, 1, none⟩ = some v :=
  World.cell?_setCell_same _ _ _ ((cell_other _ _ _ _ _ (by decide)).trans h1)
theorem Below.drew' {B : Nat} {w w' : World} (h : Below B w.drew w') : Below B w w' := ((Below.refl B w).drew).trans h
set_option maxRecDepth 100000 in
set_option maxHeartbeats 4000000 in
theorem copied_in (p : Pl) (hp : p.n.size ≤ 140737488351232) (w : World) :
    Calls Try.prog 17 #[.agg #[.string p.n, .int .i64 p.k]] w fun e w' => e = .returned (.agg #[.string p.n, .int .i64 p.k]) ∧ Below w.heap.size w w' := by
  have hCl := fun W => Clone_in p.n (by omega) W
  go_enter Try.func17, Try.ntmps17
  have k0 : ((w.alloc (.cells #[.string p.n, .int .i64 p.k] 24)).alloc (.cells #[.string ⟨#[]⟩, .int .i64 0] 24)).cell? ⟨w.heap.size, 0, none⟩ = some (.string p.n) := by simp
  have k1 : ((w.alloc (.cells #[.string p.n, .int .i64 p.k] 24)).alloc (.cells #[.string ⟨#[]⟩, .int .i64 0] 24)).cell? ⟨w.heap.size, 1, none⟩ = some (.int .i64 p.k) := by simp
  have k2 : ((w.alloc (.cells #[.string p.n, .int .i64 p.k] 24)).alloc (.cells #[.string ⟨#[]⟩, .int .i64 0] 24)).cell? ⟨w.heap.size + 1, 0, none⟩ = some (.string ⟨#[]⟩) := by simp
  have k3 : ((w.alloc (.cells #[.string p.n, .int .i64 p.k] 24)).alloc (.cells #[.string ⟨#[]⟩, .int .i64 0] 24)).cell? ⟨w.heap.size + 1, 1, none⟩ = some (.int .i64 0) := by simp
  have k4 : ((w.alloc (.cells #[.string p.n, .int .i64 p.k] 24)).alloc (.cells #[.string ⟨#[]⟩, .int .i64 0] 24)).frozen? ⟨w.heap.size + 1, 0, none⟩ = false := by simp
  have k5 : ((w.alloc (.cells #[.string p.n, .int .i64 p.k] 24)).alloc (.cells #[.string ⟨#[]⟩, .int .i64 0] 24)).frozen? ⟨w.heap.size + 1, 1, none⟩ = false := by simp
  have hB0 : Below w.heap.size w ((w.alloc (.cells #[.string p.n, .int .i64 p.k] 24)).alloc (.cells #[.string ⟨#[]⟩, .int .i64 0] 24)) := ((Below.refl _ w).alloc (Nat.le_refl _) _).alloc (by simp) _
  have hz : ((w.alloc (.cells #[.string p.n, .int .i64 p.k] 24)).alloc (.cells #[.string ⟨#[]⟩, .int .i64 0] 24)).heap.size = w.heap.size + 2 := by simp
  go_wp2
  generalize ((w.alloc (.cells #[.string p.n, .int .i64 p.k] 24)).alloc (.cells #[.string ⟨#[]⟩, .int .i64 0] 24)) = W at *
  go_region_with (go_at_call 22; refine (hCl _).mono ?_; rintro e w1 ⟨rfl, hb1⟩; have m1 := (hb1.cell (p := ⟨w.heap.size, 1, none⟩) (by simp; omega)).trans k1; have m0 := (hb1.cell (p := ⟨w.heap.size, 0, none⟩) (by simp; omega)).trans k0; have m2 := (hb1.cell (p := ⟨w.heap.size + 1, 0, none⟩) (by simp; omega)).trans k2; have m3 := (hb1.cell (p := ⟨w.heap.size + 1, 1, none⟩) (by simp; omega)).trans k3; have m4 := (hb1.frozen (p := ⟨w.heap.size + 1, 0, none⟩) (by simp; omega)).trans k4; have m5 := (hb1.frozen (p := ⟨w.heap.size + 1, 1, none⟩) (by simp; omega)).trans k5)
  all_goals go_wp2
  all_goals
    refine bodyPost_ret (v := .agg #[.string p.n, .int .i64 p.k]) ?_ rfl ?_
    · exact results_pl rfl _ _ _ _ _ rfl (cell2_set0 m2 m3) (cell2_set1 m3)
    · exact ⟨rfl, by
        refine (Below.setCell (Below.setCell (hB0.trans ?_) (p := ⟨w.heap.size + 1, 0, none⟩) (by simp) _) (p := ⟨w.heap.size + 1, 1, none⟩) (by simp) _)
        first | exact Below.drew' (hb1.mono (by simp; omega)) | exact hb1.mono (by simp; omega)⟩

end Go.Proofs.Ytbldeiejlebbiaa.T
