/-
  (place.Place).copied and place.copies: places in memory of their own.
-/
import Derived.Test.YtbldeiejlebbiaaDoorPlaceCheck
import Derived.Test.YtbldeiejlebbiaaDoorShelf
set_option linter.unusedVariables false
namespace Go.Proofs.YtbldeiejlebbiaaDoor.T
open Go Go.Lib Go.RowKit

theorem Clone_in (s : ByteArray) (hs : s.size ≤ 281474976710656) (w : World) : Calls Tryd.prog 81 #[.string s] w fun e w' => e = .returned (.string s) ∧ Below w.heap.size w w' := by
  go_enter Tryd.func81, Tryd.ntmps81
  go_wp2_with (go_at_call 87; refine (Tryd.stringslite_Clone s _ hs).mono ?_; rintro e w' ⟨rfl, hb⟩)
  go_ret
  exact ⟨rfl, hb⟩

theorem results_pl {fn : Func} {p : Tmp} (h : fn.results = #[.cell p 39]) (tmps : Array Value) (w : World) (g : Nat) (s : ByteArray) (k : Int)
    (hp : tmps.getD p undef = .pointer (some ⟨g, 0, none⟩)) (h0 : w.cell? ⟨g, 0, none⟩ = some (.string s)) (h1 : w.cell? ⟨g, 1, none⟩ = some (.int .i64 k)) :
    (results fn tmps).run Tryd.prog w = .ok (.agg #[.string s, .int .i64 k]) w := by
  have hp' : tmps[p]?.getD undef = .pointer (some ⟨g, 0, none⟩) := by simpa using hp
  simp only [results, h]
  simp [hp', asAddr]
  go_simp
theorem cell_other (w : World) (b : Nat) (u : Value) (i j : Nat) (h : i ≠ j) : (w.setCell ⟨b, i, none⟩ u).cell? ⟨b, j, none⟩ = w.cell? ⟨b, j, none⟩ := by
  have hne : (⟨b, i, none⟩ : Addr) ≠ ⟨b, j, none⟩ := fun e => h (by cases e; rfl)
  first | exact World.cell?_setCell_other _ _ _ _ hne | exact World.cell?_setCell_other _ _ _ hne | exact World.cell?_setCell_other _ _ hne
theorem cell2_set0 {w : World} {b : Nat} {x y u v : Value} (h0 : w.cell? ⟨b, 0, none⟩ = some x) (h1 : w.cell? ⟨b, 1, none⟩ = some y) : ((w.setCell ⟨b, 0, none⟩ u).setCell ⟨b, 1, none⟩ v).cell? ⟨b, 0, none⟩ = some u := by
  rw [cell_other _ _ _ _ _ (by decide)]
  exact World.cell?_setCell_same _ _ _ h0
theorem cell2_set1 {w : World} {b : Nat} {y u v : Value} (h1 : w.cell? ⟨b, 1, none⟩ = some y) : ((w.setCell ⟨b, 0, none⟩ u).setCell ⟨b, 1, none⟩ v).cell? ⟨b, 1, none⟩ = some v :=
  World.cell?_setCell_same _ _ _ ((cell_other _ _ _ _ _ (by decide)).trans h1)
theorem Below.drew' {B : Nat} {w w' : World} (h : Below B w.drew w') : Below B w w' := ((Below.refl B w).drew).trans h
set_option maxRecDepth 100000 in
set_option maxHeartbeats 4000000 in
theorem copied_in (p : Pl) (hp : p.n.size ≤ 140737488351232) (w : World) :
    Calls Tryd.prog 70 #[.agg #[.string p.n, .int .i64 p.k]] w fun e w' => e = .returned (.agg #[.string p.n, .int .i64 p.k]) ∧ Below w.heap.size w w' := by
  have hCl := fun W => Clone_in p.n (by omega) W
  go_enter Tryd.func70, Tryd.ntmps70
  have k0 : ((w.alloc (.cells #[.string p.n, .int .i64 p.k] 39)).alloc (.cells #[.string ⟨#[]⟩, .int .i64 0] 39)).cell? ⟨w.heap.size, 0, none⟩ = some (.string p.n) := by simp
  have k1 : ((w.alloc (.cells #[.string p.n, .int .i64 p.k] 39)).alloc (.cells #[.string ⟨#[]⟩, .int .i64 0] 39)).cell? ⟨w.heap.size, 1, none⟩ = some (.int .i64 p.k) := by simp
  have k2 : ((w.alloc (.cells #[.string p.n, .int .i64 p.k] 39)).alloc (.cells #[.string ⟨#[]⟩, .int .i64 0] 39)).cell? ⟨w.heap.size + 1, 0, none⟩ = some (.string ⟨#[]⟩) := by simp
  have k3 : ((w.alloc (.cells #[.string p.n, .int .i64 p.k] 39)).alloc (.cells #[.string ⟨#[]⟩, .int .i64 0] 39)).cell? ⟨w.heap.size + 1, 1, none⟩ = some (.int .i64 0) := by simp
  have k4 : ((w.alloc (.cells #[.string p.n, .int .i64 p.k] 39)).alloc (.cells #[.string ⟨#[]⟩, .int .i64 0] 39)).frozen? ⟨w.heap.size + 1, 0, none⟩ = false := by simp
  have k5 : ((w.alloc (.cells #[.string p.n, .int .i64 p.k] 39)).alloc (.cells #[.string ⟨#[]⟩, .int .i64 0] 39)).frozen? ⟨w.heap.size + 1, 1, none⟩ = false := by simp
  have hB0 : Below w.heap.size w ((w.alloc (.cells #[.string p.n, .int .i64 p.k] 39)).alloc (.cells #[.string ⟨#[]⟩, .int .i64 0] 39)) := ((Below.refl _ w).alloc (Nat.le_refl _) _).alloc (by simp) _
  have hz : ((w.alloc (.cells #[.string p.n, .int .i64 p.k] 39)).alloc (.cells #[.string ⟨#[]⟩, .int .i64 0] 39)).heap.size = w.heap.size + 2 := by simp
  go_wp2
  generalize ((w.alloc (.cells #[.string p.n, .int .i64 p.k] 39)).alloc (.cells #[.string ⟨#[]⟩, .int .i64 0] 39)) = W at *
  go_region_with (go_at_call 81; refine (hCl _).mono ?_; rintro e w1 ⟨rfl, hb1⟩; have m1 := (hb1.cell (p := ⟨w.heap.size, 1, none⟩) (by simp; omega)).trans k1; have m0 := (hb1.cell (p := ⟨w.heap.size, 0, none⟩) (by simp; omega)).trans k0; have m2 := (hb1.cell (p := ⟨w.heap.size + 1, 0, none⟩) (by simp; omega)).trans k2; have m3 := (hb1.cell (p := ⟨w.heap.size + 1, 1, none⟩) (by simp; omega)).trans k3; have m4 := (hb1.frozen (p := ⟨w.heap.size + 1, 0, none⟩) (by simp; omega)).trans k4; have m5 := (hb1.frozen (p := ⟨w.heap.size + 1, 1, none⟩) (by simp; omega)).trans k5)
  all_goals go_wp2
  all_goals
    refine bodyPost_ret (v := .agg #[.string p.n, .int .i64 p.k]) ?_ rfl ?_
    · exact results_pl rfl _ _ _ _ _ rfl (cell2_set0 m2 m3) (cell2_set1 m3)
    · exact ⟨rfl, by
        refine (Below.setCell (Below.setCell (hB0.trans ?_) (p := ⟨w.heap.size + 1, 0, none⟩) (by simp) _) (p := ⟨w.heap.size + 1, 1, none⟩) (by simp) _)
        first | exact Below.drew' (hb1.mono (by simp; omega)) | exact hb1.mono (by simp; omega)⟩

set_option maxRecDepth 100000 in
set_option maxHeartbeats 4000000 in
theorem copies_in (l : List Pl) (hl : l.length ≤ 5864062014700) (hs : Slim l) (v : Value) (w : World) (h : PlSl w.heap.size w v l) :
    Calls Tryd.prog 42 #[v] w (IsRow 39 l w) := by
  obtain ⟨a, c, rfl, hc1, hc2, hcells⟩ := h
  obtain ⟨i0, hi, hz0, hz1, hz2⟩ := info_parts infoOwn
  go_enter Tryd.func42, Tryd.ntmps42
  go_wp2
  go_loopw [3, 8] (fun v i wr => ∃ (k : Nat), k ≤ l.length ∧ i = .int .i64 k ∧ PRow 39 w.heap.size wr v (l.take k) ∧ Below w.heap.size w wr)
    (fun _ i _ => l.length - (RowKit.intOf i).toNat)
  case atStart => exact ⟨0, Nat.zero_le _, rfl, PRow.nil _ _ _, Below.refl _ _⟩
  case round =>
    obtain ⟨k, hk, rfl, hrow, hbw⟩ := hrel
    have hszr := hbw.size
    by_cases hlt : k < l.length
    · obtain ⟨bk, o, rfl, hbk, hat⟩ := hcells (by intro e; subst e; simp at hlt)
      have hx : l[k]? = some l[k] := List.getElem?_eq_getElem hlt
      have hat2 := (hat.below hbw hbk) k _ hx
      have hsl := hs.at hx
      have htk : l.take (k + 1) = l.take k ++ [l[k]] := by rw [List.take_add_one, hx]; rfl
      have HTK := Lib.hid htk
      generalize l[k] = x at *
      have c1 := hat2.1
      have c2 := hat2.2
      have hlk : (l.take k).length = k := by rw [List.length_take]; omega
      have hrow0 : (wr.alloc (.cells #[.string x.n, .int .i64 x.k] 39)).ownsRow w.heap.size 39 2 u3 k (plCs (l.take k)) := by
        have h := World.ownsRow.alloc hrow (.cells #[.string x.n, .int .i64 x.k] 39)
        rw [hlk] at h
        exact h
      have hbx := hbw.alloc hszr (.cells #[.string x.n, .int .i64 x.k] 39)
      have hCp := fun W => copied_in x hsl W
      clear htk hx
      generalize l.length = n at *
      have hN : decide ((k : Int) < (n : Int)) = true := by simp; omega
      go_wp2_with (first | (go_at_call 70; refine (hCp _).mono ?_; rintro e w1 ⟨rfl, hb1⟩; have hb2 := hbx.trans (hb1.mono (by simp; omega)); have hsz2 := hb2.size; have hrow1 := row_none hrow0 (below_grown hb1)) | (at_builtin; refine wpList_append_own _ rfl _ _ 23 rfl w.heap.size 39 i0 (.agg #[.string ⟨#[]⟩, .int .i64 0]) 2 24 Tryd.underlying23 hi hz0 hz1 hz2 rfl (by decide) _ k _ rfl (hrow1.alloc _) ⟨w1.heap.size, 0, none⟩ 1 1 [.string x.n, .int .i64 x.k] rfl rfl (cell2_new _ _ _ _) (by simp [Value.oneCell']) (by unfold maxLen; omega) (by omega) (by simp; omega) ?_; intro v' w2 hown' hgrow _; have hb3 := hb2.grown (grown_of_alloc' hgrow) hsz2 (fun j hj => (World.ownsRow.lt hrow1 j hj).1)))
      go_roundw
      case rel =>
        refine ⟨k + 1, hlt, by go_num, ?_, hb3⟩
        rw [HTK.out]
        unfold PRow
        rw [plCs_snoc, List.length_append, hlk]
        exact hown'
      case measure => simp [RowKit.intOf]; omega
    · have : k = l.length := by omega
      subst this
      rw [List.take_length] at hrow
      go_wp2
      go_ret
      exact ⟨_, rfl, hrow, hbw⟩
end Go.Proofs.YtbldeiejlebbiaaDoor.T
