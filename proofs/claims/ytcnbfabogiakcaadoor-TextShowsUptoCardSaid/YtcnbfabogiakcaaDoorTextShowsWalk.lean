/-
  erratalaw01.TextShows, walked.
-/
import Derived.Test.YtcnbfabogiakcaaDoorTextRefFront
set_option linter.unusedVariables false
namespace Go.Proofs.YtcnbfabogiakcaaDoor.T
open Go Go.Lib Go.RowKit Go.Shelf

theorem after {w W : World} {P : Program} {f : FuncId} {args : Array Value} {v : Value} (hb : Below w.heap.size w W) (h : Calls P f args W fun e W' => e = .returned v ∧ Below W.heap.size W W') :
    Calls P f args W fun e W' => e = .returned v ∧ Below w.heap.size w W' := h.mono fun e W' k => ⟨k.1, hb.trans (k.2.mono hb.size)⟩
set_option maxRecDepth 100000 in
set_option maxHeartbeats 4000000 in
theorem textShows_in (s t rest : ByteArray) (hs : s.size ≤ 1048576) (ht : t.size + rest.size ≤ 1048576) (w : World) (hT : Tabs w) (h2 : 2 ≤ w.heap.size) :
    Calls Tryd.prog 4 #[.string s, .string t, .string rest] w fun e w' => e = .returned (.bool true) ∧ Below w.heap.size w w' := by
  have hz : (t ++ rest).size = t.size + rest.size := by simp
  have two : ∀ W, Below w.heap.size w W → 2 ≤ W.heap.size := fun W hb => by have := hb.size; omega
  have c1 := fun W (hb : Below w.heap.size w W) => after hb (callsIn_wide.1 (Show_in s hs W (hT.below hb h2) (two W hb)))
  have c2 := fun W (hb : Below w.heap.size w W) => after hb (refShow_in s hs W)
  have c3 := fun W (hb : Below w.heap.size w W) => after hb (callsIn_wide.1 (Width_in s (by omega) W (hT.below hb h2) (two W hb)))
  have c4 := fun W (hb : Below w.heap.size w W) => after hb (refWidth_in s hs W)
  have c5 := fun W (hb : Below w.heap.size w W) => after hb (callsIn_wide.1 (Quote_in s hs W (hT.below hb h2) (two W hb)))
  have c6 := fun W (hb : Below w.heap.size w W) => after hb (refQuote_in s hs W)
  have c7 := fun W (hb : Below w.heap.size w W) => after hb (refUnquote_in t (by omega) W)
  have c8 := fun W (hb : Below w.heap.size w W) => after hb (Unquote_in t (by omega) W (hT.below hb h2) (two W hb))
  have c9 := fun W (hb : Below w.heap.size w W) => after hb (refFront_in (t ++ rest) (by omega) W)
  have c10 := fun W (hb : Below w.heap.size w W) => after hb (Front_in (t ++ rest) (by omega) W (hT.below hb h2) (two W hb))
  simp only [shT_shL] at c1
  have eq : (⟨(quL s (pcs s) ++ [34]).toArray⟩ : ByteArray) = ⟨([34] ++ shL s true (pcs s) ++ [34]).toArray⟩ := by unfold quL; rw [shT_shL]
  simp only [eq] at c5
  simp only [un_same] at c7
  simp only [fr_same] at c9
  clear eq
  generalize (⟨(shL s false (pcs s)).toArray⟩ : ByteArray) = A at *
  generalize (⟨([34] ++ shL s true (pcs s) ++ [34]).toArray⟩ : ByteArray) = B at *
  generalize widthL (pcs s) = n at *
  generalize unT t = U at *
  generalize frT (t ++ rest) = F at *
  have hcat : ¬ 9223372036854775807 < t.size + rest.size := by omega
  have hb0 := Below.refl w.heap.size w
  have C1 := Lib.hid c1; have C2 := Lib.hid c2; have C3 := Lib.hid c3; have C4 := Lib.hid c4; have C5 := Lib.hid c5
  have C6 := Lib.hid c6; have C7 := Lib.hid c7; have C8 := Lib.hid c8; have C9 := Lib.hid c9; have C10 := Lib.hid c10
  clear c1 c2 c3 c4 c5 c6 c7 c8 c9 c10 hz two
  rcases U with _ | u <;> rcases F with _ | ⟨v, m⟩
  all_goals
    simp only [unV, frV] at C7 C8 C9 C10
    go_enter Tryd.func4, Tryd.ntmps4
    go_wp2_with (first
      | (go_at_call 14; (with_reducible refine (C1.out _ (by assumption)).mono ?_); rintro e W1 ⟨rfl, hb1⟩)
      | (go_at_call 15; (with_reducible refine (C2.out _ (by assumption)).mono ?_); rintro e W2 ⟨rfl, hb2⟩)
      | (go_at_call 16; (with_reducible refine (C3.out _ (by assumption)).mono ?_); rintro e W3 ⟨rfl, hb3⟩)
      | (go_at_call 17; (with_reducible refine (C4.out _ (by assumption)).mono ?_); rintro e W4 ⟨rfl, hb4⟩)
      | (go_at_call 18; (with_reducible refine (C5.out _ (by assumption)).mono ?_); rintro e W5 ⟨rfl, hb5⟩)
      | (go_at_call 19; (with_reducible refine (C6.out _ (by assumption)).mono ?_); rintro e W6 ⟨rfl, hb6⟩)
      | (go_at_call 20; (with_reducible refine (C7.out _ (by assumption)).mono ?_); rintro e W7 ⟨rfl, hb7⟩)
      | (go_at_call 21; (with_reducible refine (C8.out _ (by assumption)).mono ?_); rintro e W8 ⟨rfl, hb8⟩)
      | (go_at_call 22; (with_reducible refine (C9.out _ (by assumption)).mono ?_); rintro e W9 ⟨rfl, hb9⟩)
      | (go_at_call 23; (with_reducible refine (C10.out _ (by assumption)).mono ?_); rintro e W10 ⟨rfl, hb10⟩))
    go_ret
    exact ⟨rfl, by assumption⟩
end Go.Proofs.YtcnbfabogiakcaaDoor.T
