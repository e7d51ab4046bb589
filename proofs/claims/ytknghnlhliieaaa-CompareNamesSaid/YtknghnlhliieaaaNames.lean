/-
  PROVED: erratalaw07.CompareNames answers true (a closed statement: the numbers, and what package compare answers of no book and of no set).
  CONDITIONS: none.
-/
import Derived.Test.YtknghnlhliieaaaNamesA
import Derived.Deep.QuietTactic
import Derived.BigQuiet
import Derived.Lib.Hide
namespace Go.Proofs.Ytknghnlhliieaaa.compareNames
open Go.ChangeShapes Go.WideShapes Go.ChangeAt Go.RowKit
set_option linter.unusedVariables false
attribute [local go_sem] run_store_float

theorem error_nil (h : Int) (w : World) : Calls Try.prog 22 #[.pointer none, .int .i64 h] w fun e w' => e = .returned (.tuple #[.nilIface, .int .i64 2]) ∧ Below w.heap.size w w' :=
  error_of none h 2 w (fun W _ => find_nil h W)
theorem errorsOf_same (v : Value) (w : World) : Calls Try.prog 17 #[.pointer none, v] w fun e w' => e = .returned (.tuple #[.slice none 0 0, .int .i64 2]) ∧ w' = w := by
  go_enter Try.func17, Try.ntmps17
  go_wp2
  go_ret2
  exact ⟨rfl, rfl⟩
theorem errorsOf_nil (v : Value) (w : World) : Calls Try.prog 17 #[.pointer none, v] w fun e w' => e = .returned (.tuple #[.slice none 0 0, .int .i64 2]) ∧ Below w.heap.size w w' :=
  (errorsOf_same v w).mono (by rintro e w' ⟨h, rfl⟩; exact ⟨h, Below.refl _ _⟩)
theorem rowsOf_same (v u : Value) (w : World) : Calls Try.prog 19 #[.pointer none, v, u] w fun e w' => e = .returned (.tuple #[.slice none 0 0, .slice none 0 0, .int .i64 2]) ∧ w' = w := by
  have c := fun W => errorsOf_same v W
  go_enter Try.func19, Try.ntmps19
  go_wp2_with (go_at_call 17; refine (c _).mono ?_; rintro e w1 ⟨rfl, rfl⟩)
  go_ret3
  exact ⟨rfl, rfl⟩
theorem rowsOf_nil (v u : Value) (w : World) : Calls Try.prog 19 #[.pointer none, v, u] w fun e w' => e = .returned (.tuple #[.slice none 0 0, .slice none 0 0, .int .i64 2]) ∧ Below w.heap.size w w' :=
  (rowsOf_same v u w).mono (by rintro e w' ⟨h, rfl⟩; exact ⟨h, Below.refl _ _⟩)
theorem two_nil (w : World) : Calls Try.prog 4 #[.pointer none, .int .i64 0, .int .i64 0] w fun e w' => e = .returned (.tuple #[.int .i64 0, .int .i64 2]) ∧ Below w.heap.size w w' := by
  have c := fun v W => errorsOf_nil v W
  go_enter Try.func4, Try.ntmps4
  go_wp2_with (go_at_call 17; refine (c _ _).mono ?_; rintro e w1 ⟨rfl, hb1⟩)
  go_ret2
  exact ⟨rfl, ((Below.refl _ _).alloc (Nat.le_refl _) _).trans (hb1.mono (by simp))⟩
theorem rows_nil (v u : Value) (w : World) : Calls Try.prog 6 #[.pointer none, v, u] w fun e w' => e = .returned (.tuple #[.int .i64 0, .int .i64 2]) ∧ Below w.heap.size w w' := by
  have c := fun W => rowsOf_nil v u W
  go_enter Try.func6, Try.ntmps6
  go_wp2_with (go_at_call 19; refine (c _).mono ?_; rintro e w1 ⟨rfl, hb1⟩)
  go_ret2
  exact ⟨rfl, hb1⟩
theorem seek_nil (v : Value) (w : World) : Calls Try.prog 7 #[.pointer none, .int .i64 0, v] w fun e w' => e = .returned (.tuple #[.int .i64 0, .int .i64 0, .int .i64 2]) ∧ Below w.heap.size w w' := by
  have c := fun W => error_nil 0 W
  go_enter Try.func7, Try.ntmps7
  go_wp2_with (go_at_call 22; refine (c _).mono ?_; rintro e w1 ⟨rfl, hb1⟩)
  go_ret3
  exact ⟨rfl, hb1⟩
theorem byType_nil (w : World) : Calls Try.prog 8 #[.pointer none, .int .i64 0] w fun e w' => e = .returned (.tuple #[.bool false, .int .i64 2]) ∧ Below w.heap.size w w' := by
  have c := fun W => error_nil 0 W
  go_enter Try.func8, Try.ntmps8
  go_wp2_with (go_at_call 22; refine (c _).mono ?_; rintro e w1 ⟨rfl, hb1⟩)
  go_ret2
  exact ⟨rfl, hb1⟩
theorem nothing_nil (w : World) : Calls Try.prog 9 #[.pointer none, .int .i64 0] w fun e w' => e = .returned (.tuple #[.bool false, .bool false, .int .i64 2]) ∧ Below w.heap.size w w' := by
  have c := fun W => error_nil 0 W
  go_enter Try.func9, Try.ntmps9
  go_wp2_with (go_at_call 22; refine (c _).mono ?_; rintro e w1 ⟨rfl, hb1⟩)
  go_ret3
  exact ⟨rfl, hb1⟩
theorem classes_nil (v : Value) (w : World) : Calls Try.prog 10 #[.pointer none, v] w fun e w' => e = .returned (.tuple #[.slice none 0 0, .slice none 0 0, .int .i64 2]) ∧ Below w.heap.size w w' := by
  have c := fun W => errorsOf_nil v W
  go_enter Try.func10, Try.ntmps10
  go_wp2_with (go_at_call 17; refine (c _).mono ?_; rintro e w1 ⟨rfl, hb1⟩)
  go_ret3
  exact ⟨rfl, hb1⟩
theorem new_nil (w : World) : Calls Try.prog 11 #[.pointer none] w fun e w' => e = .returned (.tuple #[.pointer none, .int .i64 2]) ∧ Below w.heap.size w w' := by
  go_enter Try.func11, Try.ntmps11
  go_wp2
  go_ret2
  exact ⟨rfl, Below.refl _ _⟩
theorem ask_nil (h : Value) (fn : Fn) (cs ds : Array Value) (w : World) : Calls Try.prog 26 #[.pointer none, h, .func fn cs ds] w fun e w' => e = .returned (.tuple #[.int .i64 0, .int .i64 2]) ∧ Below w.heap.size w w' := by
  go_enter Try.func26, Try.ntmps26
  go_wp2
  go_ret2
  exact ⟨rfl, (Below.refl _ _).alloc (Nat.le_refl _) _⟩
theorem put_nil (w : World) : Calls Try.prog 12 #[.pointer none, .int .i64 0] w fun e w' => e = .returned (.tuple #[.int .i64 0, .int .i64 2]) ∧ Below w.heap.size w w' := by
  have c := fun h fn cs ds W => ask_nil h fn cs ds W
  go_enter Try.func12, Try.ntmps12
  go_wp2_with (go_at_call 26; refine (c _ _ _ _ _).mono ?_; rintro e w1 ⟨rfl, hb1⟩)
  go_ret2
  exact ⟨rfl, ((Below.refl _ _).alloc (Nat.le_refl _) _).trans (hb1.mono (by simp))⟩
theorem has_nil (w : World) : Calls Try.prog 13 #[.pointer none, .int .i64 0] w fun e w' => e = .returned (.tuple #[.int .i64 0, .int .i64 2]) ∧ Below w.heap.size w w' := by
  have c := fun h fn cs ds W => ask_nil h fn cs ds W
  go_enter Try.func13, Try.ntmps13
  go_wp2_with (go_at_call 26; refine (c _ _ _ _ _).mono ?_; rintro e w1 ⟨rfl, hb1⟩)
  go_ret2
  exact ⟨rfl, hb1⟩
theorem drop_nil (w : World) : Calls Try.prog 14 #[.pointer none, .int .i64 0] w fun e w' => e = .returned (.tuple #[.int .i64 0, .int .i64 2]) ∧ Below w.heap.size w w' := by
  have c := fun h fn cs ds W => ask_nil h fn cs ds W
  go_enter Try.func14, Try.ntmps14
  go_wp2_with (go_at_call 26; refine (c _ _ _ _ _).mono ?_; rintro e w1 ⟨rfl, hb1⟩)
  go_ret2
  exact ⟨rfl, ((Below.refl _ _).alloc (Nat.le_refl _) _).trans (hb1.mono (by simp))⟩
theorem len_nil (w : World) : Calls Try.prog 16 #[.pointer none] w fun e w' => e = .returned (.int .i64 0) ∧ Below w.heap.size w w' := by
  go_enter Try.func16, Try.ntmps16
  go_wp2
  go_ret
  exact ⟨rfl, Below.refl _ _⟩
theorem clear_nil (w : World) : Calls Try.prog 15 #[.pointer none] w fun e w' => e = .returned (.tuple #[]) ∧ Below w.heap.size w w' := by
  go_enter Try.func15, Try.ntmps15
  go_wp2
  go_end0
  exact ⟨rfl, Below.refl _ _⟩
theorem four_nil (a b c d a' b' c' d' : Int) (w : World) : Calls Try.prog 5 #[.pointer none, .agg #[.int .i64 a, .int .i64 b, .int .i64 c, .int .i64 d], .agg #[.int .i64 a', .int .i64 b', .int .i64 c', .int .i64 d']] w fun e w' => e = .returned (.tuple #[.int .i64 0, .int .i64 2]) ∧ Below w.heap.size w w' := by
  have c := fun v u W => rowsOf_same v u W
  go_enter Try.func5, Try.ntmps5
  go_wp2_with fail
  go_quiet ((go_at_call 19; exact Calls.quiet_of_same ((c _ _ _).mono fun e w' h => ⟨h.1, h.2⟩)))
  go_wp2
  go_ret2
  exact ⟨rfl, Go.below_drewN (((Below.refl _ _).alloc (Nat.le_refl _) _).alloc (by simp) _) _⟩
set_option maxRecDepth 100000 in
set_option maxHeartbeats 4000000 in
theorem walk (w : World) : Calls Try.prog 3 #[] w fun e w' => e = .returned (.bool true) ∧ Below w.heap.size w w' := by
  have c1 := Lib.hid two_nil; have c2 := Lib.hid four_nil; have c3 := Lib.hid rows_nil; have c4 := Lib.hid seek_nil; have c5 := Lib.hid byType_nil; have c6 := Lib.hid nothing_nil; have c7 := Lib.hid classes_nil; have c8 := Lib.hid new_nil; have c9 := Lib.hid put_nil; have c10 := Lib.hid has_nil; have c11 := Lib.hid drop_nil; have c12 := Lib.hid clear_nil; have c13 := Lib.hid len_nil
  go_enter Try.func3, Try.ntmps3
  go_wp2_with fail
  refine (c1.out _).mono ?_
  rintro e w1 ⟨rfl, h1⟩
  have H1 := h1
  clear h1
  go_wp2_with fail
  refine (c2.out _ _ _ _ _ _ _ _ _).mono ?_
  rintro e w2 ⟨rfl, h2⟩
  have H2 := more H1 h2
  clear h2
  go_wp2_with fail
  refine (c3.out _ _ _).mono ?_
  rintro e w3 ⟨rfl, h3⟩
  have H3 := (H2.alloc H2.size _).trans (h3.mono (by have := H2.size; simp; omega))
  clear h3
  go_wp2_with fail
  refine (c4.out _ _).mono ?_
  rintro e w4 ⟨rfl, h4⟩
  have H4 := more H3 h4
  clear h4
  go_wp2_with fail
  refine (c5.out _).mono ?_
  rintro e w5 ⟨rfl, h5⟩
  have H5 := more H4 h5
  clear h5
  go_wp2_with fail
  refine (c6.out _).mono ?_
  rintro e w6 ⟨rfl, h6⟩
  have H6 := more H5 h6
  clear h6
  go_wp2_with fail
  refine (c7.out _ _).mono ?_
  rintro e w7 ⟨rfl, h7⟩
  have H7 := more H6 h7
  clear h7
  go_wp2_with fail
  refine (c8.out _).mono ?_
  rintro e w8 ⟨rfl, h8⟩
  have H8 := more H7 h8
  clear h8
  go_wp2_with fail
  refine (c9.out _).mono ?_
  rintro e w9 ⟨rfl, h9⟩
  have H9 := more H8 h9
  clear h9
  go_wp2_with fail
  refine (c10.out _).mono ?_
  rintro e w10 ⟨rfl, h10⟩
  have H10 := more H9 h10
  clear h10
  go_wp2_with fail
  refine (c11.out _).mono ?_
  rintro e w11 ⟨rfl, h11⟩
  have H11 := more H10 h11
  clear h11
  go_wp2_with fail
  refine (c12.out _).mono ?_
  rintro e w12 ⟨rfl, h12⟩
  have H12 := more H11 h12
  clear h12
  go_wp2_with fail
  refine (c13.out _).mono ?_
  rintro e w13 ⟨rfl, h13⟩
  have H13 := more H12 h13
  clear h13
  go_wp2
  go_ret
  exact ⟨rfl, H13⟩

set_option maxRecDepth 100000 in
theorem lifted (os : Os) (started : os.Started) (H : Type) (enc : TypeId × Value → H) :
    ReturnsInHanded {} Try.checked os 3 .any (Rows.compareNamesSpec.pre6 enc Try.prog Try.f3 Rows.compareNamesRow.domain false) (Rows.compareNamesSpec.post enc Try.prog Try.f3 false true false false) := by
  refine returnsInHanded_of_change (C := Try.checked) own started (by kernel_rfl) Try.func3
    (ChangeSpec.witness6 (enc := enc) (C := Try.checked) false ⟨#[], #[], []⟩ 8 (by kernel_rfl) (by kernel_rfl) (by kernel_rfl) (by kernel_rfl)) ?_
  intro W base args ds gs before hval0 hW hcnd _
  have hval : ∀ (j : Nat) t v, Try.f3.params[j]? = some t → args[j]? = some v → Value.okWide Try.prog W .any base t v := hval0
  have hW' := hW
  obtain ⟨p, q, hA0, hV, rfl, hfz, hnd⟩ := hW
  have hA : DataW.TrodAll enc Try.prog W 0 (fun _ => true) true Try.f3.params.toList args.toList ds p := hA0
  rw [Try.params3] at hA hval
  obtain ⟨rfl, rfl, rfl⟩ := trodAll_none hA
  obtain ⟨rfl, rfl⟩ := trodVars_none hV
  clear hA0 hval0
  simp only [List.append_nil] at hW'
  refine (walk W).mono ?_
  rintro e W' ⟨rfl, hb⟩
  have e1 : Rows.compareNamesSpec.fn H ([] ++ []) = { results := [.lit (.bool true)], args := [] } := rfl
  refine ⟨_, rfl, _, _, _, [], [], [], hW', ?_, ?_, ?_, hb.frame _, fun h => by cases h⟩
  · rw [e1]; exact trodAll_cons_mk (shut_bool Try.underlying4 _) trodAll_mk0
  · rw [e1]; exact trodAll_mk0
  · rw [e1]; rfl

theorem over : Rows.compareNamesRow.holds Try.pinned (OpenSpec.ofChange Rows.compareNamesSpec) :=
  OpenClaim.holds_of_wide 3 Try.f3 rfl rfl rfl rfl rfl rfl rfl ⟨rfl, rfl, rfl, rfl, rfl⟩ rfl rfl rfl rfl rfl (by kernel_rfl) Try.func3 (by kernel_rfl)
    (of_decide_eq_true (by kernel_rfl)) (by unfold Func.isWrapper; first | (rw [if_pos (by decide +kernel)]; kernel_rfl) | (rw [if_neg (by decide +kernel)]; exact ⟨rfl, rfl⟩))
    (fun os started H enc _ => lifted os started H enc)

theorem proved : Rows.CompareNamesSaid :=
  over
#print axioms proved
end Go.Proofs.Ytknghnlhliieaaa.compareNames
