/-
  PROVED: erratalaw06.FacesNone answers true (a closed statement: what package faces answers of no book, and of a road that is too long or has what is no face).
  CONDITIONS: none.
-/
import Derived.Test.YtobpmjphakkekaaNoneC
namespace Go.Proofs.Ytobpmjphakkekaa.facesNone
open Go.ChangeShapes Go.WideShapes Go.ChangeAt Go.RowKit
set_option linter.unusedVariables false
attribute [local go_sem] run_store_float

theorem nm_some (k : Nat) (h1 : 1 ≤ k) (h2 : k ≤ 19) : ∃ s : ByteArray, nmArr[k]? = some (.string s) ∧ s.toList.isEmpty = false := by
  have h : k = 1 ∨ k = 2 ∨ k = 3 ∨ k = 4 ∨ k = 5 ∨ k = 6 ∨ k = 7 ∨ k = 8 ∨ k = 9 ∨ k = 10 ∨ k = 11 ∨ k = 12 ∨ k = 13 ∨ k = 14 ∨ k = 15 ∨ k = 16 ∨ k = 17 ∨ k = 18 ∨ k = 19 := by omega
  rcases h with rfl | rfl | rfl | rfl | rfl | rfl | rfl | rfl | rfl | rfl | rfl | rfl | rfl | rfl | rfl | rfl | rfl | rfl | rfl
  all_goals exact ⟨_, rfl, by decide +kernel⟩
set_option maxRecDepth 100000 in
theorem named_in (w : World) : Calls Try.prog 10 #[.string ⟨#[]⟩] w fun e w' => e = .returned (.tuple #[.int .u8 0, .bool false]) ∧ Below w.heap.size w w' := by
  go_enter Try.func10, Try.ntmps10
  go_wp2
  go_loopw [4] (fun i wr => ∃ k : Nat, 1 ≤ k ∧ k ≤ 20 ∧ i = .int .u8 (k : Int) ∧ Below w.heap.size w wr) (fun i _ => 20 - (RowKit.intOf i).toNat)
  case atStart => exact ⟨1, by omega, by omega, rfl, Below.refl _ _⟩
  case round =>
    obtain ⟨k, h1, h2, rfl, hb⟩ := hrel
    by_cases h : k ≤ 19
    · obtain ⟨s, hs, hne⟩ := nm_some k h1 h
      have c := fun W => nameOf_in k s h1 h hs W
      have hN : decide ((k : Int) ≤ 19) = true := by simp; omega
      go_wp2_with (go_at_call 19; refine (c _).mono ?_; rintro e w1 ⟨rfl, hb1⟩)
      go_roundw
      case rel => exact ⟨k + 1, by omega, by omega, by go_num, hb.trans (hb1.mono hb.size)⟩
      case measure => simp [RowKit.intOf]; omega
    · have hN : decide ((k : Int) ≤ 19) = false := by simp; omega
      go_wp2
      go_ret2
      exact ⟨rfl, hb⟩
theorem new_in (w : World) : Calls Try.prog 11 #[] w fun e w' => e = .returned (.pointer (some ⟨w.heap.size, 0, none⟩)) ∧ w' = w.alloc (.cells #[.slice none 0 0] 59) := by
  go_enter Try.func11, Try.ntmps11
  go_wp2
  go_ret
  exact ⟨rfl, rfl⟩
theorem mk65 (W : World) : (Instr.makeSlice 34 (.int .i64 65) (.int .i64 65)).run Try.prog W = .ok (.slice (some ⟨W.heap.size, 0, none⟩) 65 65) (W.alloc (.cells (Array.replicate 65 (.int .u8 0)) 5)) := by kernel_rfl
theorem mk64 (W : World) : (Instr.makeSlice 34 (.int .i64 64) (.int .i64 64)).run Try.prog W = .ok (.slice (some ⟨W.heap.size, 0, none⟩) 64 64) (W.alloc (.cells (Array.replicate 64 (.int .u8 0)) 5)) := by kernel_rfl
set_option maxRecDepth 100000 in
set_option maxHeartbeats 4000000 in
theorem walk (w : World) : Calls Try.prog 3 #[] w fun e w' => e = .returned (.bool true) ∧ Below w.heap.size w w' := by
  have c1 := Lib.hid holds_nil; have c2 := Lib.hid assert_nil; have c3 := Lib.hid held_nil; have c4 := Lib.hid road_nil; have c5 := Lib.hid which_nil; have c6 := Lib.hid shared_nil; have c7 := Lib.hid named_in; have c8 := Lib.hid new_in; have c9 := Lib.hid road_long; have c10 := Lib.hid road_none; have c11 := Lib.hid road_one
  go_enter Try.func3, Try.ntmps3
  go_wp2_with fail
  refine (c1.out _).mono ?_
  rintro e w1 ⟨rfl, h1⟩
  go_wp2_with fail
  refine (c2.out _).mono ?_
  rintro e w2 ⟨rfl, h2⟩
  have H2 := more h1 h2
  clear h1 h2
  have H2a := H2.alloc H2.size (.cells #[.int .i64 0, .string ⟨#[]⟩, .int .i64 0] 26)
  go_wp2_with fail
  refine (c3.out _).mono ?_
  rintro e w3 ⟨rfl, h3⟩
  have H3 := more H2a h3
  clear h3 H2 H2a
  have H3a := H3.alloc H3.size (.cells #[.int .u8 99] 5)
  go_wp2_with fail
  refine (c4.out _ _).mono ?_
  rintro e w4 ⟨rfl, h4⟩
  have H4 := more H3a h4
  clear h4 H3 H3a
  go_wp2_with fail
  refine (c5.out _).mono ?_
  rintro e w5 ⟨rfl, h5⟩
  have H5 := more H4 h5
  clear h5 H4
  have H5a := H5.alloc H5.size (.cells #[.int .i64 9] 3)
  go_wp2_with fail
  refine (c6.out _ _).mono ?_
  rintro e w6 ⟨rfl, h6⟩
  have H6 := more H5a h6
  clear h6 H5 H5a
  go_wp2_with fail
  refine (c7.out _).mono ?_
  rintro e w7 ⟨rfl, h7⟩
  have H7 := more H6 h7
  clear h7 H6
  go_wp2_with fail
  refine (c8.out _).mono ?_
  rintro e w8 ⟨rfl, rfl⟩
  have H8 := H7.alloc H7.size (.cells #[.slice none 0 0] 59)
  have k8 : (w7.alloc (.cells #[.slice none 0 0] 59)).cell? ⟨w7.heap.size, 0, none⟩ = some (.slice none 0 0) := by simp
  have hb8 : w7.heap.size < (w7.alloc (.cells #[.slice none 0 0] 59)).heap.size := by simp
  generalize w7.heap.size = b at *
  generalize w7.alloc (.cells #[.slice none 0 0] 59) = w8 at *
  have m65 := mk65
  have m64 := mk64
  have hz8 := H8.size
  go_wp2_with fail
  refine (c9.out _ _ _).mono ?_
  rintro e w9 ⟨rfl, h9⟩
  have h9a : Below w8.heap.size w8 w9 := ((Below.refl _ _).alloc (Nat.le_refl _) (.cells (Array.replicate 65 (.int .u8 0)) 5)).trans (h9.mono (by simp))
  clear h9
  have k10 : (w9.alloc (.cells (Array.replicate 64 (.int .u8 0)) 5)).cell? ⟨w9.heap.size, 0, none⟩ = some (.int .u8 0) := by
    rw [World.cell?_alloc_at _ _ _ _ rfl]; rfl
  go_wp2_with fail
  refine (c10.out _ _ _ k10).mono ?_
  rintro e w10 ⟨rfl, h10⟩
  have h10a : Below w8.heap.size w8 w10 := (h9a.alloc h9a.size (.cells (Array.replicate 64 (.int .u8 0)) 5)).trans (h10.mono (by have := h9a.size; simp; omega))
  clear h10
  have k11 : (w10.alloc (.cells (Array.replicate 65 (.int .u8 0)) 5)).cell? ⟨b, 0, none⟩ = some (.slice none 0 0) := ((h10a.alloc h10a.size (.cells (Array.replicate 65 (.int .u8 0)) 5)).cell (p := ⟨b, 0, none⟩) hb8).trans k8
  go_wp2_with fail
  refine (c11.out _ _ _ k11).mono ?_
  rintro e w11 ⟨rfl, h11⟩
  have h11a : Below w8.heap.size w8 w11 := (h10a.alloc h10a.size (.cells (Array.replicate 65 (.int .u8 0)) 5)).trans (h11.mono (by have := h10a.size; simp; omega))
  clear h11
  have H11 := more H8 h11a
  go_wp2
  go_ret
  exact ⟨rfl, H11⟩

set_option maxRecDepth 100000 in
theorem lifted (os : Os) (started : os.Started) (H : Type) (enc : TypeId × Value → H) :
    ReturnsInHanded {} Try.checked os 3 .any (Rows.facesNoneSpec.pre6 enc Try.prog Try.f3 Rows.facesNoneRow.domain false) (Rows.facesNoneSpec.post enc Try.prog Try.f3 false true false false) := by
  refine returnsInHanded_of_change (C := Try.checked) own started (by kernel_rfl) Try.func3
    (ChangeSpec.witness6 (enc := enc) (C := Try.checked) false ⟨#[], #[], []⟩ 8 (by kernel_rfl) (by kernel_rfl) (by kernel_rfl) (by kernel_rfl)) ?_
  intro W base args ds gs before hval0 hW hcnd _
  have hval : ∀ (j : Nat) t v, Try.f3.params[j]? = some t → args[j]? = some v → Value.okWide Try.prog W .any base t v := hval0
  have hW' := hW
  obtain ⟨p, q, hA0, hV, rfl, hfz, hnd⟩ := hW
  have hA : DataW.TrodAll enc Try.prog W 0 (fun _ => true) true Try.f3.params.toList args.toList ds p := hA0
  rw [Try.params3] at hA hval
  obtain ⟨rfl, rfl, rfl⟩ := trodAll_none hA
  obtain ⟨rfl, rfl⟩ := trodVars_none hV
  clear hA0 hval0
  simp only [List.append_nil] at hW'
  refine (walk W).mono ?_
  rintro e W' ⟨rfl, hb⟩
  have e1 : Rows.facesNoneSpec.fn H ([] ++ []) = { results := [.lit (.bool true)], args := [] } := rfl
  refine ⟨_, rfl, _, _, _, [], [], [], hW', ?_, ?_, ?_, hb.frame _, fun h => by cases h⟩
  · rw [e1]; exact trodAll_cons_mk (shut_bool Try.underlying4 _) trodAll_mk0
  · rw [e1]; exact trodAll_mk0
  · rw [e1]; rfl

theorem over : Rows.facesNoneRow.holds Try.pinned (OpenSpec.ofChange Rows.facesNoneSpec) :=
  OpenClaim.holds_of_wide 3 Try.f3 rfl rfl rfl rfl rfl rfl rfl ⟨rfl, rfl, rfl, rfl, rfl⟩ rfl rfl rfl rfl rfl (by kernel_rfl) Try.func3 (by kernel_rfl)
    (of_decide_eq_true (by kernel_rfl)) (by unfold Func.isWrapper; first | (rw [if_pos (by decide +kernel)]; kernel_rfl) | (rw [if_neg (by decide +kernel)]; exact ⟨rfl, rfl⟩))
    (fun os started H enc _ => lifted os started H enc)

theorem proved : Rows.FacesNoneSaid :=
  over
#print axioms proved
end Go.Proofs.Ytobpmjphakkekaa.facesNone
