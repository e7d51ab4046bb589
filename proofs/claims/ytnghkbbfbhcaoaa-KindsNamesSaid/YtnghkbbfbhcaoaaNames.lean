/-
  PROVED: erratalaw04.KindsNames answers true (a closed statement: what is no spec, how many parts an Opaque may have, the numbers).
  CONDITIONS: none.
-/
import Derived.Test.YtnghkbbfbhcaoaaRows
import Derived.WalkKit
import Derived.ProofKit
import Derived.OpenShut
import Derived.Outline
import Derived.LoopTactic
import Derived.Lib.Hide
import Derived.WalkLawsBesides
import Derived.WalkSpells
import Derived.Laws.EntriesVeiled
namespace Go.Proofs.Ytnghkbbfbhcaoaa.kindsNames
open Go.ChangeShapes Go.WideShapes Go.ChangeAt Go.RowKit
set_option linter.unusedVariables false

theorem own : ownKnob Try.prog.godebug = none := by kernel_rfl
theorem grown_trans {a b c : World} (h : Grown a b) (k : Grown b c) : Grown a c := ⟨World.keptBut_trans h.1 k.1, fun x => (k.2.1 x).trans (h.2.1 x), Nat.le_trans h.2.2 k.2.2⟩
theorem run_store_float (P : Program) (w : World) (a : Addr) (m : Mode) (k : FloatKind) (b) : (store a (.float k b) m).run P w = stored P w a (.float k b) m := run_store P w a _ m rfl
attribute [local go_sem] run_store_float

def spec (k : Int) (parts : Value) : Value := .agg #[.int .u8 k, .bool false, .string ⟨#[]⟩, .int .i16 0, .int .i8 0, .float .f64 0, .float .f64 0, .bool false, .int .u32 0, .slice none 0 0, parts]
set_option maxRecDepth 100000 in
theorem fits_in (k : Int) (a : Option Addr) (n c : Nat) (w : World) : Calls Try.prog 14 #[spec k (.slice a n c)] w fun e w' => e = .returned (.bool true) ∧ w' = w.alloc (.cells #[.int .u8 k, .bool false, .string ⟨#[]⟩, .int .i16 0, .int .i8 0, .float .f64 0, .float .f64 0, .bool false, .int .u32 0, .slice none 0 0, .slice a n c] 34) := by
  unfold spec
  go_enter Try.func14, Try.ntmps14
  go_wp2
  refine wp_loop_rounds 1 ?_
  rw [rounds_succ]
  go_wp2
  go_ret
  exact ⟨rfl, rfl⟩
theorem bits0 (W : World) : (callFunc 29 #[.float .f64 0]).run Try.prog W = .ok (.value (.int .u64 0)) W := by kernel_rfl
set_option maxRecDepth 100000 in
set_option maxHeartbeats 4000000 in
theorem make0 (w : World) : Calls Try.prog 4 #[spec 0 (.slice none 0 0), .slice none 0 0] w fun e w' => e = .returned (.tuple #[.nilIface, .int .i64 40]) ∧ Grown w w' := by
  have cF := fun W => fits_in 0 none 0 0 W
  have cB := bits0
  unfold spec at *
  go_enter Try.func4, Try.ntmps4
  go_wp2_with (first | (go_at_call 14; refine (cF _).mono ?_; rintro e w1 ⟨rfl, rfl⟩) | go_in)
  go_ret2
  exact ⟨rfl, by repeat (first | exact Grown.refl _ | apply Grown.drew | apply Grown.alloc)⟩
set_option maxRecDepth 100000 in
set_option maxHeartbeats 4000000 in
theorem make27 (w : World) : Calls Try.prog 4 #[spec 27 (.slice none 0 0), .slice none 0 0] w fun e w' => e = .returned (.tuple #[.nilIface, .int .i64 40]) ∧ Grown w w' := by
  have cF := fun W => fits_in 27 none 0 0 W
  have cB := bits0
  unfold spec at *
  go_enter Try.func4, Try.ntmps4
  go_wp2_with (first | (go_at_call 14; refine (cF _).mono ?_; rintro e w1 ⟨rfl, rfl⟩) | go_in)
  go_ret2
  exact ⟨rfl, by repeat (first | exact Grown.refl _ | apply Grown.drew | apply Grown.alloc)⟩
set_option maxRecDepth 100000 in
set_option maxHeartbeats 4000000 in
theorem make1 (p : Option Addr) (w : World) : Calls Try.prog 4 #[spec 1 (.slice p 1 1), .slice none 0 0] w fun e w' => e = .returned (.tuple #[.nilIface, .int .i64 41]) ∧ Grown w w' := by
  have cF := fun W => fits_in 1 p 1 1 W
  have cB := bits0
  unfold spec at *
  go_enter Try.func4, Try.ntmps4
  go_wp2_with (first | (go_at_call 14; refine (cF _).mono ?_; rintro e w1 ⟨rfl, rfl⟩) | go_in)
  go_ret2
  exact ⟨rfl, by repeat (first | exact Grown.refl _ | apply Grown.drew | apply Grown.alloc)⟩
set_option maxRecDepth 100000 in
set_option maxHeartbeats 4000000 in
theorem make14 (p : Option Addr) (w : World) : Calls Try.prog 4 #[spec 14 (.slice p 1 1), .slice none 0 0] w fun e w' => e = .returned (.tuple #[.nilIface, .int .i64 41]) ∧ Grown w w' := by
  have cF := fun W => fits_in 14 p 1 1 W
  have cB := bits0
  unfold spec at *
  go_enter Try.func4, Try.ntmps4
  go_wp2_with (first | (go_at_call 14; refine (cF _).mono ?_; rintro e w1 ⟨rfl, rfl⟩) | go_in)
  go_ret2
  exact ⟨rfl, by repeat (first | exact Grown.refl _ | apply Grown.drew | apply Grown.alloc)⟩
set_option maxRecDepth 100000 in
theorem walk (w : World) : Calls Try.prog 3 #[] w fun e w' => e = .returned (.bool true) ∧ Grown w w' := by
  have c0 := make0
  have c27 := make27
  have c1 := make1
  have c14 := make14
  unfold spec at *
  have h0 := Lib.hid c0
  have h27 := Lib.hid c27
  have h1 := Lib.hid c1
  have h14 := Lib.hid c14
  clear c0 c27 c1 c14
  go_enter Try.func3, Try.ntmps3
  go_wp2_with fail
  refine (h0.out _).mono ?_
  rintro e w1 ⟨rfl, hg1⟩
  go_wp2_with fail
  refine (h27.out _).mono ?_
  rintro e w2 ⟨rfl, hg2⟩
  go_wp2_with fail
  refine (h1.out _ _).mono ?_
  rintro e w3 ⟨rfl, hg3⟩
  go_wp2_with fail
  refine (h14.out _ _).mono ?_
  rintro e w4 ⟨rfl, hg4⟩
  go_wp2
  go_ret
  refine ⟨rfl, ?_⟩
  exact grown_trans hg1 (grown_trans hg2 (grown_trans ((Grown.refl _).alloc _ _) (grown_trans hg3 (grown_trans ((Grown.refl _).alloc _ _) hg4))))

/-! ### THE ROW's STEP: WRITTEN OUT: LEAVE IT -/
set_option maxRecDepth 100000 in
theorem lifted (os : Os) (started : os.Started) (H : Type) (enc : TypeId × Value → H) :
    ReturnsInHanded {} Try.checked os 3 .any (Rows.kindsNamesSpec.pre6 enc Try.prog Try.f3 Rows.kindsNamesRow.domain false) (Rows.kindsNamesSpec.post enc Try.prog Try.f3 false true false false) := by
  refine returnsInHanded_of_change (C := Try.checked) own started (by kernel_rfl) Try.func3
    (ChangeSpec.witness6 (enc := enc) (C := Try.checked) false ⟨#[], #[], []⟩ 8 (by kernel_rfl) (by kernel_rfl) (by kernel_rfl) (by kernel_rfl)) ?_
  intro W base args ds gs before hval0 hW hcnd _
  have hval : ∀ (j : Nat) t v, Try.f3.params[j]? = some t → args[j]? = some v → Value.okWide Try.prog W .any base t v := hval0
  have hW' := hW
  obtain ⟨p, q, hA0, hV, rfl, hfz, hnd⟩ := hW
  have hA : DataW.TrodAll enc Try.prog W 0 (fun _ => true) true Try.f3.params.toList args.toList ds p := hA0
  rw [Try.params3] at hA hval
  obtain ⟨rfl, rfl, rfl⟩ := trodAll_none hA
  obtain ⟨rfl, rfl⟩ := trodVars_none hV
  clear hA0 hval0
  simp only [List.append_nil] at hW'
  refine (walk  W).mono fun e W' ⟨he, hg⟩ => ?_
  subst he
  exact ⟨_, rfl, post_of_same (pa := []) (pv := []) hW' (fun _ _ _ => (trodAll_cons_mk (shut_bool Try.underlying4 _) trodAll_mk0)) (fun sp _ => rfl) (fun _ _ => rfl) rfl
    (hg.frame _) hg.2.1 (ok_one (by kernel_rfl) rfl (okWide_bool_mk Try.underlying4 _))⟩

theorem over : Rows.kindsNamesRow.holds Try.pinned (OpenSpec.ofChange Rows.kindsNamesSpec) :=
  OpenClaim.holds_of_wide 3 Try.f3 rfl rfl rfl rfl rfl rfl rfl ⟨rfl, rfl, rfl, rfl, rfl⟩ rfl rfl rfl rfl rfl (by kernel_rfl) Try.func3 (by kernel_rfl)
    (of_decide_eq_true (by kernel_rfl)) (by unfold Func.isWrapper; first | (rw [if_pos (by decide +kernel)]; kernel_rfl) | (rw [if_neg (by decide +kernel)]; exact ⟨rfl, rfl⟩))
    (fun os started H enc _ => lifted os started H enc)

/-- ████ THE STATEMENT ████ -/
theorem proved : Rows.KindsNamesSaid :=
  over
#print axioms proved
end Go.Proofs.Ytnghkbbfbhcaoaa.kindsNames
