/-
  PROVED: erratalaw01.TextSmalls answers true for every int16 n and all int8 a, b: Low, Near, Sum and Turn of package text answer what the document's definition answers.
  CONDITIONS: none.
-/
import Derived.Test.YtdfpilphepejeaaRows
import Derived.WalkKit
import Derived.ProofKit
import Derived.OpenShut
namespace Go.Proofs.Ytdfpilphepejeaa.textSmalls
open Go.ChangeShapes Go.WideShapes Go.ChangeAt Go.RowKit
set_option linter.unusedVariables false      -- a walk need not use every 'w<i>' (that an integer argument fits its kind)

theorem own : ownKnob Try.prog.godebug = none := by kernel_rfl


/-- what a number comes to in eight bits -/
def wr8 (n : Int) : Int := IntKind.i8.wrap n
theorem wr8_def (n : Int) : wr8 n = if n % 256 ≥ 128 then n % 256 - 256 else n % 256 := by
  unfold wr8 IntKind.wrap; simp [IntKind.bits, IntKind.signed]
theorem wr8_eq (m : Int) : IntKind.i8.wrap m = wr8 m := rfl
theorem wr8_same (m : Int) (a : -128 ≤ m) (b : m ≤ 127) : wr8 m = m := by rw [wr8_def]; split <;> omega
theorem wr8_bd (m : Int) : -128 ≤ wr8 m ∧ wr8 m ≤ 127 := by rw [wr8_def]; split <;> omega
theorem wr8_up (m : Int) : wr8 (m + 256) = wr8 m := by rw [wr8_def, wr8_def]; (repeat' split) <;> omega
theorem wr8_down (m : Int) : wr8 (m - 256) = wr8 m := by rw [wr8_def, wr8_def]; (repeat' split) <;> omega
theorem tm (n : Int) : n.tmod 256 = if 0 ≤ n then n % 256 else -((-n) % 256) := by
  split
  · exact Int.tmod_eq_emod_of_nonneg ‹_›
  · have h : n = -(-n) := by omega
    rw [h, Int.neg_tmod, Int.tmod_eq_emod_of_nonneg (by omega)]; simp
theorem tm_bd (n : Int) : -255 ≤ n.tmod 256 ∧ n.tmod 256 ≤ 255 := by rw [tm]; split <;> omega
theorem wr8_tm (n : Int) : wr8 (n.tmod 256) = wr8 n := by rw [tm, wr8_def, wr8_def]; (repeat' split) <;> omega
theorem ret_int {k : IntKind} {a b : Int} (h : a = b) : Ending.returned (.int k a) = .returned (.int k b) := by rw [h]

theorem ret_both {k : IntKind} {a b : Int} {x y : Bool} (h : a = b) (g : x = y) : Ending.returned (.tuple #[.int k a, .bool x]) = .returned (.tuple #[.int k b, .bool y]) := by rw [h, g]

theorem f13 (n : Int) (h1 : -70000 ≤ n) (h2 : n ≤ 70000) (w : World) :
    Calls Try.prog 13 #[.int .i64 n] w fun e w' => e = .returned (.int .i8 (wr8 n)) ∧ w = w' := by
  obtain ⟨b1, b2⟩ := tm_bd n
  by_cases c1 : n.tmod 256 < -128
  · have c2 : n.tmod 256 + 256 ≤ 127 := by omega
    go_enter Try.func13, Try.ntmps13
    go_wp2
    go_ret
    refine ⟨ret_int ?_, rfl⟩
    first | rfl | (rw [← wr8_tm n, ← wr8_up (n.tmod 256)]; first | exact (wr8_same _ (by omega) (by omega)).symm | rfl)
  · by_cases c2 : 127 < n.tmod 256
    · have c3 : -128 ≤ n.tmod 256 - 256 := by omega
      go_enter Try.func13, Try.ntmps13
      go_wp2
      go_ret
      refine ⟨ret_int ?_, rfl⟩
      rw [← wr8_tm n, ← wr8_down (n.tmod 256)]; first | exact (wr8_same _ (by omega) (by omega)).symm | rfl
    · go_enter Try.func13, Try.ntmps13
      go_wp2
      go_ret
      refine ⟨ret_int ?_, rfl⟩
      rw [← wr8_tm n]; first | exact (wr8_same _ (by omega) (by omega)).symm | rfl
theorem f7 (n : Int) (w : World) :
    Calls Try.prog 7 #[.int .i16 n] w fun e w' => e = .returned (.int .i8 (wr8 n)) ∧ w = w' := by
  go_enter Try.func7, Try.ntmps7
  go_wp2
  go_ret
  exact ⟨rfl, rfl⟩
theorem f11 (n : Int) (h1 : -32768 ≤ n) (h2 : n ≤ 32767) (w : World) :
    Calls Try.prog 11 #[.int .i16 n] w fun e w' => e = .returned (.int .i8 (wr8 n)) ∧ w = w' := by
  go_enter Try.func11, Try.ntmps11
  go_wp2_with ((with_reducible refine (f13 _ (by omega) (by omega) _).mono ?_); rintro e w' ⟨rfl, rfl⟩)
  go_ret
  exact ⟨rfl, rfl⟩
/-- the nearest number of eight bits -/
def near (n : Int) : Int := if n < -128 then -128 else if 127 < n then 127 else n
theorem f8 (n : Int) (h1 : -32768 ≤ n) (h2 : n ≤ 32767) (w : World) :
    Calls Try.prog 8 #[.int .i16 n] w fun e w' => e = .returned (.int .i8 (near n)) ∧ w = w' := by
  go_enter Try.func8, Try.ntmps8
  go_wp2
  all_goals
    go_ret
    refine ⟨ret_int ?_, rfl⟩
    unfold near
    (repeat' split) <;> (try split at *) <;> omega
theorem f12 (n : Int) (h1 : -32768 ≤ n) (h2 : n ≤ 32767) (w : World) :
    Calls Try.prog 12 #[.int .i16 n] w fun e w' => e = .returned (.int .i8 (near n)) ∧ w = w' := by
  go_enter Try.func12, Try.ntmps12
  go_wp2
  all_goals
    go_ret
    refine ⟨ret_int ?_, rfl⟩
    unfold near
    (repeat' split) <;> (try split at *) <;> omega

/-- is the sum of two numbers none of eight bits? -/
def over8 (a b : Int) : Bool := decide (a + b < -128 ∨ 127 < a + b)
theorem f5 (a b : Int) (a1 : -128 ≤ a) (a2 : a ≤ 127) (b1 : -128 ≤ b) (b2 : b ≤ 127) (w : World) :
    Calls Try.prog 5 #[.int .i8 a, .int .i8 b] w fun e w' => e = .returned (.tuple #[.int .i8 (wr8 (a + b)), .bool (over8 a b)]) ∧ w = w' := by
  obtain ⟨c1, c2⟩ := wr8_bd (a + b)
  go_enter Try.func5, Try.ntmps5
  go_wp2_with ((with_reducible refine (f7 _ _).mono ?_); rintro e w' ⟨rfl, rfl⟩)
  go_ret2
  refine ⟨ret_both rfl ?_, rfl⟩
  unfold over8
  rw [Bool.eq_iff_iff]; simp [wr8_def]; split <;> omega
theorem f9 (a b : Int) (a1 : -128 ≤ a) (a2 : a ≤ 127) (b1 : -128 ≤ b) (b2 : b ≤ 127) (w : World) :
    Calls Try.prog 9 #[.int .i8 a, .int .i8 b] w fun e w' => e = .returned (.tuple #[.int .i8 (wr8 (a + b)), .bool (over8 a b)]) ∧ w = w' := by
  go_enter Try.func9, Try.ntmps9
  go_wp2_with ((with_reducible refine (f13 _ (by omega) (by omega) _).mono ?_); rintro e w' ⟨rfl, rfl⟩)
  all_goals
    go_ret2
    refine ⟨ret_both rfl ?_, rfl⟩
    unfold over8
    first | (rw [Bool.eq_iff_iff]; simp; done) | (rw [Bool.eq_iff_iff]; simp; omega) | (symm; rw [decide_eq_true_iff]; omega)
/-- is there a number with the other sign in sixteen bits? -/
def turns (n : Int) : Bool := decide (n ≠ -32768)
def tn (n : Int) : Int := if n = -32768 then -32768 else -n
theorem f6 (n : Int) (h1 : -32768 ≤ n) (h2 : n ≤ 32767) (w : World) :
    Calls Try.prog 6 #[.int .i16 n] w fun e w' => e = .returned (.tuple #[.int .i16 (tn n), .bool (turns n)]) ∧ w = w' := by
  by_cases a : n = -32768
  · subst a
    go_enter Try.func6, Try.ntmps6
    go_wp2
    go_ret2
    exact ⟨ret_both (by decide +kernel) (by decide +kernel), rfl⟩
  · go_enter Try.func6, Try.ntmps6
    go_wp2
    go_ret2
    exact ⟨ret_both (by unfold tn; simp [a]) (by unfold turns; simp [a]), rfl⟩
theorem f10 (n : Int) (h1 : -32768 ≤ n) (h2 : n ≤ 32767) (w : World) :
    Calls Try.prog 10 #[.int .i16 n] w fun e w' => e = .returned (.tuple #[.int .i16 (tn n), .bool (turns n)]) ∧ w = w' := by
  by_cases a : n = -32768
  · subst a
    go_enter Try.func10, Try.ntmps10
    go_wp2
    go_ret2
    exact ⟨ret_both (by decide +kernel) (by decide +kernel), rfl⟩
  · go_enter Try.func10, Try.ntmps10
    go_wp2
    go_ret2
    exact ⟨ret_both (by unfold tn; simp [a]) (by unfold turns; simp [a]), rfl⟩

theorem walk (a0 : Int) (a1 : Int) (a2 : Int) (w0 : (Lit.int .i16 a0).wf = true) (w1 : (Lit.int .i8 a1).wf = true) (w2 : (Lit.int .i8 a2).wf = true) (w : World) :
    Calls Try.prog 4 #[.int .i16 a0, .int .i8 a1, .int .i8 a2] w fun e w' => e = .returned (.bool true) ∧ Grown w w' := by
  have k0 : -32768 ≤ a0 ∧ a0 ≤ 32767 := by simp [Lit.wf, IntKind.min, IntKind.max, IntKind.bits, IntKind.signed] at w0; omega
  have k1 : -128 ≤ a1 ∧ a1 ≤ 127 := by simp [Lit.wf, IntKind.min, IntKind.max, IntKind.bits, IntKind.signed] at w1; omega
  have k2 : -128 ≤ a2 ∧ a2 ≤ 127 := by simp [Lit.wf, IntKind.min, IntKind.max, IntKind.bits, IntKind.signed] at w2; omega
  obtain ⟨k01, k02⟩ := k0
  obtain ⟨k11, k12⟩ := k1
  obtain ⟨k21, k22⟩ := k2
  clear w0 w1 w2
  go_enter Try.func4, Try.ntmps4
  go_wp2_with (first
    | (go_at_call 5; refine (f5 _ _ k11 k12 k21 k22 _).mono ?_; rintro e w' ⟨rfl, rfl⟩)
    | (go_at_call 9; refine (f9 _ _ k11 k12 k21 k22 _).mono ?_; rintro e w' ⟨rfl, rfl⟩)
    | (go_at_call 6; refine (f6 _ k01 k02 _).mono ?_; rintro e w' ⟨rfl, rfl⟩)
    | (go_at_call 10; refine (f10 _ k01 k02 _).mono ?_; rintro e w' ⟨rfl, rfl⟩)
    | (go_at_call 7; refine (f7 _ _).mono ?_; rintro e w' ⟨rfl, rfl⟩)
    | (go_at_call 11; refine (f11 _ k01 k02 _).mono ?_; rintro e w' ⟨rfl, rfl⟩)
    | (go_at_call 8; refine (f8 _ k01 k02 _).mono ?_; rintro e w' ⟨rfl, rfl⟩)
    | (go_at_call 12; refine (f12 _ k01 k02 _).mono ?_; rintro e w' ⟨rfl, rfl⟩))
  go_ret
  exact ⟨rfl, by repeat (first | exact Grown.refl _ | apply Grown.drew | apply Grown.alloc)⟩

/-! ### THE ROW's STEP: WRITTEN OUT: LEAVE IT -/
set_option maxRecDepth 100000 in
theorem lifted (os : Os) (started : os.Started) (H : Type) (enc : TypeId × Value → H) :
    ReturnsInHanded {} Try.checked os 4 .any (Rows.textSmallsSpec.pre6 enc Try.prog Try.f4 Rows.textSmallsRow.domain false) (Rows.textSmallsSpec.post enc Try.prog Try.f4 false true false false) := by
  refine returnsInHanded_of_change (C := Try.checked) own started (by kernel_rfl) Try.func4
    (ChangeSpec.witness6 (enc := enc) (C := Try.checked) false ⟨#[], #[.int .i16 0, .int .i8 0, .int .i8 0], []⟩ 8 (by kernel_rfl) (by kernel_rfl) (by kernel_rfl) (by kernel_rfl)) ?_
  intro W base args ds gs before hval0 hW hcnd _
  have hval : ∀ (j : Nat) t v, Try.f4.params[j]? = some t → args[j]? = some v → Value.okWide Try.prog W .any base t v := hval0
  have hW' := hW
  obtain ⟨p, q, hA0, hV, rfl, hfz, hnd⟩ := hW
  have hA : DataW.TrodAll enc Try.prog W 0 (fun _ => true) true Try.f4.params.toList args.toList ds p := hA0
  rw [Try.params4] at hA hval
  obtain ⟨v0, vs0, d0, ds0, p0, q0, hargs, rfl, rfl, h0, r0⟩ := trodAll_cons hA
  obtain ⟨v1, vs1, d1, ds1, p1, q1, rfl, rfl, rfl, h1, r1⟩ := trodAll_cons r0
  obtain ⟨v2, vs2, d2, ds2, p2, q2, rfl, rfl, rfl, h2, r2⟩ := trodAll_cons r1
  obtain ⟨rfl, rfl, rfl⟩ := trodAll_nil r2
  obtain rfl : args = #[v0, v1, v2] := by cases args; simp_all
  obtain ⟨rfl, rfl⟩ := trodVars_none hV
  obtain ⟨a0, rfl, rfl, rfl, w0⟩ := open_int Try.underlying25 (hval 0 25 v0 rfl rfl) h0
  obtain ⟨a1, rfl, rfl, rfl, w1⟩ := open_int Try.underlying22 (hval 1 22 v1 rfl rfl) h1
  obtain ⟨a2, rfl, rfl, rfl, w2⟩ := open_int Try.underlying22 (hval 2 22 v2 rfl rfl) h2
  clear hA0 hval0
  simp only [List.append_nil] at hW'
  refine (walk a0 a1 a2 w0 w1 w2 W).mono fun e W' ⟨he, hg⟩ => ?_
  subst he
  exact ⟨_, rfl, post_of_same (pa := []) (pv := []) hW' (fun _ _ _ => (trodAll_cons_mk (shut_bool Try.underlying4 _) trodAll_mk0)) (fun sp _ => (trodAll_cons_mk (shut_int Try.underlying25 w0) (trodAll_cons_mk (shut_int Try.underlying22 w1) (trodAll_cons_mk (shut_int Try.underlying22 w2) trodAll_mk0)))) (fun _ _ => rfl) rfl
    (hg.frame _) hg.2.1 (ok_one (by kernel_rfl) rfl (okWide_bool_mk Try.underlying4 _))⟩

theorem over : Rows.textSmallsRow.holds Try.pinned (OpenSpec.ofChange Rows.textSmallsSpec) :=
  OpenClaim.holds_of_wide 4 Try.f4 rfl rfl rfl rfl rfl rfl rfl ⟨rfl, rfl, rfl, rfl, rfl⟩ rfl rfl rfl rfl rfl (by kernel_rfl) Try.func4 (by kernel_rfl)
    (of_decide_eq_true (by kernel_rfl)) (by unfold Func.isWrapper; first | (rw [if_pos (by decide +kernel)]; kernel_rfl) | (rw [if_neg (by decide +kernel)]; exact ⟨rfl, rfl⟩))
    (fun os started H enc _ => lifted os started H enc)

/-- ████ THE STATEMENT ████ -/
theorem proved : Rows.TextSmallsSaid :=
  over
#print axioms proved
end Go.Proofs.Ytdfpilphepejeaa.textSmalls
