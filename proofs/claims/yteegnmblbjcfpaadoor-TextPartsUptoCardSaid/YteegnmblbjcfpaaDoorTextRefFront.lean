/-
  errataref01.Front.
-/
import Derived.LoopTactic
import Derived.Test.YteegnmblbjcfpaaDoorTextUnqWalk
set_option linter.unusedVariables false
namespace Go.Proofs.YteegnmblbjcfpaaDoor.T
open Go Go.Lib Go.RowKit Go.Shelf

set_option maxRecDepth 100000 in
set_option maxHeartbeats 2000000 in
theorem refFront_in (s : ByteArray) (hs : s.size ≤ 16777216) (w : World) :
    Calls Tryd.prog 22 #[.string s] w fun e w' => e = .returned (frV (frR s)) ∧ Below w.heap.size w w' := by
  have hU0 : frR s = if s.size ≤ scF s s.size 1 then none else
    match unR (s.extract 0 (scF s s.size 1 + 1)) with
    | none => none
    | some u => some (u, scF s s.size 1 + 1) := rfl
  generalize frR s = V at *
  generalize hE : scF s s.size 1 = E at *
  have HE := Lib.hid hE
  have HU := Lib.hid hU0
  clear hE hU0
  go_enter Tryd.func22, Tryd.ntmps22
  go_wp2
  go_loop [5] (fun i => ∃ (f k : Nat), i = .int .i64 k ∧ k ≤ s.size + 1 ∧ s.size ≤ k + f ∧ scF s f k = E) (fun i => s.size + 1 - (RowKit.intOf i).toNat)
  case atStart => exact ⟨s.size, 1, rfl, by omega, by omega, HE.out⟩
  case round =>
    obtain ⟨f, k, rfl, hk, hf, hr⟩ := hrel
    by_cases hlt : k < s.size
    · obtain ⟨f, rfl⟩ : ∃ j, f = j + 1 := ⟨f - 1, by omega⟩
      have ix0 := fun W : World => idx_at s k (k : Int) rfl (by omega) W
      unfold scF at hr
      by_cases a1 : bt s k = 34
      · have b1 : ((bt s k : Int) != 34) = false := by rw [a1]; rfl
        rw [if_neg (fun h => h.2 a1)] at hr
        subst hr
        have hU1 := HU.out
        rw [if_neg (by omega)] at hU1
        have hQ := fun W => refUnquote_in (s.extract 0 (k + 1)) (by simp; omega) W
        have hsl : ∀ W : World, (Instr.slice 9 (.string s) none (some (.int .i64 ((k : Int) + 1))) none).run Tryd.prog W = .ok (.string (s.extract 0 (k + 1))) W := fun W => by
          rw [run_slice_string_to_if (P := Tryd.prog) W 9 s .i64 ((k : Int) + 1) Tryd.underlying9, if_pos (by omega), show ((k : Int) + 1).toNat = k + 1 by omega]
        generalize s.extract 0 (k + 1) = Q at *
        clear HU HE a1
        cases hu : unR Q with
        | none =>
          rw [hu] at hU1 hQ
          simp only [unV] at hU1 hQ
          have HU := Lib.hid hU1
          clear hU1 hu
          go_wp2_with (go_at_call 20; refine (hQ _).mono ?_; rintro e w2 ⟨rfl, hb2⟩)
          go_ret3
          rw [HU.out]
          exact ⟨rfl, hb2⟩
        | some u =>
          rw [hu] at hU1 hQ
          simp only [unV] at hU1 hQ
          have HU := Lib.hid hU1
          clear hU1 hu
          go_wp2_with (go_at_call 20; refine (hQ _).mono ?_; rintro e w2 ⟨rfl, hb2⟩)
          go_ret3
          rw [HU.out]
          exact ⟨rfl, hb2⟩
      · have b1 : ((bt s k : Int) != 34) = true := by rw [bne, beq_f (show ¬ ((bt s k : Int) = 34) from by omega)]; rfl
        rw [if_pos ⟨hlt, a1⟩] at hr
        by_cases a2 : bt s k = 92
        · have b2 : ((bt s k : Int) == 92) = true := by rw [a2]; rfl
          rw [if_pos a2] at hr
          have HR := Lib.hid hr
          clear hr a1 a2
          go_wp2
          go_round
          case rel => exact ⟨f, k + 2, by go_num, by omega, by omega, HR.out⟩
          case measure => simp [RowKit.intOf]; omega
        · have b2 : ((bt s k : Int) == 92) = false := beq_f (by omega)
          rw [if_neg a2] at hr
          have HR := Lib.hid hr
          clear hr a1 a2
          go_wp2
          go_round
          case rel => exact ⟨f, k + 1, by go_num, by omega, by omega, HR.out⟩
          case measure => simp [RowKit.intOf]; omega
    · have hn : scF s f k = k := by cases f with
        | zero => rfl
        | succ f => unfold scF; rw [if_neg (fun h => hlt h.1)]
      rw [hn] at hr
      subst hr
      have hU1 := HU.out
      rw [if_pos (by omega)] at hU1
      have HU' := Lib.hid hU1
      clear hn hU1 HU HE
      go_wp2
      go_ret3
      rw [HU'.out]
      exact ⟨rfl, Below.refl _ _⟩
end Go.Proofs.YteegnmblbjcfpaaDoor.T
