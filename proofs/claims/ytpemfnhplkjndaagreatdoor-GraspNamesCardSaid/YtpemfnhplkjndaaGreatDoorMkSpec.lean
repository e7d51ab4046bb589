/-
  Specs as plain data; what kinds asks of a Code, a Wrap and a Veil (kinds.Check).
-/
import Derived.WalkKit
import Derived.ProofKit
import Derived.OpenShut
import Derived.Outline
import Derived.LoopTactic
import Derived.Laws.BytesArg
import Derived.Laws.NewBlocks
import Derived.Laws.OwnMore
import Derived.OwnWalk
import Derived.IntWalk
import Derived.Lib.Hide
import Derived.BigQuiet
import Derived.Deep.QuietTactic
import Derived.Deep.RegionWith
import Derived.Deep.RegionLaw
import Derived.RegionTactic
import Derived.WalkLawsBesides
import Derived.WalkSpells
import Derived.Maps.AppendAt
import Derived.KernelRfl
import Derived.OneCell
import Derived.Laws.EntriesVeiled
import Derived.Test.YtpemfnhplkjndaaGreatDoorRows
set_option linter.unusedVariables false
namespace Go.Proofs.YtpemfnhplkjndaaGreatDoor.T
open Go Go.Lib Go.RowKit

theorem run_store_float (P : Program) (w : World) (a : Addr) (m : Mode) (k : FloatKind) (b) : (store a (.float k b) m).run P w = stored P w a (.float k b) m := run_store P w a _ m rfl
attribute [local go_sem] run_store_float
theorem bits0 (W : World) : (callFunc 102 #[.float .f64 0]).run Tryz.prog W = .ok (.value (.int .u64 0)) W := by kernel_rfl
theorem more {w W W' : World} (hb : Below w.heap.size w W) (h : Below W.heap.size W W') : Below w.heap.size w W' := hb.trans (h.mono hb.size)

/-- a spec: its kind, a text, a number, its items and its parts; all else is zero -/
def spV (k : Int) (t : ByteArray) (n : Int) (its parts : Value) : Value := .agg #[.int .u8 k, .bool false, .string t, .int .i16 n, .int .i8 0, .float .f64 0, .float .f64 0, .bool false, .int .u32 0, its, parts]
def spC (k : Int) (t : ByteArray) (n : Int) (its parts : Value) : Obj := .cells #[.int .u8 k, .bool false, .string t, .int .i16 n, .int .i8 0, .float .f64 0, .float .f64 0, .bool false, .int .u32 0, its, parts] 71

set_option maxRecDepth 100000 in
theorem fits_in (k : Int) (t : ByteArray) (n : Int) (p : Option Addr) (c : Nat) (parts : Value) (ht : t.size ≤ 4096) (w : World) : Calls Tryz.prog 66 #[spV k t n (.slice p 0 c) parts] w fun e w' => e = .returned (.bool true) ∧ w' = w.alloc (spC k t n (.slice p 0 c) parts) := by
  unfold spV spC
  have hd : decide (4096 < t.size) = false := by simp; omega
  go_enter Tryz.func66, Tryz.ntmps66
  go_wp2
  refine wp_loop_rounds 1 ?_
  rw [rounds_succ]
  go_wp2
  go_ret
  exact ⟨rfl, rfl⟩
set_option maxRecDepth 100000 in
set_option maxHeartbeats 4000000 in
theorem check_code (n : Int) (p q : Option Addr) (c d : Nat) (w : World) : Calls Tryz.prog 48 #[spV 1 ⟨#[]⟩ n (.slice p 0 c) (.slice q 0 d)] w fun e w' => e = .returned (.int .i64 0) ∧ Below w.heap.size w w' := by
  have cF := fun W => fits_in 1 ⟨#[]⟩ n p c (.slice q 0 d) (by decide) W
  have cB := bits0
  unfold spV spC at *
  go_enter Tryz.func48, Tryz.ntmps48
  go_wp2_with (first | (go_at_call 66; refine (cF _).mono ?_; rintro e w1 ⟨rfl, rfl⟩) | go_in)
  go_ret
  exact ⟨rfl, by repeat (first | exact Below.refl _ _ | (refine Below.drew ?_) | (refine Below.setCell ?_ (by simp <;> omega) _) | (refine Below.alloc ?_ (by simp <;> omega) _))⟩
set_option maxRecDepth 100000 in
set_option maxHeartbeats 4000000 in
theorem check_wrap (t : ByteArray) (ht : t.size ≤ 4096) (p q : Option Addr) (c m d : Nat) (hm : m ≤ 1) (w : World) : Calls Tryz.prog 48 #[spV 14 t 0 (.slice p 0 c) (.slice q m d)] w fun e w' => e = .returned (.int .i64 0) ∧ Below w.heap.size w w' := by
  have cF := fun W => fits_in 14 t 0 p c (.slice q m d) ht W
  have cB := bits0
  have h1 : ¬ (1 : Int) < (m : Int) := by omega
  unfold spV spC at *
  go_enter Tryz.func48, Tryz.ntmps48
  go_wp2_with (first | (go_at_call 66; refine (cF _).mono ?_; rintro e w1 ⟨rfl, rfl⟩) | go_in)
  go_ret
  exact ⟨rfl, by repeat (first | exact Below.refl _ _ | (refine Below.drew ?_) | (refine Below.setCell ?_ (by simp <;> omega) _) | (refine Below.alloc ?_ (by simp <;> omega) _))⟩
set_option maxRecDepth 100000 in
set_option maxHeartbeats 4000000 in
theorem check_veil (p q : Option Addr) (c m d : Nat) (hm : m ≤ 1) (w : World) : Calls Tryz.prog 48 #[spV 20 ⟨#[]⟩ 0 (.slice p 0 c) (.slice q m d)] w fun e w' => e = .returned (.int .i64 0) ∧ Below w.heap.size w w' := by
  have cF := fun W => fits_in 20 ⟨#[]⟩ 0 p c (.slice q m d) (by decide) W
  have cB := bits0
  have h1 : ¬ (1 : Int) < (m : Int) := by omega
  unfold spV spC at *
  go_enter Tryz.func48, Tryz.ntmps48
  go_wp2_with (first | (go_at_call 66; refine (cF _).mono ?_; rintro e w1 ⟨rfl, rfl⟩) | go_in)
  go_ret
  exact ⟨rfl, by repeat (first | exact Below.refl _ _ | (refine Below.drew ?_) | (refine Below.setCell ?_ (by simp <;> omega) _) | (refine Below.alloc ?_ (by simp <;> omega) _))⟩
end Go.Proofs.YtpemfnhplkjndaaGreatDoor.T
