/-
  kindof.Error of no error.
-/
import Derived.Test.YtefmffofboddgaaGreatCasesCheck
set_option linter.unusedVariables false
namespace Go.Proofs.YtefmffofboddgaaGreat.T
open Go Go.Lib Go.RowKit
/-- the zero value of a type -/
noncomputable def zOf (t : TypeId) : Value := ((Tryz.prog.info? t).bind (·.zero)).getD .nilIface
theorem ta0 (W : World) : (Instr.typeAssert .nilIface 73 106 true).run Tryz.prog W = .ok (.tuple #[zOf 106, .bool false]) W := by kernel_rfl
theorem ta1 (W : World) : (Instr.typeAssert .nilIface 73 107 true).run Tryz.prog W = .ok (.tuple #[zOf 107, .bool false]) W := by kernel_rfl
theorem ta2 (W : World) : (Instr.typeAssert .nilIface 73 108 true).run Tryz.prog W = .ok (.tuple #[zOf 108, .bool false]) W := by kernel_rfl
theorem ta3 (W : World) : (Instr.typeAssert .nilIface 73 110 true).run Tryz.prog W = .ok (.tuple #[zOf 110, .bool false]) W := by kernel_rfl
theorem ta4 (W : World) : (Instr.typeAssert .nilIface 73 112 true).run Tryz.prog W = .ok (.tuple #[zOf 112, .bool false]) W := by kernel_rfl
theorem ta5 (W : World) : (Instr.typeAssert .nilIface 73 115 true).run Tryz.prog W = .ok (.tuple #[zOf 115, .bool false]) W := by kernel_rfl
theorem ta6 (W : World) : (Instr.typeAssert .nilIface 73 117 true).run Tryz.prog W = .ok (.tuple #[zOf 117, .bool false]) W := by kernel_rfl
theorem ta7 (W : World) : (Instr.typeAssert .nilIface 73 119 true).run Tryz.prog W = .ok (.tuple #[zOf 119, .bool false]) W := by kernel_rfl
theorem ta8 (W : World) : (Instr.typeAssert .nilIface 73 120 true).run Tryz.prog W = .ok (.tuple #[zOf 120, .bool false]) W := by kernel_rfl
theorem ta9 (W : World) : (Instr.typeAssert .nilIface 73 121 true).run Tryz.prog W = .ok (.tuple #[zOf 121, .bool false]) W := by kernel_rfl
theorem ta10 (W : World) : (Instr.typeAssert .nilIface 73 123 true).run Tryz.prog W = .ok (.tuple #[zOf 123, .bool false]) W := by kernel_rfl
theorem ta11 (W : World) : (Instr.typeAssert .nilIface 73 125 true).run Tryz.prog W = .ok (.tuple #[zOf 125, .bool false]) W := by kernel_rfl
theorem ta12 (W : World) : (Instr.typeAssert .nilIface 73 127 true).run Tryz.prog W = .ok (.tuple #[zOf 127, .bool false]) W := by kernel_rfl
theorem ta13 (W : World) : (Instr.typeAssert .nilIface 73 128 true).run Tryz.prog W = .ok (.tuple #[zOf 128, .bool false]) W := by kernel_rfl
theorem ta14 (W : World) : (Instr.typeAssert .nilIface 73 130 true).run Tryz.prog W = .ok (.tuple #[zOf 130, .bool false]) W := by kernel_rfl
theorem ta15 (W : World) : (Instr.typeAssert .nilIface 73 131 true).run Tryz.prog W = .ok (.tuple #[zOf 131, .bool false]) W := by kernel_rfl
theorem ta16 (W : World) : (Instr.typeAssert .nilIface 73 133 true).run Tryz.prog W = .ok (.tuple #[zOf 133, .bool false]) W := by kernel_rfl
theorem ta17 (W : World) : (Instr.typeAssert .nilIface 73 135 true).run Tryz.prog W = .ok (.tuple #[zOf 135, .bool false]) W := by kernel_rfl
theorem ta18 (W : World) : (Instr.typeAssert .nilIface 73 137 true).run Tryz.prog W = .ok (.tuple #[zOf 137, .bool false]) W := by kernel_rfl
theorem ta19 (W : World) : (Instr.typeAssert .nilIface 73 139 true).run Tryz.prog W = .ok (.tuple #[zOf 139, .bool false]) W := by kernel_rfl
theorem ta20 (W : World) : (Instr.typeAssert .nilIface 73 140 true).run Tryz.prog W = .ok (.tuple #[zOf 140, .bool false]) W := by kernel_rfl
theorem ta21 (W : World) : (Instr.typeAssert .nilIface 73 141 true).run Tryz.prog W = .ok (.tuple #[zOf 141, .bool false]) W := by kernel_rfl
theorem ta22 (W : World) : (Instr.typeAssert .nilIface 73 143 true).run Tryz.prog W = .ok (.tuple #[zOf 143, .bool false]) W := by kernel_rfl
theorem ta23 (W : World) : (Instr.typeAssert .nilIface 73 145 true).run Tryz.prog W = .ok (.tuple #[zOf 145, .bool false]) W := by kernel_rfl
theorem ta24 (W : World) : (Instr.typeAssert .nilIface 73 148 true).run Tryz.prog W = .ok (.tuple #[zOf 148, .bool false]) W := by kernel_rfl
theorem ta25 (W : World) : (Instr.typeAssert .nilIface 73 149 true).run Tryz.prog W = .ok (.tuple #[zOf 149, .bool false]) W := by kernel_rfl
theorem ta26 (W : World) : (Instr.typeAssert .nilIface 73 151 true).run Tryz.prog W = .ok (.tuple #[zOf 151, .bool false]) W := by kernel_rfl
theorem ta27 (W : World) : (Instr.typeAssert .nilIface 73 152 true).run Tryz.prog W = .ok (.tuple #[zOf 152, .bool false]) W := by kernel_rfl
attribute [local go_sem] ta0 ta1 ta2 ta3 ta4 ta5 ta6 ta7 ta8 ta9 ta10 ta11 ta12 ta13 ta14 ta15 ta16 ta17 ta18 ta19 ta20 ta21 ta22 ta23 ta24 ta25 ta26 ta27
set_option maxRecDepth 100000 in
theorem kindof_nil (w : World) : Calls Tryz.prog 24 #[.nilIface] w fun e w' => e = .returned (.int .u8 0) ∧ Below w.heap.size w w' := by
  go_enter Tryz.func24, Tryz.ntmps24
  go_wp2
  go_ret
  exact ⟨rfl, Below.refl _ _⟩
end Go.Proofs.YtefmffofboddgaaGreat.T
