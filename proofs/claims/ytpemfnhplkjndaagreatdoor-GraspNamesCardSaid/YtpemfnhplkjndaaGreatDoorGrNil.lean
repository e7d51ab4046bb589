/-
  What is answered of no book; grasp.Count of an empty one.
-/
import Derived.Test.YtpemfnhplkjndaaGreatDoorGrNone
set_option linter.unusedVariables false
namespace Go.Proofs.YtpemfnhplkjndaaGreatDoor.T
open Go Go.Lib Go.RowKit Go.Shelf
attribute [local go_sem] run_store_float
attribute [local go_sem] Oper.semAt_some

theorem errNil (w : World) : Calls Tryz.prog 20 #[.pointer none, .int .i64 0] w fun e w' => e = .returned (.tuple #[.nilIface, .int .i64 2]) ∧ Below w.heap.size w w' := Error_no none 0 2 w (find_nil 0)
theorem which_nil (w : World) : Calls Tryz.prog 7 #[.pointer none, .int .i64 0] w fun e w' => e = .returned (.tuple #[.int .i64 0, .int .i64 2]) ∧ Below w.heap.size w w' := by
  have KE := Lib.hid (errNil w)
  go_enter Tryz.func7, Tryz.ntmps7
  go_wp2_with fail
  refine KE.out.mono ?_
  rintro e w1 ⟨rfl, hb1⟩
  go_wp2_with fail
  go_ret2
  exact ⟨rfl, hb1⟩
theorem pick_nil (w : World) : Calls Tryz.prog 8 #[.pointer none, .slice none 0 0] w fun e w' => e = .returned (.tuple #[.slice none 0 0, .int .i64 2]) ∧ w' = w := by
  go_enter Tryz.func8, Tryz.ntmps8
  go_wp2_with fail
  go_ret2
  exact ⟨rfl, rfl⟩
theorem over_nil (f g : Value) (w : World) : Calls Tryz.prog 9 #[.pointer none, .int .i64 0, f, g] w fun e w' => e = .returned (.tuple #[.int .i64 0, .int .i64 2]) ∧ Below w.heap.size w w' := by
  have KE := Lib.hid (errNil w)
  go_enter Tryz.func9, Tryz.ntmps9
  go_wp2_with fail
  refine KE.out.mono ?_
  rintro e w1 ⟨rfl, hb1⟩
  go_wp2_with fail
  go_ret2
  exact ⟨rfl, hb1⟩
theorem nodes_nil (w : World) : Calls Tryz.prog 12 #[.pointer none, .int .i64 0] w fun e w' => e = .returned (.tuple #[.slice none 0 0, .int .i64 2]) ∧ Below w.heap.size w w' := Nodes_no none 0 2 w (find_nil 0) (.inl rfl)
theorem all_nil (w : World) : Calls Tryz.prog 13 #[.pointer none, .int .i64 0] w fun e w' => ∃ bx, e = .returned (.func (.func 31) #[] #[.pointer (some ⟨bx, 0, none⟩)]) ∧ w.heap.size ≤ bx ∧ w'.cell? ⟨bx, 0, none⟩ = some (.slice none 0 0) ∧ Below w.heap.size w w' := by
  have KW := Lib.hid (within_nil 0 w)
  go_enter Tryz.func13, Tryz.ntmps13
  go_wp2_with fail
  refine KW.out.mono ?_
  rintro e w1 ⟨rfl, hb1⟩
  go_wp2_with fail
  refine (those_error .nilIface _ _ _ _).mono ?_
  rintro e w2 ⟨rfl, rfl⟩
  go_wp2_with fail
  go_ret
  exact ⟨_, rfl, hb1.size, cell_new (Below.refl _ _) 0, hb1.alloc hb1.size _⟩
def panZ : Value := .agg #[.int .i64 0, .string ⟨#[]⟩, .int .i64 0]
set_option maxRecDepth 100000 in
theorem must_nil (w : World) : Calls Tryz.prog 6 #[.pointer none, .int .i64 0] w fun e w' => e = .returned (.tuple #[.nilIface, panZ, .int .i64 2]) ∧ Below w.heap.size w w' := by
  have KE := Lib.hid errNil
  unfold panZ
  go_enter Tryz.func6, Tryz.ntmps6
  go_wp2_with fail
  refine (KE.out _).mono ?_
  rintro e w1 ⟨rfl, hb1⟩
  have r0 := cell_new hb1 0; have r1 := cell_new hb1 1; have r2 := cell_new hb1 2
  have rz := frozen_new hb1
  simp only [List.getElem?_toArray, List.getElem?_cons_zero, List.getElem?_cons_succ] at r0 r1 r2
  have hA := ((Below.refl w.heap.size w).alloc (Nat.le_refl _) _).trans (hb1.mono (by simp))
  clear hb1
  go_wp2_with fail
  refine bodyPost_ret (v := .tuple #[.nilIface, .agg #[.int .i64 0, .string ⟨#[]⟩, .int .i64 0], .int .i64 2]) (by simp [results, Tryz.f6, go_sem, r0, r1, r2]) rfl ⟨rfl, ?_⟩
  repeat (refine Below.setCell ?_ (by simp) _)
  exact hA
set_option maxRecDepth 100000 in
theorem find_error_nil (w : World) : CallsIn Fence.wide 5 Tryz.prog 4 #[.pointer none, .int .i64 0] w fun e w' => e = .returned (.tuple #[.nilIface, .int .i64 0, .int .i64 2]) ∧ Below w.heap.size w w' := by
  have hro : Fence.wide.round = none := rfl
  have KW := Lib.hid (within_nil 0)
  refine callsIn_of_wp Tryz.func4 rfl trivial ?_ hro
  simp only [Tryz.ntmps4, List.size_toArray, List.length_cons, List.length_nil, Nat.reduceAdd, Nat.reduceSub, Array.replicate_succ, Array.replicate_zero, List.push_toArray, List.append_toArray, List.nil_append, List.cons_append]
  gi_wp2_with fail
  refine ⟨trivial, ?_⟩
  refine (callsIn_wide.2 (KW.out _)).mono ?_
  rintro e w1 ⟨rfl, hb1⟩
  obtain ⟨R0, R1, R2⟩ := blk3 hb1
  have hA := below3 hb1
  clear hb1
  have c0 := cells_of R0 0; have c1 := cells_of R1 0; have c2 := cells_of R2 0
  have f0 := free_of R0 0; have f1 := free_of R1 0; have f2 := free_of R2 0
  simp only [List.getElem?_toArray, List.getElem?_cons_zero] at c0 c1 c2
  have HA := Lib.hid hA
  clear hA R0 R1 R2
  gi_wp2_with fail
  gi_region
  gi_wp2
  refine bodyPost_ret (v := .tuple #[.nilIface, .int .i64 0, .int .i64 2]) (by simp [results, Tryz.f4, go_sem, c0, c1, c2]) rfl ⟨rfl, ?_⟩
  refine Below.drew ?_
  refine Below.setCell ?_ (by show w.heap.size ≤ w.heap.size + 1 + 1; omega) _
  refine Below.setCell ?_ (by show w.heap.size ≤ w.heap.size + 1; omega) _
  refine Below.setCell ?_ (Nat.le_refl w.heap.size) _
  exact HA.out.setCell (p := ⟨w.heap.size + 1 + 1, 0, none⟩) (by show w.heap.size ≤ w.heap.size + 1 + 1; omega) _
set_option maxRecDepth 100000 in
theorem count_error_nil (w : World) : CallsIn Fence.wide 5 Tryz.prog 5 #[.pointer none, .int .i64 0] w fun e w' => e = .returned (.tuple #[.int .i64 0, .int .i64 2]) ∧ Below w.heap.size w w' := by
  have hro : Fence.wide.round = none := rfl
  have KW := Lib.hid (within_nil 0)
  refine callsIn_of_wp Tryz.func5 rfl trivial ?_ hro
  simp only [Tryz.ntmps5, List.size_toArray, List.length_cons, List.length_nil, Nat.reduceAdd, Nat.reduceSub, Array.replicate_succ, Array.replicate_zero, List.push_toArray, List.append_toArray, List.nil_append, List.cons_append]
  gi_wp2_with fail
  refine ⟨trivial, ?_⟩
  refine (callsIn_wide.2 (KW.out _)).mono ?_
  rintro e w1 ⟨rfl, hb1⟩
  gi_wp2_with fail
  go_ret2
  exact ⟨rfl, hb1⟩
set_option maxRecDepth 100000 in
set_option maxHeartbeats 1000000 in
theorem count_any_zero (p : Addr) (w : World) : CallsIn Fence.wide 5 Tryz.prog 16 #[.pointer (some p), .int .i64 0] w fun e w' => e = .returned (.tuple #[.int .i64 0, .int .i64 0]) ∧ Below w.heap.size w w' := by
  have hro : Fence.wide.round = none := rfl
  have KW := Lib.hid (within_zero p)
  refine callsIn_of_wp_marks Tryz.func16 rfl trivial ?_ hro
  simp only [Tryz.ntmps16, List.size_toArray, List.length_cons, List.length_nil, Nat.reduceAdd, Nat.reduceSub, Array.replicate_succ, Array.replicate_zero, List.push_toArray, List.append_toArray, List.nil_append, List.cons_append]
  gi_wp2_with fail
  refine ⟨trivial, ?_⟩
  refine (callsIn_wide.2 (KW.out _)).mono ?_
  rintro e w1 ⟨q, rfl, hb1⟩
  gi_wp2_with fail
  refine ⟨trivial, ?_⟩
  refine (callsIn_wide.2 (those_any .nilIface _ _ _ _)).mono ?_
  rintro e w2 ⟨rfl, rfl⟩
  have hA := (hb1.alloc hb1.size (.cells #[.int .i64 0] 3)).alloc (by have := hb1.size; simp; omega) (.cells #[.slice (some q) 0 0] 33)
  have b0 : Boxed ((w1.alloc (.cells #[.int .i64 0] 3)).alloc (.cells #[.slice (some q) 0 0] 33)) w1.heap.size 3 (.int .i64 0) := blk_new (((Below.refl (w1.alloc (.cells #[.int .i64 0] 3)).heap.size (w1.alloc (.cells #[.int .i64 0] 3))).alloc (Nat.le_refl _) _))
  have hbx : ((w1.alloc (.cells #[.int .i64 0] 3)).alloc (.cells #[.slice (some q) 0 0] 33)).cell? ⟨w1.heap.size + 1, 0, none⟩ = some (.slice (some q) 0 0) := cell_at (Below.refl _ _) 0
  have hsz := hb1.size
  have HA := Lib.hid hA; have B0 := Lib.hid b0; have HBX := Lib.hid hbx
  clear hA b0 hbx hb1
  rw [show (w1.alloc (.cells #[.int .i64 0] 3)).heap.size = w1.heap.size + 1 by simp]
  gi_wp2_with fail
  generalize (w1.alloc (.cells #[.int .i64 0] 3)).alloc (.cells #[.slice (some q) 0 0] 33) = V at *
  refine range_stop0 hro (by omega) (gf := 35) (lb := #[.pointer (some ⟨w1.heap.size + 1, 0, none⟩)]) rfl trivial (enters_of Tryz.func35 (by kernel_rfl) rfl)
    (iter_any (fun _ : Unit => #[.int .i64 0, .nilIface]) 0 4 (by omega) (w1.heap.size + 1) _ _ V HBX.out) (fun _ _ => trivial) (fun _ _ _ _ _ _ _ _ => trivial) (Below.refl _ _) (fun _ => rfl)
    (fun xs W' => Boxed W' w1.heap.size 3 (.int .i64 0) ∧ Below w.heap.size w W')
    (fun _ _ _ => False)
    (OwnFrom.and (Own.from (boxed_own _ _ _) _) (ownFrom_below (Nat.le_refl _) HA.out.size))
    (fun cd _ _ _ _ h _ _ => h)
    ⟨B0.out, HA.out⟩ ?assign (fun _ _ _ _ _ h => absurd h (Nat.not_lt_zero _)) ?done (fun _ _ _ _ _ h => h.elim)
  case assign =>
    intro l x W' K hK
    gi_wp2
    first
      | exact hK
      | (simp at hK; exact hK)
      | (simp [go_sem] at hK; exact hK)
  case done =>
    rintro D xs W' hD rfl ⟨b0, hB⟩ hK
    have hDw : w.heap.size ≤ D := by have := HA.out.size; omega
    have k0 := b0.cell
    have HK := Lib.hid hK
    clear b0 hK
    gi_wp2
    refine ⟨by simp, .inl ⟨_, _, rfl, run_takeDeferred HK.out, ?_⟩⟩
    refine ⟨.tuple #[.int .i64 0, .int .i64 0], ?_, rfl, hB.trans (belowK_b (w := w) (Nat.le_refl _) _ D _ _ hDw HK.out rfl rfl)⟩
    simp [results, Tryz.f16, go_sem]
end Go.Proofs.YtpemfnhplkjndaaGreatDoor.T
