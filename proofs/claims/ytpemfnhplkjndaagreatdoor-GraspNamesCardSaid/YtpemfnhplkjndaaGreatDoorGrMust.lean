/-
  grasp.Must and grasp.Which of a Code; grasp.Must of no error: the panic is recovered.
-/
import Derived.Test.YtpemfnhplkjndaaGreatDoorGrNil
import Derived.Tactics2
import Derived.Defers
import Derived.Recover
import Derived.Stop.Asserts
set_option linter.unusedVariables false
namespace Go.Proofs.YtpemfnhplkjndaaGreatDoor.T
open Go Go.Lib Go.RowKit Go.Shelf
attribute [local go_sem] run_store_float

theorem must_any_panics (W : World) : (Instr.typeAssert .nilIface 23 20 false).run Tryz.prog W = .halt (.panic (.iface Tryz.prog.rt.typeAssertionError (.pointer (some ⟨W.heap.size, 0, none⟩)))) (W.alloc (.cells #[.pointer none, .pointer none, typeHandle Tryz.prog 20, strVal ""] (match Tryz.prog.underlying Tryz.prog.rt.typeAssertionError with | some (.pointer e) => e | _ => 0))) := by kernel_rfl
theorem as_graded (v : Value) (W : World) : (Instr.typeAssert (.iface 72 v) 23 76 false).run Tryz.prog W = .ok (.iface 72 v) W := by kernel_rfl
theorem as_coder (v : Value) (W : World) : (Instr.typeAssert (.iface 72 v) 23 82 true).run Tryz.prog W = .ok (.tuple #[.nilIface, .bool false]) W := run_typeAssert_lacksB Tryz.underlying82 (by kernel_rfl) (by kernel_rfl) v _ W
theorem which_in (v : Value) (w : World) : Calls Tryz.prog 45 #[.iface 72 v] w fun e w' => e = .returned (.int .i64 2) ∧ w' = w := by
  have a1 := as_coder
  have a2 := asCode_code
  go_enter Tryz.func45, Tryz.ntmps45
  go_wp2
  go_ret
  exact ⟨rfl, rfl⟩
theorem Which_in (b h : Nat) (v : Value) (x : En) (w : World) (H : Has w b h x) (hT : x.T = 72) : Calls Tryz.prog 30 #[.pointer (some ⟨b, 0, none⟩), .int .i64 (h : Int)] w fun e w' => e = .returned (.tuple #[.int .i64 2, .int .i64 0]) ∧ Below w.heap.size w w' := by
  have KE := Lib.hid (Error_in b h x w H)
  rw [hT] at KE
  clear H hT
  generalize x.u = u at *
  go_enter Tryz.func30, Tryz.ntmps30
  go_wp2_with fail
  refine KE.out.mono ?_
  rintro e w1 ⟨rfl, hb1⟩
  go_wp2_with fail
  refine (which_in u _).mono ?_
  rintro e w2 ⟨rfl, rfl⟩
  go_wp2_with fail
  go_ret2
  exact ⟨rfl, hb1⟩
theorem catch_idle (p : Addr) (w : World) :
    CallsD Tryz.prog 63 #[.pointer (some p)] .returning w fun e u' w' => e = .returned (.tuple #[]) ∧ u' = .returning ∧ w' = w := by
  refine callsD_of_wpS Tryz.func63 rfl fun c₀ cs hu => ?_
  apply wpS_seq
  apply wpS_region
  simp [wpOpsS, go_sem, recoverD, hu, Tryz.ntmps63, Exit.thenS]
  refine wpS_cond (t := false) (by simp [Act.eval, Array.replicate]) ?_
  simp only [Bool.false_eq_true, if_false]
  refine wpS_of_wp (wp_skip ?_)
  cases c₀
  simp_all [bodyPostS, results, Tryz.f63]
set_option maxRecDepth 100000 in
theorem catch_panicking (b : Nat) (u : TypeId) (pv : Value) (older : List PanicEntry) (w : World) (h : w.heap[b]? = some (.cells #[.int .i64 0, .string ⟨#[]⟩, .int .i64 0] 30 (0, 0))) :
    CallsD Tryz.prog 64 #[.pointer (some ⟨b, 0, none⟩)] (.panicking ({ v := .iface u pv, recovered := false } :: older)) w fun e u' w' =>
      e = .returned (.tuple #[]) ∧ u' = .panicking ({ v := .iface u pv, recovered := true } :: older) ∧ w'.heap[b]? = some (.cells #[.int .i64 2, .string ⟨#[]⟩, .int .i64 0] 30 (0, 0)) ∧ Below b w w' := by
  have c0 := cells_of h 0; have c1 := cells_of h 1; have c2 := cells_of h 2
  have hz := free_of h
  simp only [List.getElem?_toArray, List.getElem?_cons_zero, List.getElem?_cons_succ] at c0 c1 c2
  refine callsD_of_wpS Tryz.func64 rfl fun c₀ cs hu => ?_
  apply wpS_seq
  apply wpS_region
  simp [wpOpsS, go_sem, recoverD, hu, Tryz.ntmps64, Exit.thenS]
  refine wpS_cond (t := true) (by simp [Act.eval, Array.replicate]) ?_
  simp only [if_true]
  apply wpS_region
  simp [wpOpsS, go_sem, c0, c1, c2, hz, bodyPostS, results, Tryz.f64]
  refine ⟨blk_set (blk_set (blk_set h 0 _) 1 _) 2 _, ?_⟩
  exact ((((Below.refl b w).setCell (p := ⟨b, 0, none⟩) (Nat.le_refl _) _).setCell (p := ⟨b, 1, none⟩) (Nat.le_refl _) _).setCell (p := ⟨b, 2, none⟩) (Nat.le_refl _) _)
set_option maxRecDepth 100000 in
theorem must_graded (v : Value) (w : World) : Calls Tryz.prog 43 #[.iface 72 v] w fun e w' => e = .returned (.tuple #[.iface 72 v, panZ]) ∧ Below w.heap.size w w' := by
  have hmf : ∀ (fn : Fn) (first cap : Array Value) (w : World), (Instr.makeFunc fn first cap).run Tryz.prog w = .ok (.func fn first cap) w := fun _ _ _ _ => rfl
  have hg := as_graded
  unfold panZ
  go_enter_defers Tryz.func43, Tryz.ntmps43
  go_wp2
  refine leaves_cons (f := 63) (args := #[.pointer (some ⟨w.heap.size, 0, none⟩)]) (by simp) (by simp [go_sem]) ?_
  refine (catch_idle ⟨w.heap.size, 0, none⟩ _).mono ?_
  rintro e u' w'' ⟨rfl, rfl, rfl⟩
  refine ⟨.tuple #[.iface 72 v, .agg #[.int .i64 0, .string ⟨#[]⟩, .int .i64 0]], ?_, rfl, ?_⟩
  · simp [results, Tryz.f43, go_sem]
  · exact (Below.refl _ _).alloc (Nat.le_refl _) _
set_option maxRecDepth 100000 in
theorem must_any (w : World) : Calls Tryz.prog 44 #[.nilIface] w fun e w' => e = .returned (.tuple #[.nilIface, .agg #[.int .i64 2, .string ⟨#[]⟩, .int .i64 0]]) ∧ Below w.heap.size w w' := by
  have hmf : ∀ (fn : Fn) (first cap : Array Value) (w : World), (Instr.makeFunc fn first cap).run Tryz.prog w = .ok (.func fn first cap) w := fun _ _ _ _ => rfl
  have hg := must_any_panics
  go_enter_defers Tryz.func44, Tryz.ntmps44
  go_wp2
  refine leaves_cons (f := 64) (args := #[.pointer (some ⟨w.heap.size, 0, none⟩)]) (by simp) (by simp [go_sem]) ?_
  have hB := fun o : Obj => (Below.refl (w.alloc (.cells #[.int .i64 0, .string ⟨#[]⟩, .int .i64 0] 30)).heap.size (w.alloc (.cells #[.int .i64 0, .string ⟨#[]⟩, .int .i64 0] 30))).alloc (Nat.le_refl _) o
  refine (catch_panicking w.heap.size _ _ [] _ (blk_new (hB _))).mono ?_
  rintro e u' w'' ⟨rfl, rfl, hblk, hb⟩
  have c0 := cells_of hblk 0; have c1 := cells_of hblk 1; have c2 := cells_of hblk 2
  simp only [List.getElem?_toArray, List.getElem?_cons_zero, List.getElem?_cons_succ] at c0 c1 c2
  have hb' : Below w.heap.size w w'' := (((Below.refl _ _).alloc (Nat.le_refl _) _).alloc (by simp) _).trans hb
  have HB := Lib.hid hb'
  clear hb hb' hB
  refine ⟨.tuple #[.nilIface, .agg #[.int .i64 2, .string ⟨#[]⟩, .int .i64 0]], ?_, rfl, HB.out⟩
  simp [results, Tryz.f44, go_sem, c0, c1, c2]
set_option maxRecDepth 100000 in
theorem Must_graded (b h : Nat) (x : En) (w : World) (H : Has w b h x) (hT : x.T = 72) : Calls Tryz.prog 28 #[.pointer (some ⟨b, 0, none⟩), .int .i64 (h : Int)] w fun e w' => e = .returned (.tuple #[.iface 72 x.u, panZ, .int .i64 0]) ∧ Below w.heap.size w w' := by
  have KE := Lib.hid (fun W (hW : Below w.heap.size w W) => Error_in b h x W (H.below hW))
  have KM := Lib.hid (must_graded x.u)
  rw [hT] at KE
  clear H hT
  generalize x.u = u at *
  unfold panZ at *
  go_enter Tryz.func28, Tryz.ntmps28
  go_wp2_with fail
  refine (KE.out _ ((Below.refl _ _).alloc (Nat.le_refl _) _)).mono ?_
  rintro e w1 ⟨rfl, hb1⟩
  go_wp2_with fail
  refine (KM.out _).mono ?_
  rintro e w2 ⟨rfl, hb2⟩
  have hb3 := more hb1 hb2
  have r0 := cell_new hb3 0; have r1 := cell_new hb3 1; have r2 := cell_new hb3 2
  have rz := frozen_new hb3
  simp only [List.getElem?_toArray, List.getElem?_cons_zero, List.getElem?_cons_succ] at r0 r1 r2
  have hA := ((Below.refl w.heap.size w).alloc (Nat.le_refl _) _).trans (hb3.mono (by simp))
  have hn : w.heap.size < w2.heap.size := by have := hb3.size; simp at this; omega
  clear hb1 hb2 hb3
  go_wp2_with fail
  have hB := hA.alloc hA.size (.cells #[.int .i64 0, .string ⟨#[]⟩, .int .i64 0] 30)
  have hB' : Below w2.heap.size w2 (w2.alloc (.cells #[.int .i64 0, .string ⟨#[]⟩, .int .i64 0] 30)) := (Below.refl _ _).alloc (Nat.le_refl _) _
  have s0 := (hB'.cell (p := ⟨w.heap.size, 0, none⟩) hn).trans r0
  have s1 := (hB'.cell (p := ⟨w.heap.size, 1, none⟩) hn).trans r1
  have s2 := (hB'.cell (p := ⟨w.heap.size, 2, none⟩) hn).trans r2
  have sz := fun j => (hB'.frozen (p := ⟨w.heap.size, j, none⟩) hn).trans (rz j)
  have k0 := cell_new (w := w2) (c := #[.int .i64 0, .string ⟨#[]⟩, .int .i64 0]) (t := 30) (Below.refl _ _) 0
  have k1 := cell_new (w := w2) (c := #[.int .i64 0, .string ⟨#[]⟩, .int .i64 0]) (t := 30) (Below.refl _ _) 1
  have k2 := cell_new (w := w2) (c := #[.int .i64 0, .string ⟨#[]⟩, .int .i64 0]) (t := 30) (Below.refl _ _) 2
  simp only [List.getElem?_toArray, List.getElem?_cons_zero, List.getElem?_cons_succ] at k0 k1 k2
  have HB := Lib.hid hB
  clear hB hB' hA r0 r1 r2 rz
  generalize w2.alloc (.cells #[.int .i64 0, .string ⟨#[]⟩, .int .i64 0] 30) = V at *
  go_region
  go_wp2
  refine bodyPost_ret (v := .tuple #[.iface 72 u, .agg #[.int .i64 0, .string ⟨#[]⟩, .int .i64 0], .int .i64 0]) (by simp [results, Tryz.f28, go_sem, s0, s1, s2]) rfl ⟨rfl, ?_⟩
  exact (((HB.out.setCell (p := ⟨w.heap.size, 0, none⟩) (Nat.le_refl _) _).setCell (p := ⟨w.heap.size, 1, none⟩) (Nat.le_refl _) _).setCell (p := ⟨w.heap.size, 2, none⟩) (Nat.le_refl _) _).drew
set_option maxRecDepth 100000 in
theorem Must_any (p : Addr) (w : World) : Calls Tryz.prog 29 #[.pointer (some p), .int .i64 0] w fun e w' => e = .returned (.tuple #[.nilIface, .agg #[.int .i64 2, .string ⟨#[]⟩, .int .i64 0], .int .i64 0]) ∧ Below w.heap.size w w' := by
  have KE := Lib.hid (fun W => Error_no (some p) 0 0 W (find_zero p))
  have KM := Lib.hid must_any
  go_enter Tryz.func29, Tryz.ntmps29
  go_wp2_with fail
  refine (KE.out _).mono ?_
  rintro e w1 ⟨rfl, hb1⟩
  go_wp2_with fail
  refine (KM.out _).mono ?_
  rintro e w2 ⟨rfl, hb2⟩
  have hb3 := more hb1 hb2
  have r0 := cell_new hb3 0; have r1 := cell_new hb3 1; have r2 := cell_new hb3 2
  have rz := frozen_new hb3
  simp only [List.getElem?_toArray, List.getElem?_cons_zero, List.getElem?_cons_succ] at r0 r1 r2
  have hA := ((Below.refl w.heap.size w).alloc (Nat.le_refl _) _).trans (hb3.mono (by simp))
  have hn : w.heap.size < w2.heap.size := by have := hb3.size; simp at this; omega
  clear hb1 hb2 hb3
  go_wp2_with fail
  have hB := hA.alloc hA.size (.cells #[.int .i64 2, .string ⟨#[]⟩, .int .i64 0] 30)
  have hB' : Below w2.heap.size w2 (w2.alloc (.cells #[.int .i64 2, .string ⟨#[]⟩, .int .i64 0] 30)) := (Below.refl _ _).alloc (Nat.le_refl _) _
  have s0 := (hB'.cell (p := ⟨w.heap.size, 0, none⟩) hn).trans r0
  have s1 := (hB'.cell (p := ⟨w.heap.size, 1, none⟩) hn).trans r1
  have s2 := (hB'.cell (p := ⟨w.heap.size, 2, none⟩) hn).trans r2
  have sz := fun j => (hB'.frozen (p := ⟨w.heap.size, j, none⟩) hn).trans (rz j)
  have k0 := cell_new (w := w2) (c := #[.int .i64 2, .string ⟨#[]⟩, .int .i64 0]) (t := 30) (Below.refl _ _) 0
  have k1 := cell_new (w := w2) (c := #[.int .i64 2, .string ⟨#[]⟩, .int .i64 0]) (t := 30) (Below.refl _ _) 1
  have k2 := cell_new (w := w2) (c := #[.int .i64 2, .string ⟨#[]⟩, .int .i64 0]) (t := 30) (Below.refl _ _) 2
  simp only [List.getElem?_toArray, List.getElem?_cons_zero, List.getElem?_cons_succ] at k0 k1 k2
  have HB := Lib.hid hB
  clear hB hB' hA r0 r1 r2 rz
  generalize w2.alloc (.cells #[.int .i64 2, .string ⟨#[]⟩, .int .i64 0] 30) = V at *
  go_region
  go_wp2
  refine bodyPost_ret (v := .tuple #[.nilIface, .agg #[.int .i64 2, .string ⟨#[]⟩, .int .i64 0], .int .i64 0]) (by simp [results, Tryz.f29, go_sem, s0, s1, s2]) rfl ⟨rfl, ?_⟩
  exact (((HB.out.setCell (p := ⟨w.heap.size, 0, none⟩) (Nat.le_refl _) _).setCell (p := ⟨w.heap.size, 1, none⟩) (Nat.le_refl _) _).setCell (p := ⟨w.heap.size, 2, none⟩) (Nat.le_refl _) _).drew
end Go.Proofs.YtpemfnhplkjndaaGreatDoor.T
