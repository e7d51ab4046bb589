/-
  erratalaw10.works.
-/
import Derived.Test.YtpemfnhplkjndaaGreatDoorGrThree
set_option linter.unusedVariables false
namespace Go.Proofs.YtpemfnhplkjndaaGreatDoor.T
open Go Go.Lib Go.RowKit Go.Shelf
attribute [local go_sem] run_store_float

set_option maxRecDepth 100000 in
set_option maxHeartbeats 4000000 in
theorem works_in (w : World) : CallsIn Fence.wide 6 Tryz.prog 17 #[] w fun e w' => e = .returned (.bool true) ∧ Below w.heap.size w w' := by
  have hro : Fence.wide.round = none := rfl
  have KN := Lib.hid new_in
  have hm : ∀ W, (method 450 72 (.int .i16 5) "Kind").run Tryz.prog W = .ok (222, .int .i16 5) W := fun _ => by kernel_rfl
  refine callsIn_of_wp Tryz.func17 rfl trivial ?_ hro
  simp only [Tryz.ntmps17, List.size_toArray, List.length_nil, Nat.reduceSub, Array.replicate_succ, Array.replicate_zero, List.push_toArray, List.append_toArray, List.nil_append, List.cons_append]
  gi_wp2_with fail
  refine ⟨trivial, ?_⟩
  refine (callsIn_wide.2 (KN.out _)).mono ?_
  rintro e w1 ⟨rfl, hK1, hb1⟩
  have KC := Lib.hid (mk1 w1 hK1 hb1.size)
  have HB1 := Lib.hid hb1
  clear hK1
  gi_wp2_with fail
  refine ⟨trivial, ?_⟩
  refine (callsIn_wide.2 KC.out).mono ?_
  rintro e w2 ⟨rfl, ⟨i1, p1, hK2⟩, hb2⟩
  have hb2' := hb1.trans hb2
  have KW := Lib.hid (fun W hw => mk2 i1 p1 w2 W hw hK2 hb2'.size)
  have HB2 := Lib.hid hb2'
  clear hK2 hb2 hb1 HB1 KC hb2'
  gi_wp2_with fail
  refine ⟨trivial, ?_⟩
  refine (callsIn_wide.2 (KW.out _ rfl)).mono ?_
  rintro e w3 ⟨rfl, ⟨u, i2, p2, hK3⟩, hb3⟩
  have hb3' := HB2.out.trans hb3
  have KV := Lib.hid (fun W hw => mk3 i1 p1 u i2 p2 w3 W hw hK3 hb3'.size)
  have HB3 := Lib.hid hb3'
  clear hK3 hb3 HB2 KW hb3'
  gi_wp2_with fail
  refine ⟨trivial, ?_⟩
  refine (callsIn_wide.2 (KV.out _ rfl)).mono ?_
  rintro e w4 ⟨rfl, ⟨i3, p3, hK4⟩, hb4⟩
  have HB4 := Lib.hid (HB3.out.trans hb4)
  have HK := Lib.hid hK4
  clear hK4 hb4 HB3 KV
  gi_wp2_with fail
  refine ⟨trivial, ?_⟩
  refine (find_two w4 HK.out w4 (Below.refl _ _)).mono ?_
  rintro e w5 ⟨rfl, hb5⟩
  have H5 := Lib.hid hb5
  clear hb5
  gi_wp2_with fail
  refine ⟨trivial, ?_⟩
  refine (find_three w4 HK.out w5 H5.out).mono ?_
  rintro e w6 ⟨rfl, hb6⟩
  have H6 := Lib.hid (more H5.out hb6)
  clear hb6 H5
  gi_wp2_with fail
  refine ⟨trivial, ?_⟩
  refine (callsIn_wide.2 (must_one w4 HK.out w6 H6.out)).mono ?_
  rintro e w7 ⟨rfl, hb7⟩
  have H7 := Lib.hid (more H6.out hb7)
  clear hb7 H6
  gi_wp2_with fail
  refine ⟨trivial, ?_⟩
  refine (callsIn_wide.2 (Must_any ⟨w.heap.size, 0, none⟩ _)).mono ?_
  rintro e w8 ⟨rfl, hb8⟩
  have r0 := cell_new hb8 0
  simp only [List.getElem?_toArray, List.getElem?_cons_zero] at r0
  have rl : w7.heap.size < w8.heap.size := by have := hb8.size; simp at this; omega
  have H8 := Lib.hid (more (H7.out.alloc H7.out.size _) hb8)
  clear hb8
  gi_wp2_with fail
  refine ⟨trivial, ?_⟩
  have H8b := Lib.hid (H8.out.alloc H8.out.size (.cells #[.int .i64 2, .string ⟨#[]⟩, .int .i64 0] 30))
  refine (callsIn_wide.2 (which_one w4 HK.out _ H8b.out)).mono ?_
  rintro e w9 ⟨rfl, hb9⟩
  have q0 := cell_new hb9 0
  simp only [List.getElem?_toArray, List.getElem?_cons_zero] at q0
  have hb89 : Below w8.heap.size w8 w9 := ((Below.refl _ _).alloc (Nat.le_refl _) _).trans (hb9.mono (by simp))
  have r1 := (hb89.cell (p := ⟨w7.heap.size, 0, none⟩) rl).trans r0
  have H9 := Lib.hid (HB4.out.trans ((more H8b.out hb9).mono HB4.out.size))
  clear hb9 hb89 r0 H8b H8 H7
  gi_wp2_with fail
  refine ⟨trivial, ?_⟩
  refine (callsIn_wide.2 (code_kind_in (.int .i16 5) w9)).mono ?_
  rintro e w10 ⟨rfl, rfl⟩
  gi_wp2_with fail
  exact bodyPost_ret (v := .bool true) (by simp [results, Tryz.f17, go_sem]) rfl ⟨rfl, H9.out⟩
end Go.Proofs.YtpemfnhplkjndaaGreatDoor.T
