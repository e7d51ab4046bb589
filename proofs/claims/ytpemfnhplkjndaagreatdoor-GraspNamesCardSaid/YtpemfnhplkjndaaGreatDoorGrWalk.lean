/-
  erratalaw10.GraspNames.
-/
import Derived.Test.YtpemfnhplkjndaaGreatDoorGrWorks
set_option linter.unusedVariables false
namespace Go.Proofs.YtpemfnhplkjndaaGreatDoor.T
open Go Go.Lib Go.RowKit Go.Shelf
attribute [local go_sem] run_store_float

theorem equalIn_func_nil (d : Nat) (w : World) (f : Fn) (a b : Array Value) : (Op.equalIn (d + 1) 42 (.func f a b) .nilFunc).run Tryz.prog w = .ok false w := by
  simp [Op.equalIn, run_underlying Tryz.underlying42]
theorem equal_func_nil (w : World) (f : Fn) (a b : Array Value) : (Op.equal 42 (.func f a b) .nilFunc).run Tryz.prog w = .ok false w := equalIn_func_nil 9999 w f a b
theorem eql_func_nil (w : World) (f : Fn) (a b : Array Value) : (binOp .eql 42 (.func f a b) .nilFunc).run Tryz.prog w = .ok (.bool false) w := by
  simp only [binOp]
  simp [equal_func_nil w f a b]
set_option maxRecDepth 100000 in
set_option maxHeartbeats 4000000 in
theorem graspNames_in (w : World) : CallsIn Fence.wide 7 Tryz.prog 3 #[] w fun e w' => e = .returned (.bool true) ∧ Below w.heap.size w w' := by
  have hro : Fence.wide.round = none := rfl
  have bR := Boxed.new w 4 (.bool false)
  have hbA : Below w.heap.size w (w.alloc (.cells #[.bool false] 4)) := (Below.refl _ w).alloc (Nat.le_refl _) _
  have hzA : (w.alloc (.cells #[.bool false] 4)).heap.size = w.heap.size + 1 := by simp
  refine callsIn_of_wp_marks Tryz.func3 rfl trivial ?_ hro
  simp only [Tryz.ntmps3, List.size_toArray, List.length_nil, Nat.reduceSub, Array.replicate_succ, Array.replicate_zero, List.push_toArray, List.append_toArray, List.nil_append, List.cons_append]
  have c1 := find_error_nil; have c2 := count_error_nil; have c3 := must_nil; have c4 := which_nil; have c5 := pick_nil; have c6 := over_nil; have c7 := nodes_nil; have c8 := all_nil
  unfold panZ at c3
  have C1 := Lib.hid c1; have C2 := Lib.hid c2; have C3 := Lib.hid c3; have C4 := Lib.hid c4; have C5 := Lib.hid c5; have C6 := Lib.hid c6; have C7 := Lib.hid c7; have C8 := Lib.hid c8
  clear c1 c2 c3 c4 c5 c6 c7 c8
  have hne := eql_func_nil
  gi_wp2_with fail
  generalize w.alloc (.cells #[.bool false] 4) = wA at *
  refine ⟨trivial, ?_⟩
  refine (callsIn_wide.2 (callsIn_wide.1 (C1.out _))).mono ?_
  rintro e w1 ⟨rfl, h1⟩
  gi_wp2_with fail
  refine ⟨trivial, ?_⟩
  refine (callsIn_wide.2 (callsIn_wide.1 (C2.out _))).mono ?_
  rintro e w2 ⟨rfl, h2⟩
  have H2 := Lib.hid (more h1 h2)
  clear h1 h2
  gi_wp2_with fail
  refine ⟨trivial, ?_⟩
  refine (callsIn_wide.2 (C3.out _)).mono ?_
  rintro e w3 ⟨rfl, h3⟩
  have H3 := Lib.hid (more H2.out h3)
  clear H2 h3
  gi_wp2_with fail
  have H3a := Lib.hid (H3.out.alloc H3.out.size (.cells #[.int .i64 0, .string ⟨#[]⟩, .int .i64 0] 30))
  have KP := Lib.hid (blk_new (Below.refl (w3.alloc (.cells #[.int .i64 0, .string ⟨#[]⟩, .int .i64 0] 30)).heap.size _))
  have hz3 := H3.out.size
  clear H3
  generalize w3.alloc (.cells #[.int .i64 0, .string ⟨#[]⟩, .int .i64 0] 30) = W3 at *
  generalize w3.heap.size = pb at *
  have rl : pb < W3.heap.size := blk_lt KP.out
  refine ⟨trivial, ?_⟩
  refine (callsIn_wide.2 (C4.out _)).mono ?_
  rintro e w4 ⟨rfl, h4⟩
  gi_wp2_with fail
  refine ⟨trivial, ?_⟩
  refine (callsIn_wide.2 (C5.out _)).mono ?_
  rintro e w5 ⟨rfl, rfl⟩
  gi_wp2_with fail
  refine ⟨trivial, ?_⟩
  refine (callsIn_wide.2 (C6.out _ _ _)).mono ?_
  rintro e w6 ⟨rfl, h6⟩
  have H6 := Lib.hid (more h4 h6)
  clear h4 h6
  gi_wp2_with fail
  refine ⟨trivial, ?_⟩
  refine (callsIn_wide.2 (C7.out _)).mono ?_
  rintro e w7 ⟨rfl, h7⟩
  have H7 := Lib.hid (more H6.out h7)
  clear H6 h7
  gi_wp2_with fail
  refine ⟨trivial, ?_⟩
  refine (callsIn_wide.2 (C8.out _)).mono ?_
  rintro e w8 ⟨bx, rfl, hbx, hcx, h8⟩
  have H8 := Lib.hid (more H7.out h8)
  clear H7 h8
  have HCX := Lib.hid hcx
  clear hcx
  gi_wp2_with fail
  have hbW : Below w.heap.size w w8 := hbA.trans ((more H3a.out H8.out).mono (by omega))
  have hzp : pb < w8.heap.size := Nat.lt_of_lt_of_le rl H8.out.size
  have KP8 := Lib.hid ((H8.out.block pb rl).trans KP.out)
  have HW := Lib.hid hbW
  have hBR := Lib.hid ((H8.out.block w.heap.size (by have := H3a.out.size; omega)).trans ((H3a.out.block w.heap.size (by omega)).trans bR))
  have hz8 : w.heap.size < w8.heap.size := by have := H3a.out.size; have := H8.out.size; omega
  clear hbW bR hbA H3a H8 KP C1 C2 C3 C4 C5 C6 C7 C8 hbx
  refine range_stop0 hro (by omega) (gf := 31) (lb := #[.pointer (some ⟨bx, 0, none⟩)]) rfl trivial (enters_of Tryz.func31 (by kernel_rfl) rfl)
    (iter_error (fun _ : Unit => #[.int .i64 0, .nilIface]) 0 6 (by omega) bx _ _ w8 HCX.out) (fun _ _ => trivial) (fun _ _ _ _ _ _ _ _ => trivial) (Below.refl _ _) (fun _ => rfl)
    (fun xs W' => Below w8.heap.size w8 W')
    (fun _ _ _ => False)
    (ownFrom_below (Nat.le_refl _) (Nat.le_refl _))
    (fun cd _ _ _ _ h _ _ => h)
    (Below.refl _ _) ?assign (fun _ _ _ _ _ h => absurd h (Nat.not_lt_zero _)) ?done (fun _ _ _ _ _ h => h.elim)
  case assign =>
    intro l x W' K hK
    gi_wp2
    first
      | exact hK
      | (simp at hK; exact hK)
      | (simp [go_sem] at hK; exact hK)
  case done =>
    rintro D xs W hD rfl hB hK
    have HP := Lib.hid ((hB.block pb hzp).trans KP8.out)
    have d0 := cells_of HP.out 0
    have d1 := cells_of HP.out 1
    have d2 := cells_of HP.out 2
    simp only [List.getElem?_toArray, List.getElem?_cons_zero, List.getElem?_cons_succ] at d0 d1 d2
    have HK := Lib.hid hK
    have HBW := Lib.hid (HW.out.trans (hB.mono (by omega)))
    have HR := Lib.hid ((hB.block w.heap.size hz8).trans hBR.out)
    have hDw : w.heap.size ≤ D := by omega
    have hDl : D < W.heap.size := blk_lt hK
    clear hK hB KP8 HW hBR
    have C9 := Lib.hid new_in
    gi_wp2_with fail
    refine ⟨trivial, ?_⟩
    refine (callsIn_wide.2 (C9.out _)).mono ?_
    rintro e W1 ⟨rfl, _, g1⟩
    have G1 := Lib.hid g1
    clear g1
    gi_wp2_with fail
    refine ⟨trivial, ?_⟩
    refine (callsIn_wide.2 (callsIn_wide.1 (find_any ⟨W.heap.size, 0, none⟩ W1 (fun V _ => within_zero _ V)))).mono ?_
    rintro e W2 ⟨rfl, g2⟩
    have G2 := Lib.hid (more G1.out g2)
    clear g2 G1
    gi_wp2_with fail
    refine ⟨trivial, ?_⟩
    refine (callsIn_wide.2 (callsIn_wide.1 (count_any_zero ⟨W.heap.size, 0, none⟩ W2))).mono ?_
    rintro e W3 ⟨rfl, g3⟩
    have G3 := Lib.hid (more G2.out g3)
    clear g3 G2
    have C10 := Lib.hid works_in
    gi_wp2_with fail
    refine ⟨trivial, ?_⟩
    refine (C10.out _).mono ?_
    rintro e W4 ⟨rfl, g4⟩
    have g5 := more G3.out g4
    have hv : Boxed W4 w.heap.size 4 (.bool false) := (g5.block w.heap.size (by omega)).trans HR.out
    have kW : W4.heap[D]? = some (.deferred (some [])) := (g5.block D hDl).trans HK.out
    have hBf0 := HBW.out.trans (g5.mono (by omega))
    clear g4 g5 G3 HR HK HBW
    have hc := hv.cell
    have hf := hv.frozen
    have HV := Lib.hid hv
    have HF := Lib.hid hBf0
    have HKW := Lib.hid kW
    clear hv hBf0 kW
    gi_wp2
    have hBf : Below w.heap.size w (W4.setCell ⟨w.heap.size, 0, none⟩ (.bool true)) := HF.out.setCell (p := ⟨w.heap.size, 0, none⟩) (Nat.le_refl _) _
    have hcf : Boxed (W4.setCell ⟨w.heap.size, 0, none⟩ (.bool true)) w.heap.size 4 (.bool true) := Boxed.set (W := W4) _ HV.out
    have kf : (W4.setCell ⟨w.heap.size, 0, none⟩ (.bool true)).heap[D]? = some (.deferred (some [])) := (KeepsOthers.setCell W4 ⟨w.heap.size, 0, none⟩ (.bool true)).same D _ HKW.out rfl
    obtain ⟨V, hV⟩ : ∃ V, W4.setCell ⟨w.heap.size, 0, none⟩ (.bool true) = V := ⟨_, rfl⟩
    rw [hV] at hBf hcf kf ⊢
    clear hV
    refine ⟨by simp, .inl ⟨_, _, rfl, run_takeDeferred kf, ?_⟩⟩
    have hc1 := cell_kept hcf.cell (grownBy_putObj' _ D (.deferred none)) (fun r e => by cases e; exact ⟨_, kf, rfl⟩)
    refine ⟨.bool true, ?_, rfl, hBf.trans (belowK_b (w := w) (Nat.le_refl _) _ D _ _ hDw kf rfl rfl)⟩
    simp [results, Tryz.f3, go_sem, hc1]
end Go.Proofs.YtpemfnhplkjndaaGreatDoor.T
