/-
  grasp.Find and grasp.Count where there is none.
-/
import Derived.Test.YtpemfnhplkjndaaGreatDoorGrFind
set_option linter.unusedVariables false
namespace Go.Proofs.YtpemfnhplkjndaaGreatDoor.T
open Go Go.Lib Go.RowKit Go.Shelf
attribute [local go_sem] run_store_float
attribute [local go_sem] Oper.semAt_some

set_option maxRecDepth 100000 in
set_option maxHeartbeats 2000000 in
theorem find_veil (b h : Nat) (u : Value) (w : World) (KW : ∀ W, Below w.heap.size w W → Calls Tryz.prog 18 #[.pointer (some ⟨b, 0, none⟩), .int .i64 (h : Int)] W fun e w' => ∃ g, e = .returned (.tuple #[.slice (some ⟨g, 0, none⟩) 1 1, .int .i64 0]) ∧ w'.heap[g]? = some (.cells #[.iface 190 u] 23 (0, 0)) ∧ Below W.heap.size W w') :
    CallsIn Fence.wide 5 Tryz.prog 27 #[.pointer (some ⟨b, 0, none⟩), .int .i64 (h : Int)] w fun e w' => e = .returned (.tuple #[.int .i16 0, .int .i64 0, .int .i64 100]) ∧ Below w.heap.size w w' := by
  have hro : Fence.wide.round = none := rfl
  have KW' := Lib.hid KW
  clear KW
  refine callsIn_of_wp_marks Tryz.func27 rfl trivial ?_ hro
  simp only [Tryz.ntmps27, List.size_toArray, List.length_cons, List.length_nil, Nat.reduceAdd, Nat.reduceSub, Array.replicate_succ, Array.replicate_zero, List.push_toArray, List.append_toArray, List.nil_append, List.cons_append]
  gi_wp2_with fail
  refine ⟨trivial, ?_⟩
  refine (callsIn_wide.2 (KW'.out _ (three_in _ _ _ _))).mono ?_
  rintro e w1 ⟨g, rfl, hg, hb1⟩
  have G := Lib.hid hg
  clear hg
  obtain ⟨R0, R1, R2⟩ := blk3 hb1
  have hA := below3 hb1
  have hs1 : w.heap.size + 3 ≤ w1.heap.size := by have := hb1.size; simp at this; omega
  clear hb1
  have Q0 := Lib.hid R0; have Q1 := Lib.hid R1; have Q2 := Lib.hid R2
  clear R0 R1 R2
  have c2 := cells_of Q2.out 0
  have f2 := free_of Q2.out 0
  simp only [List.getElem?_toArray, List.getElem?_cons_zero] at c2
  gi_wp2_with fail
  have V0 := Lib.hid (blk_other Q0.out (a := ⟨w.heap.size + 1 + 1, 0, none⟩) (by show w.heap.size ≠ w.heap.size + 1 + 1; omega) (.int .i64 0))
  have V1 := Lib.hid (blk_other Q1.out (a := ⟨w.heap.size + 1 + 1, 0, none⟩) (by simp) (.int .i64 0))
  have V2 := Lib.hid (blk_set Q2.out 0 (.int .i64 0))
  have hgn : g ≠ w.heap.size + 1 + 1 := by
    intro e; subst e
    have := Q2.out.symm.trans G.out
    simp at this
  have VG := Lib.hid (blk_other G.out (a := ⟨w.heap.size + 1 + 1, 0, none⟩) hgn (.int .i64 0))
  clear G
  have hAV : Below w.heap.size w (w1.setCell ⟨w.heap.size + 1 + 1, 0, none⟩ (.int .i64 0)) := hA.setCell (p := ⟨w.heap.size + 1 + 1, 0, none⟩) (by show w.heap.size ≤ w.heap.size + 1 + 1; omega) _
  have hsV : w.heap.size + 3 ≤ (w1.setCell ⟨w.heap.size + 1 + 1, 0, none⟩ (.int .i64 0)).heap.size := by simp; omega
  generalize w1.setCell ⟨w.heap.size + 1 + 1, 0, none⟩ (.int .i64 0) = W at *
  refine ⟨trivial, ?_⟩
  refine (callsIn_wide.2 (those_code .nilIface _ _ _ _)).mono ?_
  rintro e w2 ⟨rfl, rfl⟩
  have hbB : Below W.heap.size W (W.alloc (.cells #[.slice (some ⟨g, 0, none⟩) 1 1] 33)) := (Below.refl _ _).alloc (Nat.le_refl _) _
  have B0 : Boxed (W.alloc (.cells #[.slice (some ⟨g, 0, none⟩) 1 1] 33)) w.heap.size 72 (.int .i16 0) := (hbB.block _ (by omega)).trans V0.out
  have B1 : Boxed (W.alloc (.cells #[.slice (some ⟨g, 0, none⟩) 1 1] 33)) (w.heap.size + 1) 3 (.int .i64 0) := (hbB.block _ (by omega)).trans V1.out
  have B2 : Boxed (W.alloc (.cells #[.slice (some ⟨g, 0, none⟩) 1 1] 33)) (w.heap.size + 1 + 1) 24 (.int .i64 0) := (hbB.block _ (by omega)).trans V2.out
  have HBG := Lib.hid ((hbB.block g (blk_lt VG.out)).trans VG.out)
  clear VG
  have hbx : (W.alloc (.cells #[.slice (some ⟨g, 0, none⟩) 1 1] 33)).cell? ⟨W.heap.size, 0, none⟩ = some (.slice (some ⟨g, 0, none⟩) 1 1) := cell_new (Below.refl _ _) 0
  have hAB := more hAV hbB
  have hsB : w.heap.size + 3 ≤ (W.alloc (.cells #[.slice (some ⟨g, 0, none⟩) 1 1] 33)).heap.size := by simp; omega
  clear V0 V1 V2 hbB hAV Q0 Q1 Q2 c2 f2
  have HB0 := Lib.hid B0; have HB1 := Lib.hid B1; have HB2 := Lib.hid B2; have HBX := Lib.hid hbx
  clear B0 B1 B2 hbx
  gi_wp2_with fail
  generalize W.alloc (.cells #[.slice (some ⟨g, 0, none⟩) 1 1] 33) = V at *
  refine range_stop2 8 9 (fun _ : Unit => .int .i64 0) (fun _ => .int .i16 0) hro (by omega) (gf := 62) (lb := #[.pointer (some ⟨W.heap.size, 0, none⟩)]) rfl trivial (enters_of Tryz.func62 (by kernel_rfl) rfl)
    (iter_veil (fun _ : Unit => #[.int .i64 0, .int .i16 0]) 4 (by omega) W.heap.size g u V HBX.out HBG.out) (fun _ _ => trivial) (fun _ _ _ _ _ _ _ _ => trivial) (Below.refl _ _) (fun _ => rfl)
    (fun xs W' => Boxed W' w.heap.size 72 (.int .i16 0) ∧ Boxed W' (w.heap.size + 1) 3 (.int .i64 0) ∧ Boxed W' (w.heap.size + 1 + 1) 24 (.int .i64 0) ∧ Below w.heap.size w W')
    (fun _ _ _ => False)
    (OwnFrom.and (Own.from (boxed_own _ _ _) _) (OwnFrom.and (Own.from (boxed_own _ _ _) _) (OwnFrom.and (Own.from (boxed_own _ _ _) _) (ownFrom_below (Nat.le_refl _) (by omega)))))
    (fun cd _ _ _ _ h _ _ => h)
    ⟨HB0.out, HB1.out, HB2.out, hAB⟩ ?assign (fun _ _ _ _ _ h => absurd h (Nat.not_lt_zero _)) ?done (fun _ _ _ _ _ h => h.elim)
  case assign =>
    intro l x W' K hK
    gi_wp2
    first
      | exact hK
      | (simp at hK; exact hK)
      | (simp [go_sem] at hK; exact hK)
  case done =>
    rintro D xs W' hD rfl ⟨b0, b1, b2, hB⟩ hK
    have hDw : w.heap.size ≤ D := by have := hAB.size; omega
    have k0 := b0.cell
    have k1 := b1.cell
    have k2 := b2.cell
    have q0 := b0.frozen
    have q1 := b1.frozen
    have q2 := b2.frozen
    have X0 := Lib.hid b0; have X1 := Lib.hid b1; have X2 := Lib.hid b2; have HK := Lib.hid hK
    clear b0 b1 b2 hK
    gi_wp2
    have y0 : Boxed (((W'.setCell ⟨w.heap.size, 0, none⟩ (.int .i16 0)).setCell ⟨w.heap.size + 1, 0, none⟩ (.int .i64 0)).setCell ⟨w.heap.size + 1 + 1, 0, none⟩ (.int .i64 100)) w.heap.size 72 (.int .i16 0) := ((X0.out.set _).other (by omega) _).other (by omega) _
    have y1 : Boxed (((W'.setCell ⟨w.heap.size, 0, none⟩ (.int .i16 0)).setCell ⟨w.heap.size + 1, 0, none⟩ (.int .i64 0)).setCell ⟨w.heap.size + 1 + 1, 0, none⟩ (.int .i64 100)) (w.heap.size + 1) 3 (.int .i64 0) := ((X1.out.other (by omega) _).set _).other (by omega) _
    have y2 : Boxed (((W'.setCell ⟨w.heap.size, 0, none⟩ (.int .i16 0)).setCell ⟨w.heap.size + 1, 0, none⟩ (.int .i64 0)).setCell ⟨w.heap.size + 1 + 1, 0, none⟩ (.int .i64 100)) (w.heap.size + 1 + 1) 24 (.int .i64 100) := ((X2.out.other (by omega) _).other (by omega) _).set _
    have hK2 : (((W'.setCell ⟨w.heap.size, 0, none⟩ (.int .i16 0)).setCell ⟨w.heap.size + 1, 0, none⟩ (.int .i64 0)).setCell ⟨w.heap.size + 1 + 1, 0, none⟩ (.int .i64 100)).heap[D]? = some (.deferred (some [])) := (((KeepsOthers.setCell _ _ _).trans (KeepsOthers.setCell _ _ _)).trans (KeepsOthers.setCell _ _ _)).same D _ HK.out rfl
    have hB2 : Below w.heap.size w (((W'.setCell ⟨w.heap.size, 0, none⟩ (.int .i16 0)).setCell ⟨w.heap.size + 1, 0, none⟩ (.int .i64 0)).setCell ⟨w.heap.size + 1 + 1, 0, none⟩ (.int .i64 100)) := ((hB.setCell (p := ⟨w.heap.size, 0, none⟩) (Nat.le_refl _) _).setCell (p := ⟨w.heap.size + 1, 0, none⟩) (by show w.heap.size ≤ w.heap.size + 1; omega) _).setCell (p := ⟨w.heap.size + 1 + 1, 0, none⟩) (by show w.heap.size ≤ w.heap.size + 1 + 1; omega) _
    generalize ((W'.setCell ⟨w.heap.size, 0, none⟩ (.int .i16 0)).setCell ⟨w.heap.size + 1, 0, none⟩ (.int .i64 0)).setCell ⟨w.heap.size + 1 + 1, 0, none⟩ (.int .i64 100) = W2 at *
    have c0 := cell_kept y0.cell (grownBy_putObj' _ D (.deferred none)) (fun r e => by cases e; exact ⟨_, hK2, rfl⟩)
    have c1 := cell_kept y1.cell (grownBy_putObj' _ D (.deferred none)) (fun r e => by cases e; exact ⟨_, hK2, rfl⟩)
    have c2 := cell_kept y2.cell (grownBy_putObj' _ D (.deferred none)) (fun r e => by cases e; exact ⟨_, hK2, rfl⟩)
    refine ⟨by simp, .inl ⟨_, _, rfl, run_takeDeferred hK2, ?_⟩⟩
    refine ⟨.tuple #[.int .i16 0, .int .i64 0, .int .i64 100], ?_, rfl, hB2.trans (belowK_b (w := w) (Nat.le_refl _) _ D _ _ hDw hK2 rfl rfl)⟩
    simp [results, Tryz.f27, go_sem, c0, c1, c2]
set_option maxRecDepth 100000 in
set_option maxHeartbeats 2000000 in
theorem find_any (p : Addr) (w : World) (KW : ∀ W, Below w.heap.size w W → Calls Tryz.prog 18 #[.pointer (some p), .int .i64 0] W fun e w' => ∃ q, e = .returned (.tuple #[.slice (some q) 0 0, .int .i64 0]) ∧ Below W.heap.size W w') :
    CallsIn Fence.wide 5 Tryz.prog 15 #[.pointer (some p), .int .i64 0] w fun e w' => e = .returned (.tuple #[.nilIface, .int .i64 0, .int .i64 100]) ∧ Below w.heap.size w w' := by
  have hro : Fence.wide.round = none := rfl
  have KW' := Lib.hid KW
  clear KW
  refine callsIn_of_wp_marks Tryz.func15 rfl trivial ?_ hro
  simp only [Tryz.ntmps15, List.size_toArray, List.length_cons, List.length_nil, Nat.reduceAdd, Nat.reduceSub, Array.replicate_succ, Array.replicate_zero, List.push_toArray, List.append_toArray, List.nil_append, List.cons_append]
  gi_wp2_with fail
  refine ⟨trivial, ?_⟩
  refine (callsIn_wide.2 (KW'.out _ (three_in _ _ _ _))).mono ?_
  rintro e w1 ⟨q, rfl, hb1⟩
  obtain ⟨R0, R1, R2⟩ := blk3 hb1
  have hA := below3 hb1
  have hs1 : w.heap.size + 3 ≤ w1.heap.size := by have := hb1.size; simp at this; omega
  clear hb1
  have Q0 := Lib.hid R0; have Q1 := Lib.hid R1; have Q2 := Lib.hid R2
  clear R0 R1 R2
  have c2 := cells_of Q2.out 0
  have f2 := free_of Q2.out 0
  simp only [List.getElem?_toArray, List.getElem?_cons_zero] at c2
  gi_wp2_with fail
  have V0 := Lib.hid (blk_other Q0.out (a := ⟨w.heap.size + 1 + 1, 0, none⟩) (by show w.heap.size ≠ w.heap.size + 1 + 1; omega) (.int .i64 0))
  have V1 := Lib.hid (blk_other Q1.out (a := ⟨w.heap.size + 1 + 1, 0, none⟩) (by simp) (.int .i64 0))
  have V2 := Lib.hid (blk_set Q2.out 0 (.int .i64 0))
  
  have hAV : Below w.heap.size w (w1.setCell ⟨w.heap.size + 1 + 1, 0, none⟩ (.int .i64 0)) := hA.setCell (p := ⟨w.heap.size + 1 + 1, 0, none⟩) (by show w.heap.size ≤ w.heap.size + 1 + 1; omega) _
  have hsV : w.heap.size + 3 ≤ (w1.setCell ⟨w.heap.size + 1 + 1, 0, none⟩ (.int .i64 0)).heap.size := by simp; omega
  generalize w1.setCell ⟨w.heap.size + 1 + 1, 0, none⟩ (.int .i64 0) = W at *
  refine ⟨trivial, ?_⟩
  refine (callsIn_wide.2 (those_any .nilIface _ _ _ _)).mono ?_
  rintro e w2 ⟨rfl, rfl⟩
  have hbB : Below W.heap.size W (W.alloc (.cells #[.slice (some q) 0 0] 33)) := (Below.refl _ _).alloc (Nat.le_refl _) _
  have B0 : Boxed (W.alloc (.cells #[.slice (some q) 0 0] 33)) w.heap.size 20 (.nilIface) := (hbB.block _ (by omega)).trans V0.out
  have B1 : Boxed (W.alloc (.cells #[.slice (some q) 0 0] 33)) (w.heap.size + 1) 3 (.int .i64 0) := (hbB.block _ (by omega)).trans V1.out
  have B2 : Boxed (W.alloc (.cells #[.slice (some q) 0 0] 33)) (w.heap.size + 1 + 1) 24 (.int .i64 0) := (hbB.block _ (by omega)).trans V2.out
  
  have hbx : (W.alloc (.cells #[.slice (some q) 0 0] 33)).cell? ⟨W.heap.size, 0, none⟩ = some (.slice (some q) 0 0) := cell_new (Below.refl _ _) 0
  have hAB := more hAV hbB
  have hsB : w.heap.size + 3 ≤ (W.alloc (.cells #[.slice (some q) 0 0] 33)).heap.size := by simp; omega
  clear V0 V1 V2 hbB hAV Q0 Q1 Q2 c2 f2
  have HB0 := Lib.hid B0; have HB1 := Lib.hid B1; have HB2 := Lib.hid B2; have HBX := Lib.hid hbx
  clear B0 B1 B2 hbx
  gi_wp2_with fail
  generalize W.alloc (.cells #[.slice (some q) 0 0] 33) = V at *
  refine range_stop2 8 9 (fun _ : Unit => .int .i64 0) (fun _ => .nilIface) hro (by omega) (gf := 35) (lb := #[.pointer (some ⟨W.heap.size, 0, none⟩)]) rfl trivial (enters_of Tryz.func35 (by kernel_rfl) rfl)
    (iter_any (fun _ : Unit => #[.int .i64 0, .nilIface]) 0 4 (by omega) W.heap.size _ _ V HBX.out) (fun _ _ => trivial) (fun _ _ _ _ _ _ _ _ => trivial) (Below.refl _ _) (fun _ => rfl)
    (fun xs W' => Boxed W' w.heap.size 20 (.nilIface) ∧ Boxed W' (w.heap.size + 1) 3 (.int .i64 0) ∧ Boxed W' (w.heap.size + 1 + 1) 24 (.int .i64 0) ∧ Below w.heap.size w W')
    (fun _ _ _ => False)
    (OwnFrom.and (Own.from (boxed_own _ _ _) _) (OwnFrom.and (Own.from (boxed_own _ _ _) _) (OwnFrom.and (Own.from (boxed_own _ _ _) _) (ownFrom_below (Nat.le_refl _) (by omega)))))
    (fun cd _ _ _ _ h _ _ => h)
    ⟨HB0.out, HB1.out, HB2.out, hAB⟩ ?assign (fun _ _ _ _ _ h => absurd h (Nat.not_lt_zero _)) ?done (fun _ _ _ _ _ h => h.elim)
  case assign =>
    intro l x W' K hK
    gi_wp2
    first
      | exact hK
      | (simp at hK; exact hK)
      | (simp [go_sem] at hK; exact hK)
  case done =>
    rintro D xs W' hD rfl ⟨b0, b1, b2, hB⟩ hK
    have hDw : w.heap.size ≤ D := by have := hAB.size; omega
    have k0 := b0.cell
    have k1 := b1.cell
    have k2 := b2.cell
    have q0 := b0.frozen
    have q1 := b1.frozen
    have q2 := b2.frozen
    have X0 := Lib.hid b0; have X1 := Lib.hid b1; have X2 := Lib.hid b2; have HK := Lib.hid hK
    clear b0 b1 b2 hK
    gi_wp2
    have y0 : Boxed (((W'.setCell ⟨w.heap.size, 0, none⟩ (.nilIface)).setCell ⟨w.heap.size + 1, 0, none⟩ (.int .i64 0)).setCell ⟨w.heap.size + 1 + 1, 0, none⟩ (.int .i64 100)) w.heap.size 20 (.nilIface) := ((X0.out.set _).other (by omega) _).other (by omega) _
    have y1 : Boxed (((W'.setCell ⟨w.heap.size, 0, none⟩ (.nilIface)).setCell ⟨w.heap.size + 1, 0, none⟩ (.int .i64 0)).setCell ⟨w.heap.size + 1 + 1, 0, none⟩ (.int .i64 100)) (w.heap.size + 1) 3 (.int .i64 0) := ((X1.out.other (by omega) _).set _).other (by omega) _
    have y2 : Boxed (((W'.setCell ⟨w.heap.size, 0, none⟩ (.nilIface)).setCell ⟨w.heap.size + 1, 0, none⟩ (.int .i64 0)).setCell ⟨w.heap.size + 1 + 1, 0, none⟩ (.int .i64 100)) (w.heap.size + 1 + 1) 24 (.int .i64 100) := ((X2.out.other (by omega) _).other (by omega) _).set _
    have hK2 : (((W'.setCell ⟨w.heap.size, 0, none⟩ (.nilIface)).setCell ⟨w.heap.size + 1, 0, none⟩ (.int .i64 0)).setCell ⟨w.heap.size + 1 + 1, 0, none⟩ (.int .i64 100)).heap[D]? = some (.deferred (some [])) := (((KeepsOthers.setCell _ _ _).trans (KeepsOthers.setCell _ _ _)).trans (KeepsOthers.setCell _ _ _)).same D _ HK.out rfl
    have hB2 : Below w.heap.size w (((W'.setCell ⟨w.heap.size, 0, none⟩ (.nilIface)).setCell ⟨w.heap.size + 1, 0, none⟩ (.int .i64 0)).setCell ⟨w.heap.size + 1 + 1, 0, none⟩ (.int .i64 100)) := ((hB.setCell (p := ⟨w.heap.size, 0, none⟩) (Nat.le_refl _) _).setCell (p := ⟨w.heap.size + 1, 0, none⟩) (by show w.heap.size ≤ w.heap.size + 1; omega) _).setCell (p := ⟨w.heap.size + 1 + 1, 0, none⟩) (by show w.heap.size ≤ w.heap.size + 1 + 1; omega) _
    generalize ((W'.setCell ⟨w.heap.size, 0, none⟩ (.nilIface)).setCell ⟨w.heap.size + 1, 0, none⟩ (.int .i64 0)).setCell ⟨w.heap.size + 1 + 1, 0, none⟩ (.int .i64 100) = W2 at *
    have c0 := cell_kept y0.cell (grownBy_putObj' _ D (.deferred none)) (fun r e => by cases e; exact ⟨_, hK2, rfl⟩)
    have c1 := cell_kept y1.cell (grownBy_putObj' _ D (.deferred none)) (fun r e => by cases e; exact ⟨_, hK2, rfl⟩)
    have c2 := cell_kept y2.cell (grownBy_putObj' _ D (.deferred none)) (fun r e => by cases e; exact ⟨_, hK2, rfl⟩)
    refine ⟨by simp, .inl ⟨_, _, rfl, run_takeDeferred hK2, ?_⟩⟩
    refine ⟨.tuple #[.nilIface, .int .i64 0, .int .i64 100], ?_, rfl, hB2.trans (belowK_b (w := w) (Nat.le_refl _) _ D _ _ hDw hK2 rfl rfl)⟩
    simp [results, Tryz.f15, go_sem, c0, c1, c2]
end Go.Proofs.YtpemfnhplkjndaaGreatDoor.T
