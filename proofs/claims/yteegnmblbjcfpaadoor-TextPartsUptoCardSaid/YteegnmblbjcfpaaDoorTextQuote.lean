/-
  text.Quote.
-/
import Derived.Test.YteegnmblbjcfpaaDoorTextShow
set_option linter.unusedVariables false
namespace Go.Proofs.YteegnmblbjcfpaaDoor.T
open Go Go.Lib Go.RowKit Go.Shelf
attribute [local go_sem] Oper.semAt_some
attribute [local go_sem] if_true

theorem row_byte {B : Nat} {w : World} {v : Value} {l : List UInt8} (c : Nat) (hc : c < 256) (h : w.ownsRow B 5 1 v (l.length + 1) (byteCells l ++ [.int .u8 (c : Int)])) : BytesRow B w v (l ++ [UInt8.ofNat c]) := by
  unfold BytesRow
  rw [byteCells_append, List.length_append]
  have e : byteCells [UInt8.ofNat c] = [.int .u8 (c : Int)] := by
    simp [byteCells]; omega
  rw [e]
  exact h

/-- what Quote has put behind -/
def quL (s : ByteArray) (l : List (Nat × Int)) : List UInt8 := [34] ++ shT s true l
theorem quL_len (s : ByteArray) (l : List (Nat × Int)) : (quL s l).length ≤ 5 * l.length + 1 := by have := shT_len s true l; unfold quL; simp; omega
theorem not_row_def {W : World} {D : Nat} {ds : Option (List Deferred)} (hK : W.heap[D]? = some (.deferred ds)) {B : Nat} {e : TypeId} {size k : Nat} {v : Value} {xs : List Value} (hr : W.ownsRow B e size v k xs) : some D ≠ v.ownBlock := by
  rcases hr.2 with ⟨rfl, _⟩ | ⟨g, cap, cur, rfl, _, hgb, _⟩
  · simp [Value.ownBlock]
  · intro e'
    obtain rfl : D = g := by simpa [Value.ownBlock] using e'
    rw [hK] at hgb; cases hgb

set_option maxRecDepth 100000 in
set_option maxHeartbeats 2000000 in
theorem Quote_in (s : ByteArray) (hs : s.size ≤ 16777216) (w : World) (hT : Tabs w) (h2 : 2 ≤ w.heap.size) :
    CallsIn Fence.wide 8 Tryd.prog 18 #[.string s] w fun e w' => e = .returned (.string ⟨(quL s (pcs s) ++ [34]).toArray⟩) ∧ Below w.heap.size w w' := by
  have hro : Fence.wide.round = none := rfl
  have hw : ∀ f, Fence.wide.fn f := fun _ => trivial
  have hpl := pcs_length s
  obtain ⟨i0, hi, hz0, hz1, hz2⟩ := info_parts infoByte
  have hmk : ∀ W : World, (Instr.makeSlice 54 (.int .i64 0) (.int .i64 ((s.size : Int) + 2))).run Tryd.prog W = .ok (.slice (some ⟨W.heap.size, 0, none⟩) 0 (s.size + 2)) (W.alloc (.cells (madeCells (Value.int .u8 0).cells ((s.size + 2) * 1)) 5)) := fun W => by
    have h := run_make (P := Tryd.prog) W 54 5 i0 (.int .u8 0) Tryd.underlying54 hi hz0 .i64 .i64 0 ((s.size : Int) + 2) (by omega) (by omega) (by rw [hz2]; omega) (by omega)
    rw [hz1, show ((s.size : Int) + 2).toNat = s.size + 2 from by omega] at h
    simpa using h
  have hB0 : Below w.heap.size w (((w.alloc (.cells #[.string s] 9)).alloc (.cells (madeCells #[.int .u8 0] (s.size + 2)) 5)).alloc (.cells #[.slice (some ⟨w.heap.size + 1, 0, none⟩) 0 (s.size + 2)] 54)) :=
    (((Below.refl _ w).alloc (Nat.le_refl _) _).alloc (by simp) _).alloc (by simp; omega) _
  have bS := ((Boxed.new w 9 (.string s)).alloc (.cells (madeCells #[.int .u8 0] (s.size + 2)) 5)).alloc (.cells #[.slice (some ⟨w.heap.size + 1, 0, none⟩) 0 (s.size + 2)] 54)
  have bR := (World.ownsRow_made (base := w.heap.size) (e := 5) (size := 1) (w.alloc (.cells #[.string s] 9)) (madeCells #[.int .u8 0] (s.size + 2)) (s.size + 2) (by simp) (by unfold maxLen; omega) (by simp [size_madeCells])).alloc (.cells #[.slice (some ⟨w.heap.size + 1, 0, none⟩) 0 (s.size + 2)] 54)
  have bO := Boxed.new ((w.alloc (.cells #[.string s] 9)).alloc (.cells (madeCells #[.int .u8 0] (s.size + 2)) 5)) 54 (.slice (some ⟨w.heap.size + 1, 0, none⟩) 0 (s.size + 2))
  simp only [World.size_alloc] at bO bR
  generalize hW3 : (((w.alloc (.cells #[.string s] 9)).alloc (.cells (madeCells #[.int .u8 0] (s.size + 2)) 5)).alloc (.cells #[.slice (some ⟨w.heap.size + 1, 0, none⟩) 0 (s.size + 2)] 54)) = W3 at hB0 bS bR bO
  have hZ3 : W3.heap.size = w.heap.size + 1 + 1 + 1 := by rw [← hW3]; simp
  have hcO := bO.cell
  have hfO := bO.frozen
  have hszW := hB0.size
  refine callsIn_of_wp_marks Tryd.func18 rfl trivial ?_ hro
  simp only [Tryd.ntmps18, List.size_toArray, List.length_cons, List.length_nil, Nat.reduceAdd, Nat.reduceSub, Array.replicate_succ, Array.replicate_zero, List.push_toArray, List.append_toArray, List.nil_append, List.cons_append]
  gi_wp2_with (first | (gi_at_builtin; refine wpListIn_append_own _ rfl _ _ 54 rfl w.heap.size 5 i0 (.int .u8 0) 1 1 Tryd.underlying54 hi hz0 hz1 hz2 rfl (by decide) _ _ _ rfl (bR.alloc _) ⟨w.heap.size + 1 + 1 + 1, 0, none⟩ 1 1 [.int .u8 34] rfl rfl (by rw [← hZ3]; exact cell_one_new _ _ _) (by simp [Value.oneCell']) (by unfold maxLen; omega) (by omega) (by simp; omega) ?_; intro v' w1 hown' hgrow _; obtain ⟨q1, q2, q3, rfl⟩ := row_is_slice (row_byte (l := []) 34 (by omega) hown'); obtain ⟨hv1, hv2, hr2, hk2, hb2⟩ := bO.appended (by decide) bR hszW (by omega) hown' hgrow; have hc1 := hv1.cell; have hf1 := hv1.frozen; have hcS := (((bS.alloc _).kept hgrow (bS.not_row (by decide) bR)).other (B' := w.heap.size + 1 + 1) (by omega) (.slice q1 q2 q3)).cell) | (gi_at_call 10; refine (Runes_in _ _ _).mono ?_; rintro e w' ⟨rfl, rfl⟩))
  have hz1 := hb2.size
  rw [World.size_setCell] at hz1
  have hz5 : w.heap.size + 3 ≤ w1.heap.size := by have := hgrow.size; rw [World.size_alloc] at this; omega
  have bS5 := ((bS.alloc _).kept hgrow (bS.not_row (by decide) bR)).other (B' := w.heap.size + 1 + 1) (by omega) (.slice q1 q2 q3)
  have bN := Boxed.new (w1.setCell ⟨w.heap.size + 1 + 1, 0, none⟩ (.slice q1 q2 q3)) 9 (.string s)
  rw [World.size_setCell] at bN
  have hB5 : Below w.heap.size w ((w1.setCell ⟨w.heap.size + 1 + 1, 0, none⟩ (.slice q1 q2 q3)).alloc (.cells #[.string s] 9)) := (hB0.trans hb2).alloc (by rw [World.size_setCell]; omega) _
  have HT0 := hT.below hB5 h2
  have hr5 : BytesRow w.heap.size (w1.setCell ⟨w.heap.size + 1 + 1, 0, none⟩ (.slice q1 q2 q3)) (.slice q1 q2 q3) (quL s (vals ([] : List (Pc s)))) := row_byte (l := []) 34 (by omega) hr2
  refine wpIn_rangeFunc_ownF hro (by omega) (gf := 33) (lb := #[.pointer (some ⟨w1.heap.size, 0, none⟩)]) rfl trivial (enters_of Tryd.func33 (by kernel_rfl) rfl)
    (runes_stops 7 (by omega) w1.heap.size w.heap.size s (by omega) _ HT0 (by omega) (by simp; omega) (by simp) bN.cell) KpR.t (KpR.b (by simp; omega)) (Below.refl _ _) (fun _ => rfl)
    (fun pre W => (((∃ v, Boxed W (w.heap.size + 1 + 1) 54 v ∧ W.ownsRow w.heap.size 5 1 v (quL s (vals pre)).length (byteCells (quL s (vals pre))) ∧ True) ∧ Boxed W w.heap.size 9 (.string s)) ∧ Boxed W w1.heap.size 9 (.string s)) ∧ Below w.heap.size w W)
    (fun _ _ _ => False)
    (OwnFrom.and (OwnFrom.and (OwnFrom.and (Own.from (holdsRow_own w.heap.size (w.heap.size + 1 + 1) 54 5 1 (fun pre => (quL s (vals pre)).length) (fun pre => byteCells (quL s (vals pre))) (fun pre v => True)) _) (Own.from (boxed_own _ _ _) _)) (Own.from (boxed_own _ _ _) _)) (ownFrom_below (Nat.le_refl _) (by simp; omega)))
    (fun _ _ _ _ _ hs _ _ => hs)
    ⟨⟨⟨⟨_, hv2.alloc _, World.ownsRow.alloc hr5 _, trivial⟩, bS5.alloc _⟩, bN⟩, hB5⟩
    (fun x => { tmps := #[.string s, .pointer (some ⟨w.heap.size, 0, none⟩), .string ⟨#[]⟩, .pointer (some ⟨w.heap.size + 1 + 1, 0, none⟩), .int .i64 x.1.1, .int .i32 x.1.2, .string s, .int .i64 s.size, .int .i64 ((s.size : Int) + 2), .slice (some ⟨w.heap.size + 1, 0, none⟩) 0 (s.size + 2), .slice (some ⟨w.heap.size + 1, 0, none⟩) 0 (s.size + 2), .slice (some ⟨w.heap.size + 1 + 1 + 1, 0, none⟩) 1 1, .slice q1 q2 q3, .string s, .func (.func 33) #[] #[.pointer (some ⟨w1.heap.size, 0, none⟩)], .int .i64 x.1.1, .int .i32 x.1.2, undef, undef, undef, undef, undef, undef, undef, undef, undef, undef, undef, undef, undef, undef, undef], defers := [] }) ?assign ?body ?done ?stop
  case assign =>
    intro l x W K hK
    gi_wp2
    exact hK
  case body =>
    clear hgrow hown' hr5 hc1 hf1 hcS hcO hfO bR bO bS hW3 bN bS5 hv1 hv2 hr2 hk2 hb2 hB5 HT0
    rintro l pre x W ⟨⟨⟨⟨v, hv, hrow, _⟩, hbS⟩, hbN⟩, hB⟩ hlt
    have hc := hv.cell
    have hcS := hbS.cell
    have hxb := pc_bd s x.1.1
    have hxm := pcs_mem s x.1 x.2
    rw [← hxm.2] at hxb
    have hl5 := quL_len s (vals pre)
    rw [vals_length] at hl5
    have hszW := hB.size
    have hsn : quL s (vals (pre ++ [x])) = quL s (vals pre) ++ apQ s true x.1 := by
      rw [vals_snoc]; unfold quL; rw [shT_snoc]; rfl
    have HSN := Lib.hid hsn
    clear hsn
    have hix : ∀ W' : World, (Instr.index 9 (.string s) (.int .i64 (x.1.1 : Int))).run Tryd.prog W' = .ok (.int .u8 (bt s x.1.1 : Int)) W' := fun W' => by
      rw [run_index_string _ _ _ _ _ Tryd.underlying9, dif_pos ⟨by omega, by omega⟩, bt_get s _ hxm.1]
      simp
    have hmx : Tryd.prog.follows .mixedOrders = true := by kernel_rfl
    have hd : 1 ≤ 8 - 1 - 1 := by omega
    cases hq : (x.1.2 == 34) with
    | false =>
      have hap := appendShown_in w.heap.size W.drew v (quL s (vals pre)) (bt s x.1.1) x.1.2 (bt_lt _ _) hxb.1 hxb.2 (by omega) hszW hrow
      have HAP := Lib.hid hap
      clear hap hxm
      gi_wp2
      gi_region_with_o (gi_at_call 35; refine (CallsIn.inRound l (callsIn_wide.2 HAP.out)).mono ?_; rintro e w1 ⟨v', rfl, hown', hgrow⟩; obtain ⟨q1, q2, q3, rfl⟩ := row_is_slice hown'; obtain ⟨hv1, hv2, hr2, hk2, hb2⟩ := boxed_called (W := W.drew) hv (by decide) hrow hszW (by omega) hown' hgrow; have hc1 := hv1.cell; have hf1 := hv1.frozen)
      all_goals gi_wp2
      all_goals
        have hk3 := (KeepsOthers.drew W).trans hk2
        have hb3 := ((Below.refl w.heap.size W).drew).trans hb2
        have hS2 := ((show Boxed W.drew w.heap.size 9 (.string s) from hbS).kept hgrow ((show Boxed W.drew w.heap.size 9 (.string s) from hbS).not_row (by decide) (show W.drew.ownsRow _ _ _ _ _ _ from hrow))).other (B' := w.heap.size + 1 + 1) (by omega) (.slice q1 q2 q3)
        have hN2 := ((show Boxed W.drew _ 9 (.string s) from hbN).kept hgrow ((show Boxed W.drew _ 9 (.string s) from hbN).not_row (by decide) (show W.drew.ownsRow _ _ _ _ _ _ from hrow))).other (B' := w.heap.size + 1 + 1) (by omega) (.slice q1 q2 q3)
        refine ⟨hk3, ⟨hb3, hk3.walks, fun _ => hN2.cell⟩, ⟨⟨⟨_, hv2, And.intro ?_ trivial⟩, hS2⟩, hN2⟩, hB.trans hb3⟩
        rw [HSN.out]
        have e : apQ s true x.1 = apL (bt s x.1.1) x.1.2 := by unfold apQ; rw [if_neg (by simpa using hq)]; rfl
        rw [e]
        exact hr2
    | true =>
      clear hxm
      gi_wp2_with (gi_at_builtin; refine wpListIn_append_own _ rfl _ _ 54 rfl w.heap.size 5 i0 (.int .u8 0) 1 1 Tryd.underlying54 hi hz0 (by assumption) hz2 rfl (by decide) _ _ _ rfl (hrow.alloc _) ⟨W.heap.size, 0, none⟩ 1 1 [.int .u8 92] rfl rfl (cell_one_new _ _ _) (by simp [Value.oneCell']) (by unfold maxLen; omega) (by omega) (by simp; omega) ?_; intro v' w2 hown' hgrow _; have hown2 := row_byte 92 (by omega) hown'; obtain ⟨p1, p2, p3, rfl⟩ := row_is_slice hown2; obtain ⟨hv1, hv2, hr2, hk2, hb2⟩ := hv.appended (by decide) hrow hszW (by omega) hown2 hgrow; have hc1 := hv1.cell; have hf1 := hv1.frozen; have hc2 := hv2.cell; have hf2 := hv2.frozen; have hbS2 := (((hbS.alloc _).kept hgrow (hbS.not_row (by decide) hrow)).other (B' := w.heap.size + 1 + 1) (by omega) (.slice p1 p2 p3)); have hcS2 := hbS2.cell; have hbN2 := (((hbN.alloc _).kept hgrow (hbN.not_row (by decide) hrow)).other (B' := w.heap.size + 1 + 1) (by omega) (.slice p1 p2 p3)))
      have hap := appendShown_in w.heap.size (w2.setCell ⟨w.heap.size + 1 + 1, 0, none⟩ (.slice p1 p2 p3)).drew (.slice p1 p2 p3) (quL s (vals pre) ++ [92]) (bt s x.1.1) x.1.2 (bt_lt _ _) hxb.1 hxb.2 (by simp; omega) (Nat.le_trans hszW hb2.size) hr2
      have HAP := Lib.hid hap
      clear hap
      gi_region_with_o (gi_at_call 35; refine (CallsIn.inRound l (callsIn_wide.2 HAP.out)).mono ?_; rintro e w3 ⟨v', rfl, hown3, hgrow3⟩; obtain ⟨q1, q2, q3, rfl⟩ := row_is_slice hown3; obtain ⟨gv1, gv2, gr2, gk2, gb2⟩ := boxed_called (W := (w2.setCell ⟨w.heap.size + 1 + 1, 0, none⟩ (.slice p1 p2 p3)).drew) hv2 (by decide) hr2 (Nat.le_trans hszW hb2.size) (by omega) hown3 hgrow3; have gc1 := gv1.cell; have gf1 := gv1.frozen)
      all_goals gi_wp2
      all_goals
        have hk3 := hk2.trans ((KeepsOthers.drew _).trans gk2)
        have hb3 := hb2.trans (((Below.refl w.heap.size _).drew).trans gb2)
        have hS2 := ((show Boxed (w2.setCell ⟨w.heap.size + 1 + 1, 0, none⟩ (.slice p1 p2 p3)).drew _ 9 (.string s) from hbS2).kept hgrow3 ((show Boxed (w2.setCell ⟨w.heap.size + 1 + 1, 0, none⟩ (.slice p1 p2 p3)).drew _ 9 (.string s) from hbS2).not_row (by decide) (show (w2.setCell ⟨w.heap.size + 1 + 1, 0, none⟩ (.slice p1 p2 p3)).drew.ownsRow _ _ _ _ _ _ from hr2))).other (B' := w.heap.size + 1 + 1) (by omega) (.slice q1 q2 q3)
        have hN2 := ((show Boxed (w2.setCell ⟨w.heap.size + 1 + 1, 0, none⟩ (.slice p1 p2 p3)).drew _ 9 (.string s) from hbN2).kept hgrow3 ((show Boxed (w2.setCell ⟨w.heap.size + 1 + 1, 0, none⟩ (.slice p1 p2 p3)).drew _ 9 (.string s) from hbN2).not_row (by decide) (show (w2.setCell ⟨w.heap.size + 1 + 1, 0, none⟩ (.slice p1 p2 p3)).drew.ownsRow _ _ _ _ _ _ from hr2))).other (B' := w.heap.size + 1 + 1) (by omega) (.slice q1 q2 q3)
        refine ⟨hk3, ⟨hb3, hk3.walks, fun _ => hN2.cell⟩, ⟨⟨⟨_, gv2, And.intro ?_ trivial⟩, hS2⟩, hN2⟩, hB.trans hb3⟩
        rw [HSN.out]
        have e : apQ s true x.1 = [92] ++ apL (bt s x.1.1) x.1.2 := by unfold apQ; rw [if_pos (by simpa using hq)]
        rw [e, ← List.append_assoc]
        exact gr2
  case done =>
    clear hgrow hown' hr5 hc1 hf1 hcS hcO hfO bR bO bS hW3 bN bS5 hv1 hv2 hr2 hk2 hb2 hB5 HT0
    rintro D ys W hD hys ⟨⟨⟨⟨v, hv, hrow, _⟩, hbS⟩, hbN⟩, hB⟩ hK
    have hc := hv.cell
    have hszW := hB.size
    have hl5 := quL_len s (vals ys)
    rw [vals_length] at hl5
    rw [hys] at hrow
    have hl6 := quL_len s (pcs s)
    gi_wp2_with (gi_at_builtin; refine wpListIn_append_own _ rfl _ _ 54 rfl w.heap.size 5 i0 (.int .u8 0) 1 1 Tryd.underlying54 hi hz0 (by assumption) hz2 rfl (by decide) _ _ _ rfl (hrow.alloc _) ⟨W.heap.size, 0, none⟩ 1 1 [.int .u8 34] rfl rfl (cell_one_new _ _ _) (by simp [Value.oneCell']) (by unfold maxLen; omega) (by omega) (by simp; omega) ?_; intro v' w2 hown' hgrow _; have hcv := row_string (row_byte 34 (by omega) hown'))
    have hK2 := ((grown_of_alloc' hgrow).block D (Array.getElem?_eq_some_iff.1 hK).1 (not_row_def hK hrow)).trans hK
    refine ⟨by simp, .inl ⟨_, _, rfl, run_takeDeferred hK2, ?_⟩⟩
    have hb3 := (Below.refl w.heap.size W).grown (grown_of_alloc' hgrow) hszW (fun j hj => (hrow.lt j hj).1)
    exact ⟨_, results_tmp rfl _ _ _, rfl, (hB.trans hb3).trans (belowK_b (w := w) (Nat.le_refl _) w2 D _ _ (by simp at hD; omega) hK2 rfl rfl)⟩
  case stop =>
    rintro D c pre W _ _ h _
    exact h.elim
end Go.Proofs.YteegnmblbjcfpaaDoor.T
