/-
  errataref01.Unquote.
-/
import Derived.Deep.RegionLaw
import Derived.IntWalk
import Derived.Test.YteegnmblbjcfpaaDoorTextPlainBack
set_option linter.unusedVariables false
namespace Go.Proofs.YteegnmblbjcfpaaDoor.T
open Go Go.Lib Go.RowKit Go.Shelf

theorem digit_st (c : Nat) (x : Int) (h : digI c = x) (w : World) : Calls Tryd.prog 39 #[.int .u8 (c : Int)] w fun e w' => e = .returned (.int .i64 x) ∧ w' = w := by subst h; exact (digit_in c w).mono fun e w' h => ⟨h.1, h.2.symm⟩
theorem digit_eq (c : Nat) (x : Int) (h : digI c = x) (w : World) : Calls Tryd.prog 39 #[.int .u8 (c : Int)] w fun e w' => e = .returned (.int .i64 x) ∧ w = w' := by subst h; exact digit_in c w
set_option maxRecDepth 100000 in
set_option maxHeartbeats 64000000 in
theorem refUnquote_in (t : ByteArray) (hs : t.size ≤ 16777216) (w : World) :
    Calls Tryd.prog 20 #[.string t] w fun e w' => e = .returned (unV (unR t)) ∧ Below w.heap.size w w' := by
  obtain ⟨i0, hi, hz0, hz1, hz2⟩ := info_parts infoByte
  have hlen := unqS_len t t.size 1 [] (by simp)
  have hU0 : unR t = if quB ⟨(unqS t t.size 1 []).toArray⟩ = t then some ⟨(unqS t t.size 1 []).toArray⟩ else none := rfl
  generalize unR t = V at *
  generalize hR : unqS t t.size 1 [] = R at *
  have hRE := Lib.hid hR
  have HU := Lib.hid hU0
  clear hR hU0
  have hQ := fun (W : World) => refQuote_in ⟨R.toArray⟩ (by show R.toArray.size ≤ _; simp; simp at hlen; omega) W
  have e : (⟨([34] ++ shL ⟨R.toArray⟩ true (pcs ⟨R.toArray⟩) ++ [34]).toArray⟩ : ByteArray) = quB ⟨R.toArray⟩ := by rw [← shT_shL]; rfl
  simp only [e] at hQ
  clear e
  have HQ := Lib.hid hQ
  clear hQ
  go_enter Tryd.func20, Tryd.ntmps20
  go_wp2
  go_loopw [4, 5] (fun v i wr => ∃ (f k : Nat) (l : List UInt8), i = .int .i64 k ∧ k ≤ t.size + 1 ∧ t.size ≤ k + 1 + f ∧ unqS t f k l = R ∧ l.length ≤ k ∧ BytesRow w.heap.size wr v l ∧ Below w.heap.size w wr)
    (fun _ i _ => t.size + 1 - (RowKit.intOf i).toNat)
  case atStart => exact ⟨t.size, 1, [], rfl, by omega, by omega, hRE.out, by simp, World.ownsRow_nil _ _ _ _, Below.refl _ _⟩
  case round =>
    obtain ⟨f, k, l, rfl, hk, hf, hr, hl, hrow, hbw⟩ := hrel
    have hrow' : wr.ownsRow w.heap.size 5 1 u4 l.length (byteCells l) := hrow
    have hszr := hbw.size
    by_cases hlt : k + 1 < t.size
    · obtain ⟨f, rfl⟩ : ∃ j, f = j + 1 := ⟨f - 1, by omega⟩
      have ix0 := fun W : World => idx_at t k (k : Int) rfl (by omega) W
      have hb0 := bt_lt t k
      have hb1 := bt_lt t (k + 1)
      unfold unqS at hr
      rw [if_pos hlt] at hr
      by_cases a1 : bt t k = 92
      · have b1 : ((bt t k : Int) != 92) = false := by rw [a1]; rfl
        by_cases a2 : t.size ≤ k + 2
        · rw [if_pos (.inr a2)] at hr
          have b2 : decide ((t.size : Int) ≤ (k : Int) + 2) = true := by simp; omega
          have HR := Lib.hid hr
          clear hr a1
          go_wp2_with (at_builtin; refine wpList_append_own _ rfl _ _ 54 rfl w.heap.size 5 i0 (.int .u8 0) 1 1 Tryd.underlying54 hi hz0 hz1 hz2 rfl (by decide) _ _ _ rfl (hrow'.alloc _) ⟨wr.heap.size, 0, none⟩ 1 1 [.int .u8 (bt t k : Int)] rfl rfl (cell_one_new _ _ _) (by simp [Value.oneCell']) (by unfold maxLen; omega) (by omega) (by simp; omega) ?_; intro v' w3 hown' hgrow _)
          go_roundw
          case rel =>
            refine ⟨f, k + 1, l ++ [UInt8.ofNat (bt t k)], by go_num, by omega, by omega, HR.out, by simp; omega, row_byte _ (by omega) hown', hbw.grown (grown_of_alloc' hgrow) hszr (fun j hj => (hrow'.lt j hj).1)⟩
          case measure => simp [RowKit.intOf]; omega
        · rw [if_neg (by omega)] at hr
          have b2 : decide ((t.size : Int) ≤ (k : Int) + 2) = false := by simp; omega
          have ix1 := fun W : World => idx_at t (k + 1) ((k : Int) + 1) (by omega) (by omega) W
          have D2 := digI_bd (bt t (k + 2))
          have D3 := digI_bd (bt t (k + 3))
          by_cases a3 : bt t (k + 1) = 120 ∧ k + 4 < t.size ∧ 0 ≤ digI (bt t (k + 2)) ∧ 0 ≤ digI (bt t (k + 3))
          · rw [if_pos a3] at hr
            obtain ⟨c1, c2, c3, c4⟩ := a3
            have b3 : ((bt t (k + 1) : Int) == 120) = true := by rw [c1]; rfl
            have b4 : decide ((k : Int) + 4 < (t.size : Int)) = true := by simp; omega
            have ix2 := fun W : World => idx_at t (k + 2) ((k : Int) + 2) (by omega) (by omega) W
            have ix3 := fun W : World => idx_at t (k + 3) ((k : Int) + 3) (by omega) (by omega) W
            clear hb0 hb1
            generalize bt t (k + 2) = p2 at *
            generalize bt t (k + 3) = p3 at *
            generalize bt t (k + 1) = p1 at *
            generalize bt t k = p0 at *
            obtain ⟨x, hx⟩ : ∃ j : Nat, digI p2 = j := ⟨(digI p2).toNat, by omega⟩
            obtain ⟨y, hy⟩ : ∃ j : Nat, digI p3 = j := ⟨(digI p3).toNat, by omega⟩
            rw [hx, hy] at hr
            simp only [Int.toNat_natCast] at hr
            rw [hx] at D2 c3
            rw [hy] at D3 c4
            have HX := Lib.hid hx
            have HY := Lib.hid hy
            have HR := Lib.hid hr
            clear hr a1 a2 c1 hx hy
            go_wp2_with (go_at_call 39; first | ((with_reducible refine (digit_eq p2 _ HX.out _).mono ?_); rintro e w2 ⟨rfl, hw⟩; subst w2) | ((with_reducible refine (digit_eq p3 _ HY.out _).mono ?_); rintro e w2 ⟨rfl, hw⟩; subst w2))
            have s1 : IntKind.i64.wrap ((k : Int) + 2) = (k : Int) + 2 := IntWalk.i64_in _ (by omega)
            have s2 : IntKind.i64.wrap ((k : Int) + 3) = (k : Int) + 3 := IntWalk.i64_in _ (by omega)
            have s3 : IntKind.i64.wrap (16 * (x : Int)) = 16 * (x : Int) := IntWalk.i64_in _ (by omega)
            have s4 : IntKind.i64.wrap (16 * (x : Int) + (y : Int)) = 16 * (x : Int) + (y : Int) := IntWalk.i64_in _ (by omega)
            have s5 : IntKind.u8.wrap (16 * (x : Int) + (y : Int)) = 16 * (x : Int) + (y : Int) := IntWalk.u8_in _ (by omega)
            obtain ⟨v', w3, hrun, hown', hgrow, _⟩ := run_append_own (P := Tryd.prog) (wr.alloc (.cells #[.int .u8 (16 * (x : Int) + (y : Int))] 5)).drew w.heap.size 54 54 5 i0 (.int .u8 0) 1 1 Tryd.underlying54 hi hz0 hz1 hz2 rfl (by decide) u4 l.length (byteCells l) (World.ownsRow.alloc hrow' _) ⟨wr.heap.size, 0, none⟩ 1 1 [.int .u8 (16 * (x : Int) + (y : Int))] rfl (cell_one_new _ _ _) (by simp [Value.oneCell']) (by unfold maxLen; omega) (by omega) (by simp; omega)
            go_region_law (first | (refine step_append_run rfl (.tmp 59) (.tmp 73) 54 rfl u4 (.slice (some ⟨wr.heap.size, 0, none⟩) 1 1) v' w3 (by simp [Act.eval]) (by simp [Act.eval]) hrun ?_) | (go_simp; go_at_call 39; first | ((with_reducible refine (digit_eq p2 _ HX.out _).mono ?_); rintro e w2 ⟨rfl, hw⟩; subst w2) | ((with_reducible refine (digit_eq p3 _ HY.out _).mono ?_); rintro e w2 ⟨rfl, hw⟩; subst w2)))
            clear s1 s2 s3 s4 s5
            all_goals
              go_wp2
              go_roundw
              case rel =>
                have e1 : (16 * (x : Int) + (y : Int)) = ((16 * x + y : Nat) : Int) := by omega
                rw [e1] at hown'
                exact ⟨f, k + 4, l ++ [UInt8.ofNat (16 * x + y)], by go_num, by omega, by omega, HR.out, by simp; omega, row_byte _ (by omega) hown', hbw.grown (grown_of_alloc hgrow) hszr (fun j hj => (hrow'.lt j hj).1)⟩
              case measure => simp [RowKit.intOf]; omega
          · rw [if_neg a3] at hr
            by_cases c1 : bt t (k + 1) = 120
            · have b3 : ((bt t (k + 1) : Int) == 120) = true := by rw [c1]; rfl
              by_cases c2 : k + 4 < t.size
              · have b4 : decide ((k : Int) + 4 < (t.size : Int)) = true := by simp; omega
                have ix2 := fun W : World => idx_at t (k + 2) ((k : Int) + 2) (by omega) (by omega) W
                have ix3 := fun W : World => idx_at t (k + 3) ((k : Int) + 3) (by omega) (by omega) W
                by_cases c3 : 0 ≤ digI (bt t (k + 2))
                · have c4 : digI (bt t (k + 3)) = -1 := by
                    have : ¬ 0 ≤ digI (bt t (k + 3)) := fun h => a3 ⟨c1, c2, c3, h⟩
                    omega
                  clear a3
                  generalize bt t (k + 2) = p2 at *
                  generalize bt t (k + 3) = p3 at *
                  generalize bt t (k + 1) = p1 at *
                  generalize bt t k = p0 at *
                  obtain ⟨x, hx⟩ : ∃ j : Nat, digI p2 = j := ⟨(digI p2).toNat, by omega⟩
                  rw [hx] at D2 c3
                  have HX := Lib.hid hx
                  have HY := Lib.hid c4
                  have HR := Lib.hid hr
                  clear hr a1 a2 c1 hx c4 D3
                  go_wp2_with (first | (go_at_call 39; first | ((with_reducible refine (digit_eq p2 _ HX.out _).mono ?_); rintro e w2 ⟨rfl, hw⟩; subst w2) | ((with_reducible refine (digit_eq p3 _ HY.out _).mono ?_); rintro e w2 ⟨rfl, hw⟩; subst w2)) | (at_builtin; refine wpList_append_own _ rfl _ _ 54 rfl w.heap.size 5 i0 (.int .u8 0) 1 1 Tryd.underlying54 hi hz0 hz1 hz2 rfl (by decide) _ _ _ rfl (hrow'.alloc _) ⟨wr.heap.size, 0, none⟩ 1 1 [.int .u8 (p1 : Int)] rfl rfl (cell_one_new _ _ _) (by simp [Value.oneCell']) (by unfold maxLen; omega) (by omega) (by simp; omega) ?_; intro v' w3 hown' hgrow _))
                  go_roundw
                  case rel =>
                    exact ⟨f, k + 2, l ++ [UInt8.ofNat p1], by go_num, by omega, by omega, HR.out, by simp; omega, row_byte _ (by omega) hown', hbw.grown (grown_of_alloc' hgrow) hszr (fun j hj => (hrow'.lt j hj).1)⟩
                  case measure => simp [RowKit.intOf]; omega
                · have c4 : digI (bt t (k + 2)) = -1 := by omega
                  clear a3 c3 D2 D3
                  generalize bt t (k + 2) = p2 at *
                  generalize bt t (k + 1) = p1 at *
                  generalize bt t k = p0 at *
                  have HX := Lib.hid c4
                  have HR := Lib.hid hr
                  clear hr a1 a2 c1 c4
                  go_wp2_with (first | (go_at_call 39; (with_reducible refine (digit_eq p2 _ HX.out _).mono ?_); rintro e w2 ⟨rfl, hw⟩; subst w2) | (at_builtin; refine wpList_append_own _ rfl _ _ 54 rfl w.heap.size 5 i0 (.int .u8 0) 1 1 Tryd.underlying54 hi hz0 hz1 hz2 rfl (by decide) _ _ _ rfl (hrow'.alloc _) ⟨wr.heap.size, 0, none⟩ 1 1 [.int .u8 (p1 : Int)] rfl rfl (cell_one_new _ _ _) (by simp [Value.oneCell']) (by unfold maxLen; omega) (by omega) (by simp; omega) ?_; intro v' w3 hown' hgrow _))
                  go_roundw
                  case rel =>
                    exact ⟨f, k + 2, l ++ [UInt8.ofNat p1], by go_num, by omega, by omega, HR.out, by simp; omega, row_byte _ (by omega) hown', hbw.grown (grown_of_alloc' hgrow) hszr (fun j hj => (hrow'.lt j hj).1)⟩
                  case measure => simp [RowKit.intOf]; omega
              · have b4 : decide ((k : Int) + 4 < (t.size : Int)) = false := by simp; omega
                clear a3 D2 D3
                generalize bt t (k + 1) = p1 at *
                generalize bt t k = p0 at *
                have HR := Lib.hid hr
                clear hr a1 a2 c1
                go_wp2_with (at_builtin; refine wpList_append_own _ rfl _ _ 54 rfl w.heap.size 5 i0 (.int .u8 0) 1 1 Tryd.underlying54 hi hz0 hz1 hz2 rfl (by decide) _ _ _ rfl (hrow'.alloc _) ⟨wr.heap.size, 0, none⟩ 1 1 [.int .u8 (p1 : Int)] rfl rfl (cell_one_new _ _ _) (by simp [Value.oneCell']) (by unfold maxLen; omega) (by omega) (by simp; omega) ?_; intro v' w3 hown' hgrow _)
                go_roundw
                case rel =>
                  exact ⟨f, k + 2, l ++ [UInt8.ofNat p1], by go_num, by omega, by omega, HR.out, by simp; omega, row_byte _ (by omega) hown', hbw.grown (grown_of_alloc' hgrow) hszr (fun j hj => (hrow'.lt j hj).1)⟩
                case measure => simp [RowKit.intOf]; omega
            · have b3 : ((bt t (k + 1) : Int) == 120) = false := beq_f (by omega)
              clear a3 D2 D3
              generalize bt t (k + 1) = p1 at *
              generalize bt t k = p0 at *
              have HR := Lib.hid hr
              clear hr a1 a2 c1
              go_wp2_with (at_builtin; refine wpList_append_own _ rfl _ _ 54 rfl w.heap.size 5 i0 (.int .u8 0) 1 1 Tryd.underlying54 hi hz0 hz1 hz2 rfl (by decide) _ _ _ rfl (hrow'.alloc _) ⟨wr.heap.size, 0, none⟩ 1 1 [.int .u8 (p1 : Int)] rfl rfl (cell_one_new _ _ _) (by simp [Value.oneCell']) (by unfold maxLen; omega) (by omega) (by simp; omega) ?_; intro v' w3 hown' hgrow _)
              go_roundw
              case rel =>
                exact ⟨f, k + 2, l ++ [UInt8.ofNat p1], by go_num, by omega, by omega, HR.out, by simp; omega, row_byte _ (by omega) hown', hbw.grown (grown_of_alloc' hgrow) hszr (fun j hj => (hrow'.lt j hj).1)⟩
              case measure => simp [RowKit.intOf]; omega
      · have b1 : ((bt t k : Int) != 92) = true := by rw [bne, beq_f (show ¬ ((bt t k : Int) = 92) from by omega)]; rfl
        rw [if_pos (.inl a1)] at hr
        have HR := Lib.hid hr
        clear hr a1
        go_wp2_with (at_builtin; refine wpList_append_own _ rfl _ _ 54 rfl w.heap.size 5 i0 (.int .u8 0) 1 1 Tryd.underlying54 hi hz0 hz1 hz2 rfl (by decide) _ _ _ rfl (hrow'.alloc _) ⟨wr.heap.size, 0, none⟩ 1 1 [.int .u8 (bt t k : Int)] rfl rfl (cell_one_new _ _ _) (by simp [Value.oneCell']) (by unfold maxLen; omega) (by omega) (by simp; omega) ?_; intro v' w3 hown' hgrow _)
        go_roundw
        case rel =>
          refine ⟨f, k + 1, l ++ [UInt8.ofNat (bt t k)], by go_num, by omega, by omega, HR.out, by simp; omega, row_byte _ (by omega) hown', hbw.grown (grown_of_alloc' hgrow) hszr (fun j hj => (hrow'.lt j hj).1)⟩
        case measure => simp [RowKit.intOf]; omega
    · have hn : unqS t f k l = l := by cases f with
        | zero => rfl
        | succ f => unfold unqS; rw [if_neg hlt]
      rw [hn] at hr
      subst hr
      clear hn
      have hcv := row_string hrow
      have QQ := HQ.out
      have hU1 := HU.out
      generalize quB ⟨l.toArray⟩ = Q at *
      clear HU HQ hRE
      by_cases hc : Q = t
      · rw [if_pos hc] at hU1
        have c1 : (Q.toList == t.toList) = true := by rw [toList_eq_iff]; simpa using hc
        have c2 : (Q.toList != t.toList) = false := by rw [bne, c1]; rfl
        have HU := Lib.hid hU1
        clear hc hU1
        go_wp2_with (go_at_call 19; refine (QQ _).mono ?_; rintro e w2 ⟨rfl, hb2⟩)
        go_ret2
        rw [HU.out]
        exact ⟨rfl, hbw.trans (hb2.mono hszr)⟩
      · rw [if_neg hc] at hU1
        have c1 : (Q.toList == t.toList) = false := by rw [toList_eq_iff]; simpa using hc
        have c2 : (Q.toList != t.toList) = true := by rw [bne, c1]; rfl
        have HU := Lib.hid hU1
        clear hc hU1
        go_wp2_with (go_at_call 19; refine (QQ _).mono ?_; rintro e w2 ⟨rfl, hb2⟩)
        go_ret2
        rw [HU.out]
        exact ⟨rfl, hbw.trans (hb2.mono hszr)⟩
end Go.Proofs.YteegnmblbjcfpaaDoor.T
