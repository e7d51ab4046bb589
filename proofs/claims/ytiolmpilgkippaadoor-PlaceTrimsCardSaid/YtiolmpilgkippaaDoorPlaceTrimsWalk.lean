/-
  erratalaw03.PlaceTrims.
-/
import Derived.Test.YtiolmpilgkippaaDoorPlaceStrs
set_option linter.unusedVariables false
namespace Go.Proofs.YtiolmpilgkippaaDoor.T
open Go Go.Lib Go.RowKit Go.Shelf

theorem Lent.blk {B : Nat} {w : World} {v : Value} {l : List Pl} (h : Lent B w v l) : ∃ g cap, v = .slice (some ⟨g, 0, none⟩) l.length cap ∧ B ≤ g ∧ g < w.heap.size := by
  obtain ⟨g, cap, rfl, hr⟩ := h
  obtain ⟨h1, h2⟩ := World.ownsRow.lt hr g rfl
  exact ⟨g, cap, rfl, h1, h2⟩
theorem PRow.kept' {e : TypeId} {B : Nat} {w w' : World} {v : Value} {l : List Pl} {row : Option Nat} (h : PRow e B w v l) (hg : w.grownBy w' row) (hne : v.ownBlock = none ∨ v.ownBlock ≠ row) : PRow e B w' v l := World.ownsRow.kept h hg hne
theorem grown_below {w w' : World} {B : Nat} {row : Option Nat} (hg : w.grownBy w' row) (hB : B ≤ w.heap.size) (hr : ∀ k, row = some k → B ≤ k) : Below B w w' := (Below.refl B w).grown hg hB hr
/-- a row whose block lies below N -/
theorem row_far {e : TypeId} {B N : Nat} {w w' : World} {v : Value} {l : List Pl} {row : Option Nat} (h : PRow e B w v l) (hv : ∀ k, v.ownBlock = some k → k < N) (hg : w.grownBy w' row) (hr : ∀ k, row = some k → N ≤ k) : PRow e B w' v l := by
  refine h.kept' hg ?_
  cases hb : v.ownBlock with
  | none => exact .inl rfl
  | some g =>
    right
    intro e
    have h1 := hv g hb
    have h2 := hr g e.symm
    omega

set_option maxRecDepth 1000000 in
set_option maxHeartbeats 16000000 in
theorem placeTrims_in (l : List Pl) (hl : l.length ≤ 5864062014690) (hs : Slim l) (xs : List ByteArray) (hxl : xs.length ≤ 8796093022090) (u0 u1 : Value) (w : World) (h0 : PlSl w.heap.size w u0 l) (h1 : StrSl w.heap.size w u1 xs) (hE : Env w) :
    Calls Tryd.prog 4 #[u0, u1] w fun e w' => e = .returned (.bool true) ∧ Below w.heap.size w w' := by
  have h6 := hE.sz
  have cL := lent_in l (by omega) u0 w h0
  have cT := fun W v u (hv : PlSl W.heap.size W v l) (hu : StrSl W.heap.size W u xs) => Trim_in l (by omega) hs xs v u W hv hu
  have cR := fun W (hb : Below w.heap.size w W) => ref_in l (by omega) u0 W (h0.below hb hb.size)
  have cU := fun W v u (hv : PlSl W.heap.size W v l) (hu : StrSl W.heap.size W u xs) => refTrim_in l (by omega) hs xs v u W hv hu
  have cK := fun W v (hv : Lent w.heap.size W v l) (hb : Below w.heap.size w W) => kept_in l (by omega) w.heap.size v u0 W hv (h0.below hb hb.size)
  generalize hR : trA l xs = R at *
  generalize hC : checkN l = C at *
  have hRl : R.length ≤ 1048576 := by
    rw [← hR]; unfold trA
    split
    · rename_i hck
      have := (check_all hck).2
      rw [List.length_take]; omega
    · simp
  clear hR hC
  have cS := fun W v u (hv : PlSl W.heap.size W v R) (hu : PlSl W.heap.size W u R) => same_yes R W.heap.size v u W hv hu
  have CT := Lib.hid cT; have CR := Lib.hid cR; have CU := Lib.hid cU; have CK := Lib.hid cK; have CS := Lib.hid cS
  clear cT cR cU cK cS
  have H0 := Lib.hid h0
  have H1 := Lib.hid h1
  obtain ⟨a0, c0, rfl, _⟩ : ∃ a0 c0, u0 = .slice a0 l.length c0 ∧ True := by
    obtain ⟨a0, c0, e, _⟩ := h0
    exact ⟨a0, c0, e, trivial⟩
  obtain ⟨a1, c1, rfl, _⟩ : ∃ a1 c1, u1 = .slice a1 xs.length c1 ∧ True := by
    obtain ⟨a1, c1, e, _⟩ := h1
    exact ⟨a1, c1, e, trivial⟩
  clear h0 h1
  go_enter Tryd.func4, Tryd.ntmps4
  go_wp2_with fail
  refine cL.mono ?_
  rintro e w1 ⟨av, rfl, hA, hb1⟩
  have hz1 := hb1.size
  obtain ⟨ga, ca, rfl, hga1, hga2⟩ := hA.blk
  -- the copy of the prefixes
  obtain ⟨v1, w2, hrun1, hp1, hg1⟩ := app_strs w1.heap.size w1.heap.size (w1.alloc (.cells #[] 9)) (.slice (some ⟨w1.heap.size, 0, none⟩) 0 0) (.slice a1 xs.length c1) [] xs (SRow.empty w1 _ (Nat.le_refl _)) ((H1.out.below hb1 hz1).below ((Below.refl _ w1).alloc (Nat.le_refl _) _) (Nat.le_refl _)) (by simp; omega) (by simp)
  rw [List.nil_append] at hp1
  have hb12 : Below w1.heap.size w1 w2 := ((Below.refl _ w1).alloc (Nat.le_refl _) (.cells #[] 9)).grown hg1 (by simp) (fun k e => by simp [Value.ownBlock] at e; omega)
  have hz2 := hb12.size
  have hp1' : SRow w1.heap.size (w2.alloc (.cells #[.string ⟨#[35]⟩] 9)) v1 xs := World.ownsRow.alloc hp1 _
  obtain ⟨v2, w3, hrun2, hp2, hg2⟩ := app_strs w1.heap.size (w2.heap.size + 1) (w2.alloc (.cells #[.string ⟨#[35]⟩] 9)) v1 (.slice (some ⟨w2.heap.size, 0, none⟩) 1 1) xs [⟨#[35]⟩] hp1' (one_sl w2 _) (by simp; omega) (by simp; omega)
  have hb23 : Below w1.heap.size w2 w3 := ((Below.refl _ w2).alloc hz2 (.cells #[.string ⟨#[35]⟩] 9)).grown hg2 (by simp; omega) (fun k e => (World.ownsRow.lt hp1 k e).1)
  have hb13 := hb12.trans hb23
  have hz3 := hb13.size
  have hA3 := hA.below hb13
  have hbw3 := hb1.trans (hb13.mono hz1)
  obtain ⟨v3, hsl, hv3⟩ := slice_ss _ w3 _ _ hp2.sl xs.length (by simp)
  rw [List.take_left] at hv3
  have hp2l : (xs ++ [(⟨#[35]⟩ : ByteArray)]).length = xs.length + 1 := by simp
  have hp2s := hp2
  unfold SRow at hp2s
  rw [hp2l] at hp2s
  obtain ⟨gp, cp, rfl, hcp⟩ := own_slice hp2s
  have hgp := World.ownsRow.lt hp2s gp rfl
  have hpc : StrAt w3 gp 0 (xs ++ [⟨#[35]⟩]) := by
    obtain ⟨a, c, e, _, _, h3⟩ := hp2.sl
    obtain ⟨bk, o, e2, _, h5⟩ := h3 (by simp)
    simp only [Value.slice.injEq] at e
    obtain ⟨rfl, _, rfl⟩ := e
    cases e2
    exact h5
  clear hp2l hp2s hp2 hp1 hp1' hg1 hg2
  have cT3 := CT.out w3 _ _ hA3.sl hv3
  go_wp2_with (at_builtin; first | refine wpList_append_run rfl _ _ 44 rfl _ _ _ _ rfl rfl hrun1 ?_ | refine wpList_append_run rfl _ _ 44 rfl _ _ _ _ rfl rfl hrun2 ?_)
  refine cT3.mono ?_
  rintro e w4 ⟨xv, rfl, hX, hb4⟩
  have hXb := World.ownsRow.lt hX
  clear cT3 hrun1 hrun2
  have hz4 := hb4.size
  have hbw4 := hbw3.trans (hb4.mono hbw3.size)
  have hA4 := hA3.below hb4
  have cR4 := CR.out w4 hbw4
  go_wp2_with fail
  refine cR4.mono ?_
  rintro e w5 ⟨rv, rfl, hRow, hb5⟩
  have hz5 := hb5.size
  have hbw5 := hbw4.trans (hb5.mono hbw4.size)
  have cU5 := CU.out w5 rv _ hRow.sl (H1.out.below hbw5 hbw5.size)
  clear cR4
  go_wp2_with fail
  refine cU5.mono ?_
  rintro e w6 ⟨yv, rfl, hY, hb6⟩
  clear cU5
  have hz6 := hb6.size
  have hbw6 := hbw5.trans (hb6.mono hbw5.size)
  have hA6 := (hA4.below hb5).below hb6
  have hX6 := (PRow.below hX hb5).below hb6
  have hb36 := (hb4.trans (hb5.mono hz4)).trans (hb6.mono (Nat.le_trans hz4 hz5))
  have cT6 := CT.out w6 _ _ hA6.sl (hv3.below hb36 hb36.size)
  go_wp2_with fail
  refine cT6.mono ?_
  rintro e w7 ⟨zv, rfl, hZ, hb7⟩
  clear cT6
  have hz7 := hb7.size
  have hbw7 := hbw6.trans (hb7.mono hbw6.size)
  have hA7 := hA6.below hb7
  have hX7 := PRow.below hX6 hb7
  have hY7 := PRow.below hY hb7
  have cS7 := CS.out w7 xv yv hX7.sl hY7.sl
  go_wp2_with fail
  refine cS7.mono ?_
  rintro e w8 ⟨rfl, hb8⟩
  clear cS7
  have hz8 := hb8.size
  have hbw8 := hbw7.trans (hb8.mono hbw7.size)
  have cK8 := CK.out w8 _ (hA7.below hb8) hbw8
  go_wp2_with fail
  refine cK8.mono ?_
  rintro e w9 ⟨rfl, hb9⟩
  clear cK8
  have hz9 := hb9.size
  have hbw9 := hbw8.trans (hb9.mono hbw8.size)
  have hA9 := (hA7.below hb8).below hb9
  have hX9 := (PRow.below hX7 hb8).below hb9
  have hY9 := (PRow.below hY7 hb8).below hb9
  have hZ9 := (PRow.below hZ hb8).below hb9
  have hb39 := ((hb36.trans (hb7.mono hb36.size)).trans (hb8.mono (Nat.le_trans hb36.size hz7))).trans (hb9.mono (Nat.le_trans hb36.size (Nat.le_trans hz7 hz8)))
  have hpc9 := hpc.below hb39 hgp.2
  have hlast : w9.cell? ⟨gp, xs.length, none⟩ = some (.string ⟨#[35]⟩) := by
    have := hpc9 xs.length ⟨#[35]⟩ (by simp)
    rwa [Nat.zero_add] at this
  go_wp2_with fail
  have H19 := Lib.hid (H1.out.below hbw9 hbw9.size)
  have HPC := Lib.hid hpc9
  clear hpc hpc9 hlast hA hA3 hA4 hA6 hA7 hX hX6 hX7 hY hY7 hZ hb1 hb12 hb23 hb13 hb4 hb5 hb6 hb7 hb8 hb9 hb36 hb39 hbw3 hbw4 hbw5 hbw6 hbw7 hbw8 hRow hsl hv3
  go_loopw [13] (fun i wr => ∃ (k : Nat), k ≤ xs.length ∧ i = .int .i64 k ∧ Below w9.heap.size w9 wr) (fun i _ => xs.length - (RowKit.intOf i).toNat)
  case atStart => exact ⟨0, Nat.zero_le _, rfl, Below.refl _ _⟩
  case round =>
    obtain ⟨k, hk, rfl, hbr⟩ := hrel
    have hszr := hbr.size
    by_cases hlt : k < xs.length
    · obtain ⟨ap, cp2, e1, hq1, hq2, hq3⟩ := H19.out
      obtain ⟨bk, o, e2, hbk, hat⟩ := hq3 (by intro e; subst e; simp at hlt)
      simp only [Value.slice.injEq] at e1
      obtain ⟨rfl, _, rfl⟩ := e1
      subst e2
      have hx : xs[k]? = some xs[k] := List.getElem?_eq_getElem hlt
      have m1 := (hbr.cell (p := ⟨bk, o + k, none⟩) hbk).trans (hat k _ hx)
      have m2 := (hbr.cell (p := ⟨gp, 0 + k, none⟩) (by show gp < _; omega)).trans (HPC.out k xs[k] (by rw [List.getElem?_append_left hlt]; exact hx))
      rw [Nat.zero_add] at m2
      clear hat hq3
      generalize xs[k] = x at *
      clear hx
      generalize hn : xs.length = n at *
      have hN : decide ((k : Int) < (n : Int)) = true := by simp; omega
      have t1 : (x.toList != x.toList) = false := by simp
      go_wp2
      go_quiet (fail)
      go_wp2
      go_roundw
      case rel => exact ⟨k + 1, hlt, by go_num, by first | exact Go.below_drewN hbr _ | exact hbr.drew | exact hbr⟩
      case measure => simp [RowKit.intOf]; omega
    · have : k = xs.length := by omega
      subst this
      obtain ⟨wo, rfl⟩ : ∃ wo : World, wo = wr := ⟨_, rfl⟩
      have hbwo := hbw9.trans (hbr.mono hbw9.size)
      have hAo := hA9.below hbr
      have hXo := PRow.below hX9 hbr
      have hYo := PRow.below hY9 hbr
      have hZo := PRow.below hZ9 hbr
      have hYb := fun k e => (World.ownsRow.lt hYo k e).1
      have hZb := fun k e => (World.ownsRow.lt hZo k e).1
      have cP := spoil_in w3.heap.size R.length (by omega) xv wo ⟨_, hXo⟩ (by omega)
      go_wp2_with fail
      refine cP.mono ?_
      rintro e w11 ⟨rfl, hg11⟩
      have hY11 : PRow 111 w5.heap.size w11 yv R := by
        refine PRow.kept' hYo hg11 ?_
        cases hv : yv.ownBlock with
        | none => exact .inl rfl
        | some g => right; intro e; have e1 := hYb g hv; have e2 := (hXb g e.symm).2; omega
      have hZ11 : PRow 48 w6.heap.size w11 zv R := by
        refine PRow.kept' hZo hg11 ?_
        cases hv : zv.ownBlock with
        | none => exact .inl rfl
        | some g => right; intro e; have e1 := hZb g hv; have e2 := (hXb g e.symm).2; omega
      have hA11 := hAo.grown hg11 (by intro e; have := (hXb ga e.symm).1; omega)
      have hzo := hbwo.size
      have hbw11 := hbwo.grown hg11 hzo (fun k e => by have := (hXb k e).1; omega)
      clear cP hXo hX9 hXb hg11 hAo hYo hZo hA9 hY9 hZ9 hYb hZb
      have cS11 := CS.out w11 zv yv hZ11.sl hY11.sl
      go_wp2_with fail
      refine cS11.mono ?_
      rintro e w12 ⟨rfl, hb12'⟩
      clear cS11
      have hz11 := hbw11.size
      have hbw12 := hbw11.trans (hb12'.mono hz11)
      have cK12 := CK.out w12 _ (hA11.below hb12') hbw12
      go_wp2_with fail
      refine cK12.mono ?_
      rintro e w13 ⟨rfl, hb13'⟩
      clear cK12
      have hz12 := hbw12.size
      have hbw13 := hbw12.trans (hb13'.mono hz12)
      have hA13 := (hA11.below hb12').below hb13'
      have hY13 := (PRow.below hY11 hb12').below hb13'
      have hZ13 := (PRow.below hZ11 hb12').below hb13'
      clear hA11 hY11 hZ11 hb12' hb13' hbw11 hbw12 hbwo
      go_wp2_with fail
      have hrow0 : PRow 48 w.heap.size w13 (.slice (some ⟨ga, 0, none⟩) (libM (l ++ [mark]) 0).length ca) (libM (l ++ [mark]) 0) := by
        obtain ⟨g', cap', e, hr⟩ := hA13
        simp only [Value.slice.injEq] at e
        obtain ⟨e1, _, rfl⟩ := e
        cases e1
        unfold PRow
        rw [libM_len _ 0 (Nat.zero_le _), List.length_append]
        exact hr
      have hml : (l ++ [mark]).length = l.length + 1 := by simp
      go_loopw [14] (fun i wr => ∃ (k : Nat), k ≤ l.length ∧ i = .int .i64 k ∧ PRow 48 w.heap.size wr (.slice (some ⟨ga, 0, none⟩) (libM (l ++ [mark]) k).length ca) (libM (l ++ [mark]) k) ∧ PRow 111 w5.heap.size wr yv R ∧ PRow 48 w6.heap.size wr zv R ∧ Below w.heap.size w wr) (fun i _ => l.length - (RowKit.intOf i).toNat)
      case atStart => exact ⟨0, Nat.zero_le _, rfl, hrow0, hY13, hZ13, hbw13⟩
      case round =>
        obtain ⟨k, hk, rfl, hrow, hYr, hZr, hbr2⟩ := hrel
        have hzr := hbr2.size
        by_cases hlt2 : k < l.length
        · have hmk := libM_len (l ++ [mark]) k (by omega)
          rw [hml] at hmk
          obtain ⟨g', cap', e, _, hfz, hat⟩ := PRow.parts hrow (by omega)
          simp only [Value.slice.injEq] at e
          obtain ⟨e1, _, rfl⟩ := e
          cases e1
          have hx : (libM (l ++ [mark]) k)[k]? = some (libM (l ++ [mark]) k)[k] := List.getElem?_eq_getElem (by omega)
          have m0 := (hat k _ hx).1
          have m1 := (hat k _ hx).2
          rw [Nat.zero_add] at m0 m1
          generalize (libM (l ++ [mark]) k)[k] = x at *
          have f0 := hfz (k * 2)
          have f1 := hfz (k * 2 + 1)
          have hput := PRow.put hrow k (by omega) (libP k)
          rw [libM_set _ _ (by omega)] at hput
          have hput2 : PRow 48 w.heap.size ((wr.setCell ⟨ga, k * 2, none⟩ (.string ⟨#[108, 105, 98, 46, 120]⟩)).setCell ⟨ga, k * 2 + 1, none⟩ (.int .i64 (k : Int))) (.slice (some ⟨ga, 0, none⟩) (libM (l ++ [mark]) (k + 1)).length ca) (libM (l ++ [mark]) (k + 1)) := by
            rw [libM_len _ _ (by omega)]
            rw [libM_len _ _ (by omega)] at hput
            exact hput
          have hgk : wr.grownBy ((wr.setCell ⟨ga, k * 2, none⟩ (.string ⟨#[108, 105, 98, 46, 120]⟩)).setCell ⟨ga, k * 2 + 1, none⟩ (.int .i64 (k : Int))) (some ga) :=
            grown_set (grown_set ⟨rfl, rfl, rfl, Nat.le_refl _, fun _ _ _ => rfl⟩ rfl _ _) rfl _ _
          have hYk : PRow 111 w5.heap.size _ yv R := PRow.kept' hYr hgk (by
            cases hv : yv.ownBlock with
            | none => exact .inl rfl
            | some g => right; intro e; have e1 := (World.ownsRow.lt hYr g hv).1; cases e; omega)
          have hZk : PRow 48 w6.heap.size _ zv R := PRow.kept' hZr hgk (by
            cases hv : zv.ownBlock with
            | none => exact .inl rfl
            | some g => right; intro e; have e1 := (World.ownsRow.lt hZr g hv).1; cases e; omega)
          have hbk2 := hbr2.grown hgk hzr (fun k e => by cases e; omega)
          clear hput hat hfz hx hrow hYr hZr hmk hgk
          generalize hn : l.length = n at *
          have hN : decide ((k : Int) < (n : Int)) = true := by simp; omega
          go_wp2
          go_roundw
          case rel => exact ⟨k + 1, by omega, by go_num, hput2, hYk, hZk, hbk2⟩
          case measure => simp [RowKit.intOf]; omega
        · have : k = l.length := by omega
          subst this
          obtain ⟨wp, rfl⟩ : ∃ wp : World, wp = wr := ⟨_, rfl⟩
          have hAp : Lent w.heap.size wp (.slice (some ⟨ga, 0, none⟩) l.length ca) (libL l.length) := by
            refine ⟨ga, ca, by rw [libL_len], ?_⟩
            have e : libM (l ++ [mark]) l.length = libL l.length ++ [mark] := by unfold libM; rw [List.drop_left]
            have h := hrow
            rw [e] at h
            unfold PRow at h
            rw [List.length_append] at h
            exact h
          have hbA : Below wp.heap.size wp (wp.alloc (.cells #[.string ⟨#[108, 105, 98, 46]⟩] 9)) := (Below.refl _ _).alloc (Nat.le_refl _) _
          have hzA : (wp.alloc (.cells #[.string ⟨#[108, 105, 98, 46]⟩] 9)).heap.size = wp.heap.size + 1 := by simp
          have hsA : PlSl (wp.alloc (.cells #[.string ⟨#[108, 105, 98, 46]⟩] 9)).heap.size (wp.alloc (.cells #[.string ⟨#[108, 105, 98, 46]⟩] 9)) (.slice (some ⟨ga, 0, none⟩) l.length ca) (libL l.length) := hAp.sl.below hbA (by omega)
          have cTf := Trim_in (libL l.length) (by rw [libL_len]; omega) (libL_slim _) libX _ _ (wp.alloc (.cells #[.string ⟨#[108, 105, 98, 46]⟩] 9)) hsA (by rw [hzA]; exact one_sl wp _)
          rw [libL_trim] at cTf
          have hC2 := libL_check l.length
          generalize checkN (libL l.length) = C2 at *
          go_wp2_with fail
          refine cTf.mono ?_
          rintro e w15 ⟨tv, rfl, hTv, hb15⟩
          obtain ⟨tp, tc, rfl⟩ : ∃ tp tc, tv = .slice tp 0 tc := by
            obtain ⟨tp, tc, e, _⟩ := hTv.sl
            exact ⟨tp, tc, e⟩
          rw [hzA] at hb15
          have hb15p := hbA.trans (hb15.mono (Nat.le_succ _))
          have hbw15 := hbr2.trans (hb15p.mono hzr)
          have hz15 := hbw15.size
          have hY15 := PRow.below hYr hb15p
          have hZ15 := PRow.below hZr hb15p
          have cS15 := CS.out w15 zv yv hZ15.sl hY15.sl
          clear cTf hAp hbA hzA hsA hrow hYr hZr hTv
          go_wp2_with fail
          refine cS15.mono ?_
          rintro e w16 ⟨rfl, hb16⟩
          clear cS15
          have hbw16 := hbw15.trans (hb16.mono hz15)
          have hz16 := hbw16.size
          have cAl := alive_in w16 (hE.below hbw16 h6)
          have hbits : (((C2 : Int) == 0) = true ∧ decide ((l.length : Int) ≤ 64) = true) ∨ (((C2 : Int) == 0) = false ∧ decide ((l.length : Int) ≤ 64) = false) := by
            by_cases h : l.length ≤ 64
            · exact .inl ⟨by rw [beq_iff_eq]; have := hC2.2 h; omega, by simp; omega⟩
            · exact .inr ⟨by rw [beq_eq_false_iff_ne]; intro e; exact h (hC2.1 (by omega)), by simp; omega⟩
          clear hC2
          rcases hbits with ⟨q1, q2⟩ | ⟨q1, q2⟩
          all_goals
            go_wp2_with fail
            refine cAl.mono ?_
            rintro e w17 ⟨rfl, hb17⟩
            have hbw17 := hbw16.trans (hb17.mono hz16)
            go_wp2
            go_ret
            exact ⟨rfl, hbw17⟩
end Go.Proofs.YtiolmpilgkippaaDoor.T
