/-
  erratalaw03.PlaceTexts.
-/
import Derived.Test.YtiolmpilgkippaaDoorPlaceTrimsWalk
import Derived.Test.YtiolmpilgkippaaDoorPlaceRefParse
set_option linter.unusedVariables false
namespace Go.Proofs.YtiolmpilgkippaaDoor.T
open Go Go.Lib Go.RowKit Go.Shelf

theorem after_spoil {e : TypeId} {B N1 N2 : Nat} {W W' : World} {x y : Value} {R : List Pl} (hx : ∀ k, x.ownBlock = some k → N1 ≤ k ∧ k < N2) (hy : PRow e B W y R) (hB : N2 ≤ B) (hg : W.grownBy W' x.ownBlock) : PRow e B W' y R := by
  refine PRow.kept' hy hg ?_
  cases hv : y.ownBlock with
  | none => exact .inl rfl
  | some g =>
    right
    intro e
    have e1 := (World.ownsRow.lt hy g hv).1
    have e2 := (hx g e.symm).2
    omega
set_option maxRecDepth 1000000 in
set_option maxHeartbeats 16000000 in
theorem placeTexts_in (l m : List Pl) (hl : l.length ≤ 1048576) (hm : m.length ≤ 1048576) (hs : Slim l) (hsm : Slim m) (t : ByteArray) (ht : t.size ≤ 1048576) (u0 u1 : Value) (w : World) (h0 : PlSl w.heap.size w u0 l) (h1 : PlSl w.heap.size w u1 m) (hE : Env w) :
    Calls Tryd.prog 3 #[u0, u1, .string t] w fun e w' => e = .returned (.bool true) ∧ Below w.heap.size w w' := by
  have h6 := hE.sz
  have cLa := lent_in l (by omega) u0 w h0
  have cLb := fun W (hb : Below w.heap.size w W) => lent_in m (by omega) u1 W (h1.below hb hb.size)
  have cT := fun W v (hv : PlSl W.heap.size W v l) (hb : Below w.heap.size w W) => callsIn_wide.1 (Text_in l hs (by omega) v W hv (hE.below hb h6))
  have cRa := fun W (hb : Below w.heap.size w W) => ref_in l (by omega) u0 W (h0.below hb hb.size)
  have cRb := fun W (hb : Below w.heap.size w W) => ref_in m (by omega) u1 W (h1.below hb hb.size)
  have cRT := fun W v (hv : PlSl W.heap.size W v l) => refText_in l hs W.heap.size v W hv
  have cC := fun W v (hv : PlSl W.heap.size W v l) => Check_in l hs W.heap.size v W hv
  have cRC := fun W v (hv : PlSl W.heap.size W v l) => refCheck_in l hs W.heap.size v W hv
  have cM1 := fun W u v (hu : PlSl W.heap.size W u l) (hv : PlSl W.heap.size W v m) => Common_in l m W.heap.size u v W hu hv
  have cM2 := fun W u v (hu : PlSl W.heap.size W u m) (hv : PlSl W.heap.size W v l) => Common_in m l W.heap.size u v W hu hv
  have cN1 := fun W u v (hu : PlSl W.heap.size W u l) (hv : PlSl W.heap.size W v m) => refCommon_in l m W.heap.size u v W hu hv
  have cN2 := fun W u v (hu : PlSl W.heap.size W u m) (hv : PlSl W.heap.size W v l) => refCommon_in m l W.heap.size u v W hu hv
  have cKa := fun W v (hv : Lent w.heap.size W v l) (hb : Below w.heap.size w W) => kept_in l (by omega) w.heap.size v u0 W hv (h0.below hb hb.size)
  have cKb := fun W v (hv : Lent w.heap.size W v m) (hb : Below w.heap.size w W) => kept_in m (by omega) w.heap.size v u1 W hv (h1.below hb hb.size)
  have cP := fun W (hb : Below w.heap.size w W) => Parse_in t (by omega) W (hE.below hb h6)
  have cQ := fun W => refParse_in t (by omega) W
  generalize (⟨(textL l).toArray⟩ : ByteArray) = S at *
  generalize checkN l = C at *
  generalize com l m = K1 at *
  generalize com m l = K2 at *
  have hRl : ((parseL t).getD []).length ≤ 64 := by
    rw [parse_eq]
    split
    · rename_i hok
      unfold refOk at hok
      rw [Bool.and_eq_true, beq_iff_eq] at hok
      exact (check_all hok.1).2
    · simp
  generalize hLL : parseL t = L at *
  unfold IsRead at cP cQ
  generalize ((match L with | some _ => 0 | none => 4 : Int)) = cc at *
  generalize L.getD [] = R at *
  clear hLL
  have cS := fun W v u (hv : PlSl W.heap.size W v R) (hu : PlSl W.heap.size W u R) => same_yes R W.heap.size v u W hv hu

  have HLa := Lib.hid cLa
  have HLb := Lib.hid cLb
  have HT := Lib.hid cT
  have HRa := Lib.hid cRa
  have HRb := Lib.hid cRb
  have HRT := Lib.hid cRT
  have HC := Lib.hid cC
  have HRC := Lib.hid cRC
  have HM1 := Lib.hid cM1
  have HM2 := Lib.hid cM2
  have HN1 := Lib.hid cN1
  have HN2 := Lib.hid cN2
  have HKa := Lib.hid cKa
  have HKb := Lib.hid cKb
  have HP := Lib.hid cP
  have HQ := Lib.hid cQ
  have HS := Lib.hid cS
  clear cLa cLb cT cRa cRb cRT cC cRC cM1 cM2 cN1 cN2 cKa cKb cP cQ cS
  obtain ⟨a0, c0, rfl, _⟩ : ∃ a0 c0, u0 = .slice a0 l.length c0 ∧ True := by
    obtain ⟨a0, c0, e, _⟩ := h0
    exact ⟨a0, c0, e, trivial⟩
  obtain ⟨a1, c1, rfl, _⟩ : ∃ a1 c1, u1 = .slice a1 m.length c1 ∧ True := by
    obtain ⟨a1, c1, e, _⟩ := h1
    exact ⟨a1, c1, e, trivial⟩
  clear h0 h1
  go_enter Tryd.func3, Tryd.ntmps3
  have hW0 := Below.refl w.heap.size w

  go_wp2_with fail
  refine (HLa.out).mono ?_
  rintro e w1 ⟨av, rfl, hA1, hb1⟩
  have hW1 := hb1
  obtain ⟨ga, ca, rfl, hga1, hga2⟩ := hA1.blk
  go_wp2_with fail
  refine (HLb.out w1 hW1).mono ?_
  rintro e w2 ⟨bv, rfl, hB2', hb2⟩
  have hW2 := hW1.trans (hb2.mono hW1.size)
  have hA2 := hA1.below hb2
  have hB2 : Lent w.heap.size w2 bv m := by (obtain ⟨g, cap, e, hr⟩ := hB2'; refine ⟨g, cap, e, hr.1, ?_⟩; (rcases hr.2 with h | ⟨g', cap', cur, e1, e2, e3⟩; exact .inl h; exact .inr ⟨g', cap', cur, e1, Nat.le_trans hW1.size e2, e3⟩))
  have hgb := hB2'.blk
  obtain ⟨gb, cb, rfl, hgb1, hgb2⟩ := hgb
  go_wp2_with fail
  refine (HT.out w2 _ hA2.sl hW2).mono ?_
  rintro e w3 ⟨rfl, hb3⟩
  have hW3 := hW2.trans (hb3.mono hW2.size)
  have hA3 := hA2.below hb3
  have hB3 := hB2.below hb3
  go_wp2_with fail
  refine (HRa.out w3 hW3).mono ?_
  rintro e w4 ⟨r1, rfl, hr1, hb4⟩
  have hW4 := hW3.trans (hb4.mono hW3.size)
  have hA4 := hA3.below hb4
  have hB4 := hB3.below hb4
  go_wp2_with fail
  refine (HRT.out w4 r1 hr1.sl).mono ?_
  rintro e w5 ⟨rfl, hb5⟩
  have hW5 := hW4.trans (hb5.mono hW4.size)
  have hA5 := hA4.below hb5
  have hB5 := hB4.below hb5
  go_wp2_with fail
  refine (HC.out w5 _ hA5.sl).mono ?_
  rintro e w6 ⟨rfl, hb6⟩
  have hW6 := hW5.trans (hb6.mono hW5.size)
  have hA6 := hA5.below hb6
  have hB6 := hB5.below hb6
  go_wp2_with fail
  refine (HRa.out w6 hW6).mono ?_
  rintro e w7 ⟨r2, rfl, hr2, hb7⟩
  have hW7 := hW6.trans (hb7.mono hW6.size)
  have hA7 := hA6.below hb7
  have hB7 := hB6.below hb7
  go_wp2_with fail
  refine (HRC.out w7 r2 hr2.sl).mono ?_
  rintro e w8 ⟨rfl, hb8⟩
  have hW8 := hW7.trans (hb8.mono hW7.size)
  have hA8 := hA7.below hb8
  have hB8 := hB7.below hb8
  go_wp2_with fail
  refine (HM1.out w8 _ _ hA8.sl hB8.sl).mono ?_
  rintro e w9 ⟨rfl, hb9⟩
  have hW9 := hW8.trans (hb9.mono hW8.size)
  have hA9 := hA8.below hb9
  have hB9 := hB8.below hb9
  go_wp2_with fail
  refine (HRa.out w9 hW9).mono ?_
  rintro e w10 ⟨r3, rfl, hr3, hb10⟩
  have hW10 := hW9.trans (hb10.mono hW9.size)
  have hA10 := hA9.below hb10
  have hB10 := hB9.below hb10
  go_wp2_with fail
  refine (HRb.out w10 hW10).mono ?_
  rintro e w11 ⟨r4, rfl, hr4, hb11⟩
  have hW11 := hW10.trans (hb11.mono hW10.size)
  have hA11 := hA10.below hb11
  have hB11 := hB10.below hb11
  go_wp2_with fail
  refine (HN1.out w11 r3 r4 (PRow.below hr3 hb11).sl hr4.sl).mono ?_
  rintro e w12 ⟨rfl, hb12⟩
  have hW12 := hW11.trans (hb12.mono hW11.size)
  have hA12 := hA11.below hb12
  have hB12 := hB11.below hb12
  go_wp2_with fail
  refine (HM2.out w12 _ _ hB12.sl hA12.sl).mono ?_
  rintro e w13 ⟨rfl, hb13⟩
  have hW13 := hW12.trans (hb13.mono hW12.size)
  have hA13 := hA12.below hb13
  have hB13 := hB12.below hb13
  go_wp2_with fail
  refine (HRb.out w13 hW13).mono ?_
  rintro e w14 ⟨r5, rfl, hr5, hb14⟩
  have hW14 := hW13.trans (hb14.mono hW13.size)
  have hA14 := hA13.below hb14
  have hB14 := hB13.below hb14
  go_wp2_with fail
  refine (HRa.out w14 hW14).mono ?_
  rintro e w15 ⟨r6, rfl, hr6, hb15⟩
  have hW15 := hW14.trans (hb15.mono hW14.size)
  have hA15 := hA14.below hb15
  have hB15 := hB14.below hb15
  go_wp2_with fail
  refine (HN2.out w15 r5 r6 (PRow.below hr5 hb15).sl hr6.sl).mono ?_
  rintro e w16 ⟨rfl, hb16⟩
  have hW16 := hW15.trans (hb16.mono hW15.size)
  have hA16 := hA15.below hb16
  have hB16 := hB15.below hb16
  go_wp2_with fail
  refine (HKa.out w16 _ hA16 hW16).mono ?_
  rintro e w17 ⟨rfl, hb17⟩
  have hW17 := hW16.trans (hb17.mono hW16.size)
  have hA17 := hA16.below hb17
  have hB17 := hB16.below hb17
  go_wp2_with fail
  refine (HKb.out w17 _ hB17 hW17).mono ?_
  rintro e w18 ⟨rfl, hb18⟩
  have hW18 := hW17.trans (hb18.mono hW17.size)
  clear hA2 hB2 hA3 hB3 hA4 hB4 hA5 hB5 hA6 hB6 hA7 hB7 hA8 hB8 hA9 hB9 hA10 hB10 hA11 hB11 hA12 hB12 hA13 hB13 hA14 hB14 hA15 hB15 hA16 hB16 hA17 hB17 hA1 hB2' hr1 hr2 hr3 hr4 hr5 hr6
  go_wp2_with fail
  refine (HP.out w18 hW18).mono ?_
  rintro e w19 ⟨xv, rfl, hx, hb19⟩
  have hW19 := hW18.trans (hb19.mono hW18.size)
  go_wp2_with (first | (go_at_call 21; refine (HQ.out w19).mono ?_; rintro e w20 ⟨yv, rfl, hy, hb20⟩; have hW20 := hW19.trans (hb20.mono hW19.size)) | (go_at_call 20; refine (HP.out w20 hW20).mono ?_; rintro e w21 ⟨zv, rfl, hz, hb21⟩; have hW21 := hW20.trans (hb21.mono hW20.size); have hx20 := PRow.below hx hb20; have hx21 := PRow.below hx20 hb21; have hy21 := PRow.below hy hb21) | (go_at_call 22; refine (HS.out w21 xv yv hx21.sl hy21.sl).mono ?_; rintro e w22 ⟨rfl, hb22⟩; have hW22 := hW21.trans (hb22.mono hW21.size); have hx22 := PRow.below hx21 hb22; have hy22 := PRow.below hy21 hb22; have hz22 := PRow.below hz hb22))
  all_goals
    have hxb := World.ownsRow.lt hx
    have hs22 := hW22.size
    have hs18 := hW18.size
    have cSp := spoil_in w18.heap.size R.length (by omega) xv w22 ⟨_, hx22⟩ (by have := hb19.size; have := hb20.size; have := hb21.size; have := hb22.size; omega)
    refine cSp.mono ?_
    rintro e w23 ⟨rfl, hg23⟩
    have hy23 := after_spoil hxb hy22 (Nat.le_refl _) hg23
    have hz23 := after_spoil hxb hz22 hb20.size hg23
    have hW23 := hW22.grown hg23 hs22 (fun k e => Nat.le_trans hs18 (hxb k e).1)
    have hs23 := hW23.size
    have cS2 := HS.out w23 zv yv hz23.sl hy23.sl
    clear cSp hxb hy hz hx hx20 hx21 hx22 hy21 hy22 hz22 hg23 hy23 hz23
    go_wp2_with fail
    refine cS2.mono ?_
    rintro e w24 ⟨rfl, hb24⟩
    have hW24 := hW23.trans (hb24.mono hs23)
    have cAl := alive_in w24 (hE.below hW24 h6)
    clear cS2
    go_wp2_with fail
    refine cAl.mono ?_
    rintro e w25 ⟨rfl, hb25⟩
    have hW25 := hW24.trans (hb25.mono hW24.size)
    go_wp2
    go_ret
    exact ⟨rfl, hW25⟩
end Go.Proofs.YtiolmpilgkippaaDoor.T
