/-
  erratalaw03.PlaceUnfolds.
-/
import Derived.Test.YtjdjdcdpflnplaaDoorPlaceLRuns
set_option linter.unusedVariables false
namespace Go.Proofs.YtjdjdcdpflnplaaDoor.T
open Go Go.Lib Go.RowKit Go.Shelf

theorem Lent.lower {B B' : Nat} {w : World} {v : Value} {l : List Pl} (h : Lent B w v l) (hB : B' ≤ B) : Lent B' w v l := by
  obtain ⟨g, cap, e, hr⟩ := h
  refine ⟨g, cap, e, hr.1, ?_⟩
  rcases hr.2 with h | ⟨g', cap', cur, e1, e2, e3⟩
  · exact .inl h
  · exact .inr ⟨g', cap', cur, e1, Nat.le_trans hB e2, e3⟩
theorem unfR_len (zs : List Rz) : (unfR zs).length ≤ 4000000000000 := by
  unfold unfR
  split
  · rename_i h
    have ht : zs.any badZ = false ∧ tooB zs 0 = false := by
      unfold unfC at h
      cases h1 : zs.any badZ with
      | true => rw [h1, if_pos rfl] at h; omega
      | false =>
        rw [h1, if_neg (by simp)] at h
        cases h2 : tooB zs 0 with
        | true => rw [h2, if_pos rfl] at h; omega
        | false => exact ⟨rfl, rfl⟩
    have := (tooB_len zs 0 (by omega) ht.2).1
    omega
  · simp
def sliceCap : Value → Nat
  | .slice _ _ c => c
  | _ => 0
theorem wpAny_relist {P : Program} {md : Region.Mode} {ops : Array Oper} {Q : Exit → Act → World → Prop} {fuel fuel' : Nat} {listed listed' : Array Bool} {a : Act} {w : World} (hf : fuel = fuel') (hl : listed = listed') (h : wpAny P md ops Q fuel' listed' a w) : wpAny P md ops Q fuel listed a w := by subst hf; subst hl; exact h
theorem wpAny_react {P : Program} {md : Region.Mode} {ops : Array Oper} {Q : Exit → Act → World → Prop} {fuel : Nat} {listed : Array Bool} {a a' : Act} {w : World} (ha : a = a') (h : wpAny P md ops Q fuel listed a' w) : wpAny P md ops Q fuel listed a w := by subst ha; exact h
theorem take_snoc {α : Type} {l : List α} {k : Nat} {x : α} (h : l[k]? = some x) : l.take (k + 1) = l.take k ++ [x] := by rw [List.take_add_one, h]; rfl
set_option maxRecDepth 1000000 in
set_option maxHeartbeats 16000000 in
theorem placeUnfolds_in (zs : List Rz) (hn : zs.length ≤ 4398046510976) (h64 : ∀ z ∈ zs, -9223372036854775808 ≤ z.t ∧ z.t ≤ 9223372036854775807) (hs : ∀ z ∈ zs, Slim z.ps) (hp : ∀ z ∈ zs, z.ps.length ≤ 5864062014690) (u0 : Value) (w : World) (h0 : RzSl w.heap.size w u0 zs) (hE : Env w) :
    Calls Tryd.prog 4 #[u0] w fun e w' => e = .returned (.bool true) ∧ Below w.heap.size w w' := by
  have h6 := hE.sz
  have HE := Lib.hid (fun W (hb : Below w.heap.size w W) => hE.below hb h6)
  have kp : ∀ {W : World}, Below w.heap.size w W → ∀ (p : Addr) (u : Value), w.cell? p = some u → W.cell? p = some u := fun hb p u hp => (hb.cell (World.block_lt_of_cell? w p hp)).trans hp
  obtain ⟨a0, c0, rfl, h1, h2⟩ := h0
  have HD : Hid (∀ k z, zs[k]? = some z → ∃ bk o, a0 = some ⟨bk, o, none⟩ ∧ ∃ za zc, z.v = .slice za z.ps.length zc ∧ (∀ W, Below w.heap.size w W → W.cell? ⟨bk, o + k * 2, none⟩ = some (.slice za z.ps.length zc) ∧ W.cell? ⟨bk, o + k * 2 + 1, none⟩ = some (.int .i64 z.t)) ∧
      (∀ W, Below w.heap.size w W → PlSl W.heap.size W (.slice za z.ps.length zc) z.ps)) := fun k z hz => by
    obtain ⟨bk, o, hb, _, hA⟩ := h1 (by intro e; subst e; simp at hz)
    have hpl := h2 z (List.mem_of_getElem? hz)
    have hpl2 := hpl
    obtain ⟨za, zc, hzv, _⟩ := hpl
    rw [hzv] at hpl2
    have hc := hA k z hz
    rw [hzv] at hc
    exact ⟨bk, o, hb, za, zc, hzv, fun W hW => ⟨kp hW _ _ hc.1, kp hW _ _ hc.2⟩, fun W hW => hpl2.below hW hW.size⟩
  have HP := Lib.hid hp
  have HS := Lib.hid hs
  have H64 := Lib.hid h64
  clear h1 h2 hp hs h64 kp hE
  go_enter Tryd.func4, Tryd.ntmps4
  go_wp2
  go_loopg [3, 4, 5] (zs.length + 1) (fun g x y i wr => ∃ (k : Nat) (qs qs' : List (Value × Rz)), k + g = zs.length + 1 ∧ k ≤ zs.length ∧ i = .int .i64 k ∧ Hid (qs.map (·.2) = zs.take k) ∧ Hid (qs'.map (·.2) = zs.take k) ∧ Hid (Pairs 37 (LentAt w.heap.size) w.heap.size wr x qs) ∧ Hid (Pairs 47 (RefAt w.heap.size) w.heap.size wr y qs') ∧ Below w.heap.size w wr)
  case atStart => exact ⟨0, [], [], by omega, Nat.zero_le _, rfl, rfl, rfl, pairs_nil _ _ _ _, pairs_nil _ _ _ _, Below.refl _ _⟩
  case round =>
    obtain ⟨k, qs, qs', hkg, hk, rfl, hq, hq', hA, hB, hbw⟩ := hrel
    have hszr := hbw.size
    have hql : qs.length = k := by have := congrArg List.length hq.out; rw [List.length_map, List.length_take] at this; omega
    have hql' : qs'.length = k := by have := congrArg List.length hq'.out; rw [List.length_map, List.length_take] at this; omega
    by_cases hlt : k < zs.length
    · obtain ⟨z, hz⟩ : ∃ z, zs[k]? = some z := ⟨_, List.getElem?_eq_getElem hlt⟩
      obtain ⟨bk, o, rfl, za, zc, hzv, HCx, HPx⟩ := HD.out k z hz
      have hnp := HP.out z (List.mem_of_getElem? hz)
      have hnx : ∀ u, Hid ((qs ++ [((u, z) : Value × Rz)]).map (·.2) = zs.take (k + 1)) := fun u => by
        show _ = _
        rw [List.map_append, hq.out, take_snoc hz]; rfl
      have hnx' : ∀ u, Hid ((qs' ++ [((u, z) : Value × Rz)]).map (·.2) = zs.take (k + 1)) := fun u => by
        show _ = _
        rw [List.map_append, hq'.out, take_snoc hz]; rfl
      have CL := Lib.hid (fun W (hb : Below w.heap.size w W) => lent_in z.ps (by omega) _ W (HPx W hb))
      have CR := Lib.hid (fun W (hb : Below w.heap.size w W) => ref_in z.ps (by omega) _ W (HPx W hb))
      have HC := Lib.hid HCx
      have HNX := Lib.hid hnx
      have HNX' := Lib.hid hnx'
      clear HCx HPx hnx hnx' hz hzv hq hq' hnp
      obtain ⟨zv, ps, zt⟩ := z
      simp only at HC CL CR HNX HNX'
      obtain ⟨np, hnpe⟩ : ∃ n, n = ps.length := ⟨_, rfl⟩
      have HNP := Lib.hid hnpe
      rw [← hnpe] at HC CL CR
      clear hnpe
      have c1 := (HC.out _ hbw).1
      have c2 := (HC.out _ hbw).2
      have HQ1 := Lib.hid hql
      have HQ2 := Lib.hid hql'
      clear hql hql'
      have hN : decide ((k : Int) < (zs.length : Int)) = true := by simp; omega
      have HBW := Lib.hid hbw
      obtain ⟨wo, rfl⟩ : ∃ wo : World, wo = wr := ⟨_, rfl⟩
      clear hbw
      go_wp2
      go_region_law (first
        | (obtain ⟨v3, w3, hrun, hrow3, hgr3⟩ := push_pair runTy infoRunOwn w.heap.size w2 u3 qs (lentPairs_below hA.out HB2.out).row (.slice (some ⟨ga, 0, none⟩) ps.length gc, ⟨zv, ps, zt⟩) rfl (by have := HQ1.out; omega) (by have := HBW2.out.size; omega)
           refine step_append_run rfl (.tmp 19) (.tmp 32) 25 rfl u3 (.slice (some ⟨w2.heap.size, 0, none⟩) 1 1) v3 w3 (by simp [Act.eval]) (by simp [Act.eval]) hrun ?_)
        | (go_simp
           go_at_call 9
           refine (CL.out _ (by exact HBW.out.drew)).mono ?_
           rintro e w2 ⟨lv, rfl, hL, hb2⟩
           have HB2 := Lib.hid (((Below.refl wo.heap.size wo).drew).trans hb2)
           have HBW2 := Lib.hid (HBW.out.trans (HB2.out.mono HBW.out.size))
           have HL := Lib.hid (hL.lower (show w.heap.size ≤ wo.heap.size from HBW.out.size))
           obtain ⟨ga, gc, rfl, hgB, hgl⟩ := hL.blk
           have c3 := (HC.out _ HBW2.out).1
           have c4 := (HC.out _ HBW2.out).2
           clear hL hb2))
      all_goals
        have hA2 := lentPairs_below hA.out HB2.out
        have hA3 := lentPairs_push hA2 (.slice (some ⟨ga, 0, none⟩) ps.length gc, ⟨zv, ps, zt⟩) HL.out hrow3 hgr3
        have hB3 := refPairs_far (refPairs_below hB.out HB2.out) hA2.row hgr3
        have hb3 : Below w.heap.size w w3 := HBW2.out.grown hgr3 HBW2.out.size (fun j hj => (World.ownsRow.lt hA2.row j hj).1)
        have HA3 := Lib.hid hA3
        have HB3 := Lib.hid hB3
        have HBW3 := Lib.hid hb3
        have d1 := (HC.out _ hb3).1
        have d2 := (HC.out _ hb3).2
        clear hA2 hA3 hB3 hb3 hrow3 hgr3 hrun hA hB HB2 HBW2 HL c1 c2 c3 c4 hgl hgB
        go_wp2
        go_region_law (first
          | (obtain ⟨v5, w5, hrun5, hrow5, hgr5⟩ := push_pair refRunTy infoRunRef w.heap.size w4 u4 qs' (refPairs_below HB3.out HB4.out).row (.slice ra ps.length rc, ⟨zv, ps, zt⟩) rfl (by have := HQ2.out; omega) (by have := HBW4.out.size; omega)
             refine step_append_run rfl (.tmp 34) (.tmp 47) 29 rfl u4 (.slice (some ⟨w4.heap.size, 0, none⟩) 1 1) v5 w5 (by simp [Act.eval]) (by simp [Act.eval]) hrun5 ?_)
          | (go_simp
             go_at_call 12
             refine (CR.out _ (by exact HBW3.out.drew)).mono ?_
             rintro e w4 ⟨rv, rfl, hr4, hb4⟩
             have HB4 := Lib.hid (((Below.refl w3.heap.size w3).drew).trans hb4)
             have HBW4 := Lib.hid (HBW3.out.trans (HB4.out.mono HBW3.out.size))
             have HR4 := Lib.hid (hr4.base (show w.heap.size ≤ w3.heap.size from HBW3.out.size))
             obtain ⟨ra, rc, rfl⟩ := hr4.isSl
             have d3 := (HC.out _ HBW4.out).1
             have d4 := (HC.out _ HBW4.out).2
             clear hr4 hb4))
        all_goals
          have hB4 := refPairs_below HB3.out HB4.out
          have hB5 := refPairs_push hB4 (.slice ra ps.length rc, ⟨zv, ps, zt⟩) HR4.out hrow5 hgr5
          have hA5 := lentPairs_far (lentPairs_below HA3.out HB4.out) hB4.row hgr5
          have hb5 : Below w.heap.size w w5 := HBW4.out.grown hgr5 HBW4.out.size (fun j hj => (World.ownsRow.lt hB4.row j hj).1)
          have HA5 := Lib.hid hA5
          have HB5 := Lib.hid hB5
          clear hB4 hB5 hA5 hrow5 hgr5 hrun5 HA3 HB3 HB4 HBW4 HBW3 HR4 d1 d2 d3 d4
          go_wp2
          go_roundg (zs.length - k)
          case measure => omega
          case rel => exact ⟨k + 1, _, _, by omega, hlt, by go_num, HNX.out _, HNX'.out _, HA5, HB5, hb5⟩
    · have hkl : k = zs.length := by omega
      have hN : decide ((k : Int) < (zs.length : Int)) = false := by simp; omega
      have hN' : decide (k < zs.length) = false := decide_eq_false (by omega)
      have hqz := hq.out
      have hqz' := hq'.out
      rw [hkl, List.take_length] at hqz hqz'
      have ht := twin_toR hqz
      have ht' := twin_toR hqz'
      have hsR : ∀ (q : List (Value × Rz)), q.map (·.2) = zs → ∀ z ∈ q.map toR, Slim z.ps ∧ z.ps.length ≤ 5864062014690 ∧ (-9223372036854775808 ≤ z.t ∧ z.t ≤ 9223372036854775807) := fun q hq z hz => by
        obtain ⟨p, hp, rfl⟩ := List.mem_map.1 hz
        have hm : p.2 ∈ zs := by rw [← hq]; exact List.mem_map.2 ⟨p, hp, rfl⟩
        exact ⟨HS.out p.2 hm, HP.out p.2 hm, H64.out p.2 hm⟩
      have s1 := hsR qs hqz
      have s2 := hsR qs' hqz'
      have cU := Lib.hid (fun W (h : RzSl W.heap.size W u3 (qs.map toR)) => UnfoldAny_in (qs.map toR) (by rw [List.length_map]; omega) (fun z hz => (s1 z hz).2.2) (fun z hz => (s1 z hz).1) u3 W h)
      have cV := Lib.hid (fun W (h : RzSl W.heap.size W u4 (qs'.map toR)) => refUnfold_in (qs'.map toR) (by rw [List.length_map]; omega) (fun z hz => (s2 z hz).2.2) (fun z hz => (s2 z hz).1) (fun z hz => (s2 z hz).2.1) u4 W h)
      rw [(twin_unf ht).1, (twin_unf ht).2] at cU
      rw [(twin_unf ht').1, (twin_unf ht').2] at cV
      have HA1 := Lib.hid hA.out
      have HB1 := Lib.hid hB.out
      have HQZ := Lib.hid hqz
      have HBW := Lib.hid hbw
      obtain ⟨W1, rfl⟩ : ∃ W1 : World, W1 = wr := ⟨_, rfl⟩
      clear hqz hqz' ht ht' hsR s1 s2 hq hq' hA hB hbw hql hql' hkl
      have hul : (unfR zs).length ≤ 4000000000000 := unfR_len zs
      generalize unfC zs = UC at *
      generalize unfR zs = UR at *
      have HUL := Lib.hid hul
      clear hul
      go_wp2_with fail
      refine (cU.out W1 (pairs_sl HA1.out (fun u l h => Lent.sl h))).mono ?_
      rintro e w2 ⟨xv, rfl, hx2, hb2⟩
      have HXB : Hid (∀ k, xv.ownBlock = some k → W1.heap.size ≤ k ∧ k < w2.heap.size) := fun k hk => World.ownsRow.lt hx2 k hk
      have HX2 := Lib.hid hx2
      have HA2 := Lib.hid (lentPairs_below HA1.out hb2)
      have HB2 := Lib.hid (refPairs_below HB1.out hb2)
      have HW2 := Lib.hid hb2
      clear hx2 hb2
      go_wp2_with fail
      refine (cV.out w2 (pairs_sl HB2.out (fun u l h => PRow.sl h))).mono ?_
      rintro e w3 ⟨yv, rfl, hy3, hb3⟩
      have HX3 := Lib.hid (PRow.below HX2.out hb3)
      have HY3 := Lib.hid hy3
      have HA3 := Lib.hid (lentPairs_below HA2.out hb3)
      have HW3 := Lib.hid (HW2.out.trans (hb3.mono HW2.out.size))
      have hs23 := hb3.size
      clear hy3 hb3 HX2 HA2 HB2
      go_wp2_with fail
      refine (cU.out w3 (pairs_sl HA3.out (fun u l h => Lent.sl h))).mono ?_
      rintro e w4 ⟨zv, rfl, hz4, hb4⟩
      have HX4 := Lib.hid (PRow.below HX3.out hb4)
      have HY4 := Lib.hid (PRow.below HY3.out hb4)
      have HZ4 := Lib.hid hz4
      have HW4 := Lib.hid (HW3.out.trans (hb4.mono HW3.out.size))
      have hs34 := hb4.size
      clear hz4 hb4 HX3 HY3 HA3 HW3
      go_wp2_with fail
      refine (sameQ_in UR w4.heap.size _ _ w4 HX4.out.sl HY4.out.sl).mono ?_
      rintro e w5 ⟨rfl, hd5⟩
      have hb5 := hd5.below w4.heap.size
      have HX5 := Lib.hid (PRow.below HX4.out hb5)
      have HY5 := Lib.hid (PRow.below HY4.out hb5)
      have HZ5 := Lib.hid (PRow.below HZ4.out hb5)
      have HW5 := Lib.hid (HW4.out.trans (hb5.mono HW4.out.size))
      have hs45 := hb5.size
      clear hd5 hb5 HX4 HY4 HZ4 HW4
      have hs12 := HW2.out.size
      have hUR : UR.length ≤ 4000000000000 := HUL.out
      go_wp2_with fail
      refine (spoil_in W1.heap.size UR.length hUR xv w5 ⟨_, HX5.out⟩ (by omega)).mono ?_
      rintro e w6 ⟨rfl, hg6⟩
      have HY6 := Lib.hid (after_spoil' HXB.out HY5.out (Nat.le_refl _) hg6)
      have HZ6 := Lib.hid (after_spoil' HXB.out HZ5.out hs23 hg6)
      have hW6 := HW5.out.grown hg6 HW5.out.size (fun k hk => (HXB.out k hk).1)
      have HA6 := Lib.hid (lentPairs_below HA1.out hW6)
      have HBW6 := Lib.hid (HBW.out.trans (hW6.mono HBW.out.size))
      clear hg6 hW6 HX5 HY5 HZ5 HW5 HW2 HXB HA1 HB1 hs23 hs34 hs45 hs12
      go_wp2
      go_loopg [12] (zs.length + 1) (fun g i wr => ∃ (k : Nat), k + g = zs.length + 1 ∧ k ≤ zs.length ∧ i = .int .i64 k ∧ Below w6.heap.size w6 wr)
      case atStart => exact ⟨0, by omega, Nat.zero_le _, rfl, Below.refl _ _⟩
      case round =>
        obtain ⟨k, hkg, hk, rfl, hb⟩ := hrel
        have hszr := hb.size
        have HBr := Lib.hid hb
        clear hb
        by_cases hlt : k < zs.length
        · obtain ⟨z, hz⟩ : ∃ z, zs[k]? = some z := ⟨_, List.getElem?_eq_getElem hlt⟩
          obtain ⟨bk, o, rfl, za, zc, hzv, HCx, HPx⟩ := HD.out k z hz
          have hnp := HP.out z (List.mem_of_getElem? hz)
          obtain ⟨q, hq, hqz⟩ : ∃ q, qs[k]? = some q ∧ q.2 = z := by
            have h := hz
            rw [← HQZ.out, List.getElem?_map] at h
            exact Option.map_eq_some_iff.1 h
          have hAr := fun W (h : Below w6.heap.size w6 W) => lentPairs_below HA6.out h
          have hcell : ∀ W, Below w6.heap.size w6 W → ∃ bk2 o2, u3 = .slice (some ⟨bk2, o2, none⟩) zs.length (sliceCap u3) ∧ W.cell? ⟨bk2, o2 + k * 2, none⟩ = some q.1 ∧ W.cell? ⟨bk2, o2 + k * 2 + 1, none⟩ = some (.int .i64 z.t) := fun W h => by
            obtain ⟨a, c, e, h1, _⟩ := pairs_sl (hAr W h) (fun u l h => Lent.sl h)
            obtain ⟨bk2, o2, rfl, _, hA⟩ := h1 (by intro e; rw [List.map_eq_nil_iff] at e; subst e; simp at hq)
            have hh := hA k (toR q) (by rw [List.getElem?_map, hq]; rfl)
            have e2 : (qs.map toR).length = zs.length := by rw [← HQZ.out, List.length_map, List.length_map]
            rw [e2] at e
            refine ⟨bk2, o2, by rw [e]; rfl, hh.1, ?_⟩
            have := hh.2
            rw [show (toR q).t = z.t by rw [← hqz]; rfl] at this
            exact this
          have hlent : ∀ W, Below w6.heap.size w6 W → Lent w.heap.size W q.1 z.ps := fun W h => by
            have := (hAr W h).each q (List.mem_of_getElem? hq)
            rw [hqz] at this
            exact this
          obtain ⟨g, cap, hqv, _⟩ := (hlent w6 (Below.refl _ _)).blk
          have CK := Lib.hid (fun W (h : Below w6.heap.size w6 W) => kept_in z.ps (by omega) w.heap.size q.1 _ W (hlent W h) (HPx W (HBW6.out.trans (h.mono HBW6.out.size))))
          rw [hqv] at hcell CK
          have HCE := Lib.hid hcell
          have HCx2 := Lib.hid (fun W (h : Below w6.heap.size w6 W) => HCx W (HBW6.out.trans (h.mono HBW6.out.size)))
          clear hz hzv HCx HPx hq hqz hAr hcell hlent hqv hnp
          obtain ⟨zv, ps, zt⟩ := z
          simp only at HCE HCx2 CK
          obtain ⟨np, hnpe⟩ : ∃ n, n = ps.length := ⟨_, rfl⟩
          rw [← hnpe] at HCE HCx2 CK
          clear hnpe
          obtain ⟨bk2, o2, hu3, c1, c2⟩ := HCE.out wr HBr.out
          have c3 := (HCx2.out wr HBr.out).1
          have c4 := (HCx2.out wr HBr.out).2
          have hKS : Hid (∀ W, Below w6.heap.size w6 W → W.cell? ⟨bk2, o2 + k * 2, none⟩ = some (.slice (some ⟨g, 0, none⟩) np cap) ∧ W.cell? ⟨bk2, o2 + k * 2 + 1, none⟩ = some (.int .i64 zt)) := fun W h => by
            obtain ⟨b3, o3, e3, d1, d2⟩ := HCE.out W h
            rw [hu3] at e3
            simp only [Value.slice.injEq, Option.some.injEq, Addr.mk.injEq, and_true] at e3
            obtain ⟨rfl, rfl⟩ := e3.1
            exact ⟨d1, d2⟩
          generalize sliceCap u3 = u3c at hu3
          clear HCE
          subst hu3
          have hN : decide ((k : Int) < (zs.length : Int)) = true := by simp; omega
          have t2 : (zt != zt) = false := by simp
          obtain ⟨wo, rfl⟩ : ∃ wo : World, wo = wr := ⟨_, rfl⟩
          go_wp2
          clear HP HS H64 HD cU cV HA6 HQZ HY6 HZ6 HE h6
          go_region_law (go_simp
                         go_at_call 14
                         refine (CK.out _ (by exact HBr.out.drew)).mono ?_
                         rintro e w8 ⟨rfl, hb8⟩
                         have HB8 := Lib.hid (HBr.out.drew.trans (hb8.mono (show w6.heap.size ≤ wo.heap.size from HBr.out.size)))
                         have d2 := (hKS.out _ HB8.out).2
                         have d4 := (HCx2.out _ HB8.out).2
                         clear hb8 c1 c2 c3 c4
                         go_simp
                         rename_i hK
                         refine hK _ _ ?_
                         clear hK
                         (refine wpAny_relist (fuel' := 14) (listed' := #[true, true, true, true, true, true, true, true, true, true, true, false, false, false, false, false, false, false, false, false, false, false, false, false, false]) (by kernel_rfl) (by kernel_rfl) ?_)
                         (refine wpAny_ready (rs := [11]) (by kernel_rfl) (by simp) ?_)
                         (refine AllReady.cons rfl (fun K hK => ?_) AllReady.nil)
                         go_simp
                         refine hK _ _ ?_
                         clear hK K
                         (refine wpAny_ready (rs := [12]) (by kernel_rfl) (by simp) ?_)
                         (refine AllReady.cons rfl (fun K hK => ?_) AllReady.nil)
                         go_simp
                         refine hK _ _ ?_
                         clear hK K
                         (refine wpAny_take (i := 13) (v := ?_) rfl (by kernel_rfl) (by kernel_rfl) (by kernel_rfl) (fun _ _ _ h => h) (Or.inl ⟨by rfl, ?_⟩) ?_)
                         rotate_left
                         (intro w; go_simp)
                         (try (with_reducible rfl))
                         (refine wpAny_take (i := 14) (v := ?_) rfl (by kernel_rfl) (by kernel_rfl) (by kernel_rfl) (fun _ _ _ h => h) (Or.inl ⟨by rfl, ?_⟩) ?_)
                         rotate_left
                         (intro w; go_simp)
                         (try (with_reducible rfl))
                         (refine wpAny_take (i := 15) (v := ?_) rfl (by kernel_rfl) (by kernel_rfl) (by kernel_rfl) (fun _ _ _ h => h) (Or.inl ⟨by rfl, ?_⟩) ?_)
                         rotate_left
                         (intro w; go_simp)
                         (try (with_reducible rfl))
                         (refine wpAny_take (i := 16) (v := ?_) rfl (by kernel_rfl) (by kernel_rfl) (by kernel_rfl) (fun _ _ _ h => h) (Or.inl ⟨by rfl, ?_⟩) ?_)
                         rotate_left
                         (intro w; go_simp)
                         (try (with_reducible rfl))
                         (refine wpAny_react (by go_simp; rfl) ?_)
                         (refine wpAny_relist (fuel' := 8) (listed' := #[true, true, true, true, true, true, true, true, true, true, true, true, true, true, true, true, true, false, false, false, false, false, false, false, false]) (by kernel_rfl) (by kernel_rfl) ?_)
                         (refine wpAny_take (i := 18) (v := ?_) rfl (by kernel_rfl) (by kernel_rfl) (by kernel_rfl) (fun _ _ _ h => h) (Or.inl ⟨by rfl, ?_⟩) ?_)
                         rotate_left
                         (intro w; go_simp)
                         (try (with_reducible rfl))
                         (refine wpAny_take (i := 19) (v := ?_) rfl (by kernel_rfl) (by kernel_rfl) (by kernel_rfl) (fun _ _ _ h => h) (Or.inl ⟨by rfl, ?_⟩) ?_)
                         rotate_left
                         (intro w; go_simp)
                         (try (with_reducible rfl))
                         (refine wpAny_take (i := 20) (v := ?_) rfl (by kernel_rfl) (by kernel_rfl) (by kernel_rfl) (fun _ _ _ h => h) (Or.inl ⟨by rfl, ?_⟩) ?_)
                         rotate_left
                         (intro w; go_simp)
                         (try (with_reducible rfl))
                         (refine wpAny_take (i := 21) (v := ?_) rfl (by kernel_rfl) (by kernel_rfl) (by kernel_rfl) (fun _ _ _ h => h) (Or.inl ⟨by rfl, ?_⟩) ?_)
                         rotate_left
                         (intro w; go_simp)
                         (try (with_reducible rfl))
                         (refine wpAny_react (by go_simp; rfl) ?_)
                         (refine wpAny_relist (fuel' := 4) (listed' := #[true, true, true, true, true, true, true, true, true, true, true, true, true, true, true, true, true, false, true, true, true, true, false, false, false]) (by kernel_rfl) (by kernel_rfl) ?_))
          all_goals
            go_wp2
            go_roundg (zs.length - k)
            case measure => omega
            case rel => exact ⟨k + 1, by omega, hlt, by go_num, HB8.out⟩
        · have hN : decide ((k : Int) < (zs.length : Int)) = false := by simp; omega
          have HY := Lib.hid (PRow.below HY6.out HBr.out)
          have HZ := Lib.hid (PRow.below HZ6.out HBr.out)
          have HBf := Lib.hid (HBW6.out.trans (HBr.out.mono HBW6.out.size))
          go_wp2_with fail
          refine (sameQ_in UR wr.heap.size _ _ wr HZ.out.sl HY.out.sl).mono ?_
          rintro e w9 ⟨rfl, hd9⟩
          have HB9 := Lib.hid (HBf.out.trans ((hd9.below wr.heap.size).mono HBf.out.size))
          clear hd9
          go_wp2_with fail
          refine (alive_in w9 (HE.out w9 HB9.out)).mono ?_
          rintro e w10 ⟨rfl, hb10⟩
          have hfin := HB9.out.trans (hb10.mono HB9.out.size)
          go_wp2
          go_ret
          exact ⟨rfl, hfin⟩
end Go.Proofs.YtjdjdcdpflnplaaDoor.T
