/-
  place.Unfold of any runs, where it refuses, too.
-/
import Derived.Test.YtjdjdcdpflnplaaDoorPlaceUnfold
set_option linter.unusedVariables false
namespace Go.Proofs.YtjdjdcdpflnplaaDoor.T
open Go Go.Lib Go.RowKit

/-- a run that may not be: no times, or no places -/
def badZ (z : Rz) : Bool := decide (z.t < 1) || decide (z.ps.length = 0)
/-- what both Unfolds answer -/
def unfC (zs : List Rz) : Nat := if zs.any badZ then 1 else if tooB zs 0 then 31 else if zs.all (fun z => z.ps.all mayB) then 0 else 30
def unfR (zs : List Rz) : List Pl := if unfC zs = 0 then flatZ zs else []
theorem unfC_bad {zs : List Rz} {z : Rz} (hz : z ∈ zs) (h : badZ z = true) : unfC zs = 1 := by
  unfold unfC
  rw [if_pos (List.any_eq_true.2 ⟨z, hz, h⟩)]
theorem unfC_too {zs : List Rz} (h : zs.any badZ = false) (ht : tooB zs 0 = true) : unfC zs = 31 := by
  unfold unfC
  rw [h, if_neg (by simp), if_pos ht]
theorem unfC_ill {zs : List Rz} (h : zs.any badZ = false) (ht : tooB zs 0 = false) {z : Rz} (hz : z ∈ zs) (hm : z.ps.all mayB = false) : unfC zs = 30 := by
  unfold unfC
  rw [h, if_neg (by simp), ht, if_neg (by simp), if_neg]
  intro ha
  have := List.all_eq_true.1 ha z hz
  rw [hm] at this
  cases this
theorem unfC_ok {zs : List Rz} (h : zs.any badZ = false) (ht : tooB zs 0 = false) (hm : ∀ z ∈ zs, z.ps.all mayB = true) : unfC zs = 0 := by
  unfold unfC
  rw [h, if_neg (by simp), ht, if_neg (by simp), if_pos (List.all_eq_true.2 hm)]
theorem good_bd {zs : List Rz} (h : zs.any badZ = false) : ∀ z ∈ zs, 1 ≤ z.t ∧ z.ps ≠ [] := fun z hz => by
  have := List.any_eq_false.1 h z hz
  unfold badZ at this
  simp only [Bool.or_eq_true, decide_eq_true_eq, not_or] at this
  exact ⟨by omega, fun e => this.2 (by rw [e]; rfl)⟩
set_option maxRecDepth 100000 in
set_option maxHeartbeats 8000000 in
theorem UnfoldAny_in (zs : List Rz) (hn : zs.length ≤ 8796093022100) (h64 : ∀ z ∈ zs, -9223372036854775808 ≤ z.t ∧ z.t ≤ 9223372036854775807) (hs : ∀ z ∈ zs, Slim z.ps) (v : Value) (w : World) (hv : RzSl w.heap.size w v zs) :
    Calls Tryd.prog 17 #[v] w (IsTwo 39 (unfR zs) (unfC zs) w) := by
  have cM := fun (hg : zs.any badZ = false) W (hb : Below w.heap.size w W) => tooMany_in zs hn (fun z h => (good_bd hg z h).1) _ v W (hv.below hb hb.size)
  obtain ⟨a, c, rfl, h1, h2⟩ := hv
  have hUB := fun (z : Rz) (hz : z ∈ zs) (h : badZ z = true) => unfC_bad hz h
  have hUT := fun (h : zs.any badZ = false) (ht : tooB zs 0 = true) => unfC_too h ht
  have hUI := fun (h : zs.any badZ = false) (ht : tooB zs 0 = false) (z : Rz) (hz : z ∈ zs) (hm : z.ps.all mayB = false) => unfC_ill h ht hz hm
  have hUO := fun (h : zs.any badZ = false) (ht : tooB zs 0 = false) (hm : ∀ z ∈ zs, z.ps.all mayB = true) => unfC_ok h ht hm
  have hUR : unfR zs = if unfC zs = 0 then flatZ zs else [] := rfl
  generalize unfC zs = UC at *
  generalize unfR zs = UR at *
  have HUB := Lib.hid hUB
  have HUT := Lib.hid hUT
  have HUI := Lib.hid hUI
  have HUO := Lib.hid hUO
  have HUR := Lib.hid hUR
  have HT64 := Lib.hid h64
  have HS := Lib.hid hs
  have H2 := Lib.hid h2
  have CM := Lib.hid cM
  clear hs h2 cM hUB hUT hUI hUO hUR h64
  have kp : ∀ {W : World}, Below w.heap.size w W → ∀ (p : Addr) (u : Value), w.cell? p = some u → W.cell? p = some u := fun hb p u hp => (hb.cell (World.block_lt_of_cell? w p hp)).trans hp
  have KP := @kp
  have hKP : Hid (∀ {W : World}, Below w.heap.size w W → ∀ (p : Addr) (u : Value), w.cell? p = some u → W.cell? p = some u) := Lib.hid kp
  clear KP kp
  go_enter Tryd.func17, Tryd.ntmps17
  go_wp2
  go_loopg [12] (zs.length + 1) (fun g i wr => ∃ (k : Nat), k + g = zs.length + 1 ∧ k ≤ zs.length ∧ i = .int .i64 k ∧ Hid (∀ j z, j < k → zs[j]? = some z → badZ z = false) ∧ Below w.heap.size w wr)
  case atStart => exact ⟨0, by omega, Nat.zero_le _, rfl, (fun j z h => by omega), Below.refl _ _⟩
  case round =>
    obtain ⟨k, hkg, hk, rfl, hgd, hbw⟩ := hrel
    have hszr := hbw.size
    rcases Nat.lt_or_ge k zs.length with hlt | hge
    · obtain ⟨bk, o, rfl, _, hA⟩ := h1 (by intro e; subst e; simp at hlt)
      obtain ⟨z, hzk⟩ : ∃ z, zs[k]? = some z := ⟨_, List.getElem?_eq_getElem hlt⟩
      have c1 := hKP.out hbw _ _ (hA k z hzk).1
      have c2 := hKP.out hbw _ _ (hA k z hzk).2
      have hmem := List.mem_of_getElem? hzk
      have htb := HT64.out z hmem
      have hub := HUB.out z hmem
      have hnx : badZ z = false → Hid (∀ j z, j < k + 1 → zs[j]? = some z → badZ z = false) := fun hb j z' hj hz' => by
        rcases Nat.lt_or_ge j k with h | h
        · exact hgd.out j z' h hz'
        · obtain rfl : j = k := by omega
          rw [hzk] at hz'; cases hz'; exact hb
      obtain ⟨za, zc, hzv, _⟩ := H2.out z hmem
      have hbz : badZ z = (decide (z.t < 1) || decide (z.ps.length = 0)) := rfl
      rw [hbz] at hub hnx
      obtain ⟨zv, zps, zt⟩ := z
      simp only at c1 c2 htb hzv hub hnx
      subst hzv
      clear hA hzk hmem hgd hbz
      have HNX := Lib.hid hnx
      have HUBz := Lib.hid hub
      clear hnx hub
      generalize zps.length = m at *
      have hbb : ∀ (o : Obj), Below w.heap.size w (wr.alloc o) := fun o => hbw.alloc hszr o
      have hN : decide ((k : Int) < (zs.length : Int)) = true := by simp; omega
      by_cases ht1 : zt < 1
      · have hfin : UC = 1 := HUBz.out (by rw [decide_eq_true ht1]; rfl)
        have hfr : UR = [] := by rw [HUR.out, if_neg (by omega)]
        have hd1 : decide (zt < 1) = true := decide_eq_true ht1
        have HF := Lib.hid hfin
        have HFR := Lib.hid hfr
        clear hfin hfr
        go_wp2
        go_ret2
        rw [HF.out, HFR.out]
        exact ⟨_, rfl, PRow.nil _ _ _, hbb _⟩
      · have hd1 : decide (zt < 1) = false := by simp; omega
        by_cases hm0 : m = 0
        · have hfin : UC = 1 := HUBz.out (by rw [decide_eq_true hm0]; simp)
          have hfr : UR = [] := by rw [HUR.out, if_neg (by omega)]
          have HF := Lib.hid hfin
          have HFR := Lib.hid hfr
          clear hfin hfr
          subst hm0
          go_wp2
          go_ret2
          rw [HF.out, HFR.out]
          exact ⟨_, rfl, PRow.nil _ _ _, hbb _⟩
        · have hd2 : decide ((m : Int) = 0) = false := by simp; omega
          have hd3 : ((m : Int) == 0) = false := by simp; omega
          have hnx := HNX.out (by rw [decide_eq_false ht1, decide_eq_false hm0]; rfl)
          go_wp2
          go_roundg (zs.length - k)
          case measure => omega
          case rel => exact ⟨k + 1, by omega, hlt, by go_num, hnx, hbb _⟩
    · have hN : decide ((k : Int) < (zs.length : Int)) = false := by simp; omega
      have hkl : k = zs.length := by omega
      have hgood : zs.any badZ = false := List.any_eq_false.2 fun z hz => by
        obtain ⟨j, hj⟩ := List.mem_iff_getElem?.1 hz
        rw [hgd.out j z (by have := (List.getElem?_eq_some_iff.1 hj).1; omega) hj]
        simp
      have cM := CM.out hgood wr hbw
      have hUT := HUT.out hgood
      have hUI := HUI.out hgood
      have hUO := HUO.out hgood
      have HGD := Lib.hid (good_bd hgood)
      have htl := tooB_len zs 0 (by omega)
      generalize tooB zs 0 = tb at *
      have CMX := Lib.hid cM
      have HUT2 := Lib.hid hUT
      have HUI2 := Lib.hid hUI
      have HUO2 := Lib.hid hUO
      have HTL := Lib.hid htl
      clear cM hUT hUI hUO htl hgood hgd hkl CM HUT HUI HUO
      go_wp2_with fail
      refine CMX.out.mono ?_
      rintro e w2 ⟨rfl, hb2⟩
      have hbw2 := hbw.trans (hb2.mono hszr)
      cases tb with
      | true =>
        have hfin : UC = 31 := HUT2.out rfl
        have hfr : UR = [] := by rw [HUR.out, if_neg (by omega)]
        have HF := Lib.hid hfin
        have HFR := Lib.hid hfr
        clear hfin hfr
        go_wp2
        go_ret2
        rw [HF.out, HFR.out]
        exact ⟨_, rfl, PRow.nil _ _ _, hbw2⟩
      | false =>
      obtain ⟨hlen, hz64⟩ := HTL.out rfl
      have hUI := HUI2.out rfl
      have hUO := HUO2.out rfl
      have HUI3 := Lib.hid hUI
      have HUO3 := Lib.hid hUO
      have H64 := Lib.hid hz64
      clear hz64 hUI hUO HUI2 HUO2 HUT2 HTL CMX
      clear hge hN
      go_wp2
      go_loopg [6, 30] (zs.length + 1) (fun g x i wr => ∃ (k : Nat), k + g = zs.length + 1 ∧ k ≤ zs.length ∧ i = .int .i64 k ∧ Hid (∀ j z, j < k → zs[j]? = some z → z.ps.all mayB = true) ∧ PRow 39 w.heap.size wr x (flatZ (zs.take k)) ∧ Below w.heap.size w wr)
      case atStart => exact ⟨0, by omega, Nat.zero_le _, rfl, (fun j z h => by omega), PRow.nil _ _ _, hbw2⟩
      case round =>
        obtain ⟨k, hkg, hk, rfl, hmy, hrow, hbw⟩ := hrel
        have hszr := hbw.size
        rcases Nat.lt_or_ge k zs.length with hlt | hge
        · obtain ⟨bk, o, rfl, _, hA⟩ := h1 (by intro e; subst e; simp at hlt)
          obtain ⟨z, hzk⟩ : ∃ z, zs[k]? = some z := ⟨_, List.getElem?_eq_getElem hlt⟩
          have c1 := hKP.out hbw _ _ (hA k z hzk).1
          have c2 := hKP.out hbw _ _ (hA k z hzk).2
          have hmem := List.mem_of_getElem? hzk
          have ht1 := (HGD.out z hmem).1
          have hill := HUI3.out z hmem
          have hckn : checkN z.ps = if z.ps.all mayB = true then 0 else 30 := by
            unfold checkN
            have := (H64.out z hmem).2
            by_cases h : z.ps.all mayB = true
            · rw [if_pos h, if_pos h, if_neg (by omega)]
            · rw [if_neg h, if_neg h]
          have hnx : z.ps.all mayB = true → Hid (∀ j z, j < k + 1 → zs[j]? = some z → z.ps.all mayB = true) := fun hb j z' hj hz' => by
            rcases Nat.lt_or_ge j k with h | h
            · exact hmy.out j z' h hz'
            · obtain rfl : j = k := by omega
              rw [hzk] at hz'; cases hz'; exact hb
          have hsl := HS.out z hmem
          have hpl := H2.out z hmem
          have h64 := H64.out z hmem
          have htk : flatZ (zs.take (k + 1)) = flatZ (zs.take k) ++ (List.replicate z.t.toNat z.ps).flatten := by
            rw [List.take_add_one, hzk, flatZ_append]
            simp [flatZ]
          have hfl : (flatZ (zs.take (k + 1))).length ≤ 64 := by
            have e : flatZ zs = flatZ (zs.take (k + 1)) ++ flatZ (zs.drop (k + 1)) := by rw [← flatZ_append, List.take_append_drop]
            rw [e, List.length_append] at hlen
            omega
          obtain ⟨zv, zps, zt⟩ := z
          simp only at c1 c2 ht1 hill hckn hnx hsl hpl h64 htk
          obtain ⟨t, rfl⟩ : ∃ t : Nat, zt = t := ⟨zt.toNat, by omega⟩
          rw [Int.toNat_natCast] at htk
          have cK := Check_in zps hsl w.heap.size zv
          rw [hckn] at cK
          generalize hmv : zps.all mayB = mv at *
          have HILL := Lib.hid hill
          have HNX := Lib.hid hnx
          clear hill hnx hckn hmv hmy
          have HTK := Lib.hid htk
          have HFL := Lib.hid hfl
          have HPL := Lib.hid hpl
          obtain ⟨za, zc, rfl, _⟩ := hpl
          clear hA hzk hmem htk hfl
          have hbx := RBox.new wr (.slice za zps.length zc) (t : Int)
          have hb3 : Below w.heap.size w (wr.alloc (.cells #[.slice za zps.length zc, .int .i64 (t : Int)] 37)) := hbw.alloc hszr _
          have hrow3 : PRow 39 w.heap.size (wr.alloc (.cells #[.slice za zps.length zc, .int .i64 (t : Int)] 37)) u6 (flatZ (zs.take k)) := World.ownsRow.alloc hrow _
          have cK3 := cK _ (HPL.out.below hb3 (Nat.le_refl _))
          have hN : decide ((k : Int) < (zs.length : Int)) = true := by simp; omega
          have CK3 := Lib.hid cK3
          clear cK3 cK
          cases mv with
          | false =>
            have hfin : UC = 30 := HILL.out rfl
            have hfr : UR = [] := by rw [HUR.out, if_neg (by omega)]
            have HF := Lib.hid hfin
            have HFR := Lib.hid hfr
            clear hfin hfr hrow3 hbx
            go_wp2_with fail
            refine CK3.out.mono ?_
            rintro e w4 ⟨rfl, hb4⟩
            have hbw4 := hb3.trans (hb4.mono hb3.size)
            go_wp2
            go_ret2
            rw [HF.out, HFR.out]
            exact ⟨_, rfl, PRow.nil _ _ _, hbw4⟩
          | true =>
          go_wp2_with fail
          refine CK3.out.mono ?_
          rintro e w4 ⟨rfl, hb4⟩
          have hbx4 := hbx.below hb4
          have hrow4 := PRow.below hrow3 hb4
          have hbw4 := hb3.trans (hb4.mono hb3.size)
          have x1 := hbx4.c1
          clear hrow3 hbx c1 c2
          have HB4 := Lib.hid hbx4
          clear hbx4
          obtain ⟨b8, hb8⟩ : ∃ b8, b8 = wr.heap.size := ⟨_, rfl⟩
          rw [← hb8] at x1 HB4
          clear hb4 hb3
          have hN2 : decide ((k : Int) < (zs.length : Int)) = true := hN
          rw [← hb8]
          clear hb8 hszr hbw hrow
          go_wp2
          go_loopg [6, 42] (t + 1) (fun g x i wq => ∃ (j : Nat), j + g = t + 1 ∧ j ≤ t ∧ i = .int .i64 j ∧ PRow 39 w.heap.size wq x (flatZ (zs.take k) ++ (List.replicate j zps).flatten) ∧ Hid (RBox wq b8 (.slice za zps.length zc) (t : Int)) ∧ Below w.heap.size w wq)
          case atStart => exact ⟨0, by omega, Nat.zero_le _, rfl, by simpa using hrow4, HB4, hbw4⟩
          case round =>
            obtain ⟨j, hjg, hj, rfl, hrow, hbx, hbq⟩ := hrel
            have x0 := hbx.out.c0
            have x1 := hbx.out.c1
            rcases Nat.lt_or_ge j t with hjt | hjt
            · have hlen2 : (flatZ (zs.take k) ++ (List.replicate j zps).flatten).length + zps.length ≤ 128 := by
                have h1 := HFL.out
                rw [HTK.out, List.length_append, rep_len] at h1
                have h2 : zps.length * j ≤ zps.length * t := Nat.mul_le_mul_left _ hj
                rw [List.length_append, rep_len]
                omega
              have cC := copies_in zps (by omega) hsl _ _ (HPL.out.below hbq hbq.size)
              have hN3 : decide ((j : Int) < (t : Int)) = true := by simp; omega
              go_wp2_with fail
              refine cC.mono ?_
              rintro e w5 ⟨v5, rfl, hrow5, hb5⟩
              have hrow6 := PRow.below hrow hb5
              have hbx5 := hbx.out.below hb5
              have hbq5 := hbq.trans (hb5.mono hbq.size)
              obtain ⟨v6, w6, hrun, hrow7, hgr⟩ := app_all placeTy infoOwn w.heap.size w5.heap.size w5 u6 v5 _ zps hrow6 hrow5.sl (by omega) hbq5.size
              have hbx6 := Lib.hid (hbx5.grown hrow6 hgr)
              have hbq6 : Below w.heap.size w w6 := hbq5.trans ((Below.refl _ w5).grown hgr hbq5.size (fun q hq => (World.ownsRow.lt hrow6 q hq).1))
              rw [List.append_assoc] at hrow7
              have e : (List.replicate j zps).flatten ++ zps = (List.replicate (j + 1) zps).flatten := by rw [List.replicate_succ', List.flatten_append]; simp
              rw [e] at hrow7
              clear e hrow6 hbx5 hrow5 hrow
              go_wp2_with (at_builtin; refine wpList_append_run rfl _ _ 23 rfl _ _ _ _ rfl rfl hrun ?_)
              go_roundg (t - j)
              case measure => omega
              case rel => exact ⟨j + 1, by omega, hjt, by go_num, hrow7, hbx6, hbq6⟩
            · have hjt' : j = t := by omega
              rw [hjt', ← HTK.out] at hrow
              have hN3 : decide ((j : Int) < (t : Int)) = false := by simp; omega
              clear hjt'
              go_wp2
              go_roundg (zs.length - k)
              case measure => omega
              case rel => exact ⟨k + 1, by omega, hlt, by go_num, HNX.out (by simp), hrow, hbq⟩
        · have hkl : k = zs.length := by omega
          rw [hkl, List.take_length] at hrow
          have hfin : UC = 0 := HUO3.out (fun z hz => by
            obtain ⟨j, hj⟩ := List.mem_iff_getElem?.1 hz
            exact hmy.out j z (by have := (List.getElem?_eq_some_iff.1 hj).1; omega) hj)
          have hfr : UR = flatZ zs := by rw [HUR.out, if_pos hfin]
          have HF := Lib.hid hfin
          have HFR := Lib.hid hfr
          clear hfin hfr hmy
          have hN : decide ((k : Int) < (zs.length : Int)) = false := by simp; omega
          go_wp2
          go_ret2
          rw [HF.out, HFR.out]
          exact ⟨_, rfl, hrow, hbw⟩
end Go.Proofs.YtjdjdcdpflnplaaDoor.T
