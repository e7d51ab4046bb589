/-
  errataref03.Unfold of any runs.
-/
import Derived.Test.YtjdjdcdpflnplaaDoorPlaceUnfAny
import Derived.Test.YtjdjdcdpflnplaaDoorPlaceRefFold
set_option linter.unusedVariables false
namespace Go.Proofs.YtjdjdcdpflnplaaDoor.T
open Go Go.Lib Go.RowKit

theorem tooB_iff {zs : List Rz} (h : ∀ z ∈ zs, 1 ≤ z.t ∧ z.ps ≠ []) : tooB zs 0 = decide (64 < (flatZ zs).length) := by
  by_cases hl : 64 < (flatZ zs).length
  · rw [decide_eq_true hl]
    cases ht : tooB zs 0 with
    | true => rfl
    | false => have := (tooB_len zs 0 (by omega) ht).1; omega
  · rw [decide_eq_false hl]
    exact tooB_no zs 0 h (by omega)
theorem flat_take {zs : List Rz} {k : Nat} {z : Rz} (hz : zs[k]? = some z) : flatZ (zs.take (k + 1)) = flatZ (zs.take k) ++ (List.replicate z.t.toNat z.ps).flatten := by
  rw [List.take_add_one, hz, flatZ_append]
  simp [flatZ]
theorem flat_le (zs : List Rz) (k : Nat) : (flatZ (zs.take k)).length ≤ (flatZ zs).length := by
  conv => rhs; rw [← List.take_append_drop k zs, flatZ_append, List.length_append]
  omega
/-- what the document's Unfold keeps, behind the first runs: all places, or more than a stack has -/
structure Out (B : Nat) (w : World) (zs : List Rz) (k : Nat) (many : Nat) (v : Value) : Prop where
  row : ∃ os, PRow 96 B w v os ∧ os.length = many ∧ (many ≤ 64 → os = flatZ (zs.take k))
  few : many ≤ 64 → many = (flatZ (zs.take k)).length
  lots : 64 < many → 64 < (flatZ (zs.take k)).length
theorem bad_t {bad A M : Bool} (h : true = (bad || !A)) : true = (bad || !(A && M)) := by cases bad <;> cases A <;> cases M <;> simp_all
theorem bad_f {bad A M : Bool} (h : false = (bad || !A)) : (!M) = (bad || !(A && M)) := by cases bad <;> cases A <;> cases M <;> simp_all
/-- the same, while one run is put behind the others, j times so far -/
structure Mid (B : Nat) (w : World) (fl ps : List Pl) (j many : Nat) (v : Value) : Prop where
  row : ∃ os, PRow 96 B w v os ∧ os.length = many ∧ (many ≤ 64 → os = fl ++ (List.replicate j ps).flatten)
  few : many ≤ 64 → many = fl.length + j * ps.length
  lots : 64 < many → 64 < fl.length + j * ps.length
theorem Out.below {B : Nat} {w w' : World} {zs : List Rz} {k many : Nat} {v : Value} (h : Out B w zs k many v) (hb : Below w.heap.size w w') : Out B w' zs k many v := by
  obtain ⟨os, h1, h2, h3⟩ := h.row
  exact ⟨⟨os, h1.below hb, h2, h3⟩, h.few, h.lots⟩
theorem Out.mid {B : Nat} {w : World} {zs : List Rz} {k many : Nat} {v : Value} (h : Out B w zs k many v) (ps : List Pl) : Mid B w (flatZ (zs.take k)) ps 0 many v := by
  obtain ⟨os, h1, h2, h3⟩ := h.row
  exact ⟨⟨os, h1, h2, fun hm => by simpa using h3 hm⟩, fun hm => by simpa using h.few hm, fun hm => by simpa using h.lots hm⟩
theorem Mid.out {B : Nat} {w : World} {zs : List Rz} {k many j : Nat} {v : Value} {z : Rz} (hz : zs[k]? = some z) {t : Nat} (ht : z.t = (t : Int)) (h : Mid B w (flatZ (zs.take k)) z.ps j many v) (hj : j ≤ t) (hx : many ≤ 64 → j = t) : Out B w zs (k + 1) many v := by
  obtain ⟨os, h1, h2, h3⟩ := h.row
  have e := flat_take hz
  rw [ht, Int.toNat_natCast] at e
  have el : (flatZ (zs.take (k + 1))).length = (flatZ (zs.take k)).length + z.ps.length * t := by rw [e, List.length_append, rep_len]
  refine ⟨⟨os, h1, h2, fun hm => ?_⟩, fun hm => ?_, fun hm => ?_⟩
  · rw [h3 hm, e, hx hm]
  · rw [el, h.few hm, hx hm, Nat.mul_comm]
  · have := h.lots hm
    have h4 : j * z.ps.length ≤ t * z.ps.length := Nat.mul_le_mul_right _ hj
    rw [el, Nat.mul_comm z.ps.length t]
    omega
theorem Mid.step {B : Nat} {w w' : World} {fl ps : List Pl} {j many : Nat} {v v' : Value} {os : List Pl} (h : Mid B w fl ps j many v) (hm : many ≤ 64) (ho : os = fl ++ (List.replicate j ps).flatten) (hr : PRow 96 B w' v' (os ++ ps)) : Mid B w' fl ps (j + 1) (many + ps.length) v' := by
  have e : (List.replicate (j + 1) ps).flatten = (List.replicate j ps).flatten ++ ps := by rw [List.replicate_succ', List.flatten_append]; simp
  have hf := h.few hm
  have hl : os.length = many := by rw [ho, List.length_append, rep_len, hf, Nat.mul_comm]
  refine ⟨⟨_, hr, by rw [List.length_append, hl], fun _ => by rw [ho, e, List.append_assoc]⟩, fun _ => by rw [Nat.add_mul]; omega, fun _ => by rw [Nat.add_mul]; omega⟩
set_option maxRecDepth 100000 in
set_option maxHeartbeats 16000000 in
theorem refUnfold_in (zs : List Rz) (hn : zs.length ≤ 8796093022100) (h64 : ∀ z ∈ zs, -9223372036854775808 ≤ z.t ∧ z.t ≤ 9223372036854775807) (hs : ∀ z ∈ zs, Slim z.ps) (hp : ∀ z ∈ zs, z.ps.length ≤ 5864062014690) (v : Value) (w : World) (hv : RzSl w.heap.size w v zs) :
    Calls Tryd.prog 18 #[v] w (IsTwo 96 (unfR zs) (unfC zs) w) := by
  obtain ⟨a, c, rfl, h1, h2⟩ := hv
  have hUB := fun (z : Rz) (hz : z ∈ zs) (h : badZ z = true) => unfC_bad hz h
  have hUT := fun (h : zs.any badZ = false) (ht : tooB zs 0 = true) => unfC_too h ht
  have hUI := fun (h : zs.any badZ = false) (ht : tooB zs 0 = false) (z : Rz) (hz : z ∈ zs) (hm : z.ps.all mayB = false) => unfC_ill h ht hz hm
  have hUO := fun (h : zs.any badZ = false) (ht : tooB zs 0 = false) (hm : ∀ z ∈ zs, z.ps.all mayB = true) => unfC_ok h ht hm
  have hUR : unfR zs = if unfC zs = 0 then flatZ zs else [] := rfl
  generalize unfC zs = UC at *
  generalize unfR zs = UR at *
  have HUB := Lib.hid hUB
  have HUT := Lib.hid hUT
  have HUI := Lib.hid hUI
  have HUO := Lib.hid hUO
  have HUR := Lib.hid hUR
  have HT64 := Lib.hid h64
  have HS := Lib.hid hs
  have HP := Lib.hid hp
  have H2 := Lib.hid h2
  clear hs h2 hUB hUT hUI hUO hUR h64 hp
  have kp : ∀ {W : World}, Below w.heap.size w W → ∀ (p : Addr) (u : Value), w.cell? p = some u → W.cell? p = some u := fun hb p u hp => (hb.cell (World.block_lt_of_cell? w p hp)).trans hp
  have hKP : Hid (∀ {W : World}, Below w.heap.size w W → ∀ (p : Addr) (u : Value), w.cell? p = some u → W.cell? p = some u) := Lib.hid kp
  clear kp
  go_enter Tryd.func18, Tryd.ntmps18
  go_wp2
  go_loopg [6] (zs.length + 1) (fun g i wr => ∃ (k : Nat), k + g = zs.length + 1 ∧ k ≤ zs.length ∧ i = .int .i64 k ∧ Hid (∀ j z, j < k → zs[j]? = some z → badZ z = false) ∧ Below w.heap.size w wr)
  case atStart => exact ⟨0, by omega, Nat.zero_le _, rfl, (fun j z h => by omega), Below.refl _ _⟩
  case round =>
    obtain ⟨k, hkg, hk, rfl, hgd, hbw⟩ := hrel
    have hszr := hbw.size
    rcases Nat.lt_or_ge k zs.length with hlt | hge
    · obtain ⟨bk, o, rfl, _, hA⟩ := h1 (by intro e; subst e; simp at hlt)
      obtain ⟨z, hzk⟩ : ∃ z, zs[k]? = some z := ⟨_, List.getElem?_eq_getElem hlt⟩
      have c1 := hKP.out hbw _ _ (hA k z hzk).1
      have c2 := hKP.out hbw _ _ (hA k z hzk).2
      have hmem := List.mem_of_getElem? hzk
      have htb := HT64.out z hmem
      have hub := HUB.out z hmem
      have hnx : badZ z = false → Hid (∀ j z, j < k + 1 → zs[j]? = some z → badZ z = false) := fun hb j z' hj hz' => by
        rcases Nat.lt_or_ge j k with h | h
        · exact hgd.out j z' h hz'
        · obtain rfl : j = k := by omega
          rw [hzk] at hz'; cases hz'; exact hb
      obtain ⟨za, zc, hzv, _⟩ := H2.out z hmem
      have hbz : badZ z = (decide (z.t < 1) || decide (z.ps.length = 0)) := rfl
      rw [hbz] at hub hnx
      obtain ⟨zv, zps, zt⟩ := z
      simp only at c1 c2 htb hzv hub hnx
      subst hzv
      clear hA hzk hmem hgd hbz
      have HNX := Lib.hid hnx
      have HUBz := Lib.hid hub
      clear hnx hub
      generalize zps.length = m at *
      have hN : decide ((k : Int) < (zs.length : Int)) = true := by simp; omega
      by_cases ht1 : zt < 1
      · have hfin : UC = 1 := HUBz.out (by rw [decide_eq_true ht1]; rfl)
        have hfr : UR = [] := by rw [HUR.out, if_neg (by omega)]
        have hd1 : decide (zt < 1) = true := decide_eq_true ht1
        have HF := Lib.hid hfin
        have HFR := Lib.hid hfr
        clear hfin hfr
        go_wp2
        go_ret2
        rw [HF.out, HFR.out]
        exact ⟨_, rfl, PRow.nil _ _ _, hbw⟩
      · have hd1 : decide (zt < 1) = false := by simp; omega
        by_cases hm0 : m = 0
        · have hfin : UC = 1 := HUBz.out (by rw [decide_eq_true hm0]; simp)
          have hfr : UR = [] := by rw [HUR.out, if_neg (by omega)]
          have HF := Lib.hid hfin
          have HFR := Lib.hid hfr
          clear hfin hfr
          subst hm0
          go_wp2
          go_ret2
          rw [HF.out, HFR.out]
          exact ⟨_, rfl, PRow.nil _ _ _, hbw⟩
        · have hd2 : decide ((m : Int) < 1) = false := by simp; omega
          have hnx := HNX.out (by rw [decide_eq_false ht1, decide_eq_false hm0]; rfl)
          go_wp2
          go_roundg (zs.length - k)
          case measure => omega
          case rel => exact ⟨k + 1, by omega, hlt, by go_num, hnx, hbw⟩
    · have hN : decide ((k : Int) < (zs.length : Int)) = false := by simp; omega
      have hN' : decide (k < zs.length) = false := decide_eq_false (by omega)
      have hgood : zs.any badZ = false := List.any_eq_false.2 fun z hz => by
        obtain ⟨j, hj⟩ := List.mem_iff_getElem?.1 hz
        rw [hgd.out j z (by have := (List.getElem?_eq_some_iff.1 hj).1; omega) hj]
        simp
      have hUT := HUT.out hgood
      have hUI := HUI.out hgood
      have hUO := HUO.out hgood
      have hgb := good_bd hgood
      rw [tooB_iff hgb] at hUT hUI hUO
      have HGD := Lib.hid hgb
      have HUT2 := Lib.hid hUT
      have HUI2 := Lib.hid hUI
      have HUO2 := Lib.hid hUO
      clear hUT hUI hUO hgood hgd HUT HUI HUO hgb HUB
      go_wp2
      clear hge
      go_loopg [4, 5, 7, 8] (zs.length + 1) (fun g m b x i wr => ∃ (k many : Nat) (bad : Bool), k + g = zs.length + 1 ∧ k ≤ zs.length ∧ i = .int .i64 k ∧ m = .int .i64 many ∧ b = .bool bad ∧ many ≤ 5864062014754 ∧ Hid (bad = (zs.take k).any (fun z => !z.ps.all mayB)) ∧ Hid (Out w.heap.size wr zs k many x) ∧ Below w.heap.size w wr)
      case atStart => exact ⟨0, 0, false, by omega, Nat.zero_le _, rfl, rfl, rfl, by omega, rfl, ⟨⟨[], PRow.nil _ _ _, rfl, fun _ => rfl⟩, fun _ => rfl, fun h => by omega⟩, hbw⟩
      case round =>
        obtain ⟨k, many, bad, hkg, hk, rfl, rfl, rfl, hmb, hbad, hout, hbw⟩ := hrel
        have hszr := hbw.size
        rcases Nat.lt_or_ge k zs.length with hlt | hge
        · obtain ⟨bk, o, rfl, _, hA⟩ := h1 (by intro e; subst e; simp at hlt)
          obtain ⟨z, hzk⟩ : ∃ z, zs[k]? = some z := ⟨_, List.getElem?_eq_getElem hlt⟩
          have hc1 := (hA k z hzk).1
          have hc2 := (hA k z hzk).2
          have hmem := List.mem_of_getElem? hzk
          obtain ⟨ht1, hp1⟩ := HGD.out z hmem
          have htb := (HT64.out z hmem).2
          have hsl := HS.out z hmem
          have hnp := HP.out z hmem
          have hpl := H2.out z hmem
          have hp0 := List.length_pos_iff.2 hp1
          have hmid := fun W x (h : Out w.heap.size W zs k many x) => h.mid z.ps
          obtain ⟨t, ht⟩ : ∃ t : Nat, z.t = (t : Int) := ⟨z.t.toNat, by omega⟩
          have hend := fun W x j many' (h : Mid w.heap.size W (flatZ (zs.take k)) z.ps j many' x) (h1 : j ≤ t) (h2 : many' ≤ 64 → j = t) => h.out hzk ht h1 h2
          have hbad2 : Hid ((bad || !z.ps.all mayB) = (zs.take (k + 1)).any (fun z => !z.ps.all mayB)) := by
            show _ = _
            rw [List.take_add_one, hzk, hbad.out]
            simp
          obtain ⟨zv, zps, zt⟩ := z
          simp only at hc1 hc2 ht1 htb hsl hnp hpl hp0 hmid ht hend hbad2
          subst ht
          have hpl2 := hpl
          obtain ⟨za, zc, rfl, _, _, hpc⟩ := hpl
          obtain ⟨bz, oz, rfl, hbz, hat⟩ := hpc (by intro e; subst e; simp at hp0)
          have HC : Hid (∀ W, Below w.heap.size w W → W.cell? ⟨bk, o + k * 2, none⟩ = some (.slice (some ⟨bz, oz, none⟩) zps.length zc) ∧ W.cell? ⟨bk, o + k * 2 + 1, none⟩ = some (.int .i64 (t : Int))) := fun W hb => ⟨hKP.out hb _ _ hc1, hKP.out hb _ _ hc2⟩
          have HAT : Hid (∀ W, Below w.heap.size w W → ∀ j p, zps[j]? = some p → W.cell? ⟨bz, oz + j * 2, none⟩ = some (.string p.n) ∧ W.cell? ⟨bz, oz + j * 2 + 1, none⟩ = some (.int .i64 p.k)) := fun W hb j p hj => hat.below hb hbz j p hj
          have HPL := Lib.hid hpl2
          have HSL := Lib.hid hsl
          have HMID := Lib.hid hmid
          have HEND := Lib.hid hend
          clear hc1 hc2 hA hzk hmem hpl2 hsl hmid hend hpc hat hbad
          obtain ⟨np, hnpe⟩ : ∃ n, n = zps.length := ⟨_, rfl⟩
          have HNP := Lib.hid hnpe
          rw [← hnpe] at HC hnp hp0
          clear hnpe
          have hN : decide ((k : Int) < (zs.length : Int)) = true := by simp; omega
          obtain ⟨ur, hur⟩ : ∃ x, x = u7 := ⟨_, rfl⟩
          subst hur
          go_wp2
          go_loopg [5, 9] (np + 1) (fun g b i wr => ∃ (j : Nat) (bd : Bool), j + g = np + 1 ∧ j ≤ np ∧ i = .int .i64 j ∧ b = .bool bd ∧ Hid (bd = (bad || !(zps.take j).all mayB)) ∧ Hid (Out w.heap.size wr zs k many ur) ∧ Below w.heap.size w wr)
          case atStart => exact ⟨0, bad, by omega, Nat.zero_le _, rfl, rfl, (by show _ = _; simp), hout, hbw⟩
          case round =>
            obtain ⟨j, bd, hjg, hj, rfl, rfl, hbd, hout, hbw⟩ := hrel
            have hszr := hbw.size
            have c1 := (HC.out _ hbw).1
            have c2 := (HC.out _ hbw).2
            rcases Nat.lt_or_ge j np with hjl | hjl
            · obtain ⟨x, hx⟩ : ∃ x, zps[j]? = some x := ⟨_, List.getElem?_eq_getElem (by have := HNP.out; omega)⟩
              have d1 := (HAT.out _ hbw j x hx).1
              have d2 := (HAT.out _ hbw j x hx).2
              have hxs := HSL.out.at hx
              have hst : (zps.take (j + 1)).all mayB = ((zps.take j).all mayB && mayB x) := by rw [List.take_add_one, hx]; simp
              have hM := May_in x (by omega) wr
              have HST := Lib.hid hst
              clear hx hst
              generalize mayB x = M at *
              obtain ⟨n, kk⟩ := x
              simp only at d1 d2 hxs hM
              have HMM := Lib.hid hM
              clear hM
              have hN2 : decide ((j : Int) < (np : Int)) = true := by simp; omega
              cases bd with
              | true =>
                have hb2 : Hid (true = (bad || !(zps.take (j + 1)).all mayB)) := by
                  show _ = _
                  rw [HST.out]
                  exact bad_t hbd.out
                go_wp2
                go_roundg (np - j)
                case measure => omega
                case rel => exact ⟨j + 1, true, by omega, hjl, by go_num, rfl, hb2, hout, hbw⟩
              | false =>
                have hb2 : Hid ((!M) = (bad || !(zps.take (j + 1)).all mayB)) := by
                  show _ = _
                  rw [HST.out]
                  exact bad_f hbd.out
                go_wp2_with (go_at_call 46; refine HMM.out.mono ?_; rintro e w2 ⟨rfl, hb2w⟩)
                have hbx := hbw.trans (hb2w.mono hszr)
                go_roundg (np - j)
                case measure => omega
                case rel => exact ⟨j + 1, !M, by omega, hjl, by go_num, rfl, hb2, hout.out.below hb2w, hbx⟩
            · obtain rfl : j = np := by omega
              have hN2 : decide ((j : Int) < (j : Int)) = false := by simp
              have hb3 : Hid (bd = (zs.take (k + 1)).any (fun z => !z.ps.all mayB)) := by
                show _ = _
                rw [← hbad2.out, hbd.out, List.take_of_length_le (by have := HNP.out; omega)]
              have hmi := HMID.out wr ur hout.out
              have HMI := Lib.hid hmi
              clear hmi hbd
              go_wp2
              go_loopg [4, 7, 10] 66 (fun g m x i wr => ∃ (n many' : Nat), 66 - many' ≤ g ∧ i = .int .i64 n ∧ m = .int .i64 many' ∧ n ≤ t ∧ many' ≤ 5864062014754 ∧ Hid (Mid w.heap.size wr (flatZ (zs.take k)) zps n many' x) ∧ Below w.heap.size w wr)
              case atStart => exact ⟨0, many, by omega, rfl, rfl, Nat.zero_le _, hmb, HMI, hbw⟩
              case round =>
                obtain ⟨n, many', hg, rfl, rfl, hnt, hmb', hmi, hbw⟩ := hrel
                have hszr := hbw.size
                have c1 := (HC.out _ hbw).1
                have c2 := (HC.out _ hbw).2
                by_cases hgo : n < t ∧ many' ≤ 64
                · obtain ⟨hnt', h64⟩ := hgo
                  have e1 : decide ((n : Int) < (t : Int)) = true := by simp; omega
                  have e1' : decide (n < t) = true := decide_eq_true hnt'
                  have e2 : decide ((many' : Int) ≤ 64) = true := by simp; omega
                  obtain ⟨os, hrow, hol, hoe⟩ := hmi.out.row
                  obtain ⟨v6, w6, hrun, hrow6, hgr⟩ := app_all refPlaceTy infoRef w.heap.size wr.heap.size wr u7 (.slice (some ⟨bz, oz, none⟩) zps.length zc) os zps hrow (HPL.out.below hbw hszr) (by have := HNP.out; omega) hszr
                  have hm6 := hmi.out.step h64 (hoe h64) hrow6
                  have hb6 : Below w.heap.size w w6 := hbw.trans ((Below.refl _ wr).grown hgr hszr (fun q hq => (World.ownsRow.lt hrow q hq).1))
                  rw [← HNP.out] at hrun hm6
                  have HM6 := Lib.hid hm6
                  clear hm6 hrow hoe hol hrow6 hgr
                  go_wp2_with (at_builtin; refine wpList_append_run rfl _ _ 32 rfl _ _ _ _ rfl rfl hrun ?_)
                  go_roundg (gk - 1)
                  case measure => omega
                  case rel => exact ⟨n + 1, many' + j, by omega, by go_num, by go_num, hnt', by omega, HM6, hb6⟩
                · have hx : many' ≤ 64 → n = t := fun h => by omega
                  have ho := HEND.out wr u7 n many' hmi.out hnt hx
                  have HO := Lib.hid ho
                  clear ho hx
                  by_cases hnt' : n < t
                  · have e1 : decide ((n : Int) < (t : Int)) = true := by simp; omega
                    have e1' : decide (n < t) = true := decide_eq_true hnt'
                    have e2 : decide ((many' : Int) ≤ 64) = false := by simp; omega
                    go_wp2
                    go_roundg (zs.length - k)
                    case measure => omega
                    case rel => exact ⟨k + 1, many', bd, by omega, hlt, by go_num, rfl, rfl, hmb', hb3, HO, hbw⟩
                  · have e1 : decide ((n : Int) < (t : Int)) = false := by simp; omega
                    have e1' : decide (n < t) = false := decide_eq_false hnt'
                    go_wp2
                    go_roundg (zs.length - k)
                    case measure => omega
                    case rel => exact ⟨k + 1, many', bd, by omega, hlt, by go_num, rfl, rfl, hmb', hb3, HO, hbw⟩
        · obtain rfl : k = zs.length := by omega
          have hN : decide ((zs.length : Int) < (zs.length : Int)) = false := by simp
          have hfew := hout.out.few
          have hlots := hout.out.lots
          obtain ⟨os, hrow, hol, hoe⟩ := hout.out.row
          have hbd := hbad.out
          rw [List.take_length] at hfew hlots hoe hbd
          have HROW := Lib.hid hrow
          have HOE := Lib.hid hoe
          by_cases hm : many ≤ 64
          · have e1 : decide ((64 : Int) < (many : Int)) = false := by simp; omega
            have hf := hfew hm
            have ht : decide (64 < (flatZ zs).length) = false := decide_eq_false (by omega)
            cases bad with
            | true =>
              obtain ⟨z, hz, hz2⟩ := List.any_eq_true.1 hbd.symm
              have hfin : UC = 30 := HUI2.out ht z hz (by simpa using hz2)
              have hfr : UR = [] := by rw [HUR.out, if_neg (by omega)]
              have HF := Lib.hid hfin
              have HFR := Lib.hid hfr
              clear hfin hfr hf ht hfew hlots hbd hol hoe hrow
              go_wp2
              go_ret2
              rw [HF.out, HFR.out]
              exact ⟨_, rfl, PRow.nil _ _ _, hbw⟩
            | false =>
              have hfin : UC = 0 := HUO2.out ht (fun z hz => by
                have := List.any_eq_false.1 hbd.symm z hz
                simpa using this)
              have hfr : UR = os := by rw [HUR.out, if_pos hfin, hoe hm]
              have HF := Lib.hid hfin
              have HFR := Lib.hid hfr
              clear hfin hfr hf ht hfew hlots hbd hol hoe hrow
              go_wp2
              go_ret2
              rw [HF.out, HFR.out]
              exact ⟨_, rfl, HROW.out, hbw⟩
          · have e1 : decide ((64 : Int) < (many : Int)) = true := by simp; omega
            have hf := hlots (by omega)
            have hfin : UC = 31 := HUT2.out (decide_eq_true hf)
            have hfr : UR = [] := by rw [HUR.out, if_neg (by omega)]
            have HF := Lib.hid hfin
            have HFR := Lib.hid hfr
            clear hfin hfr hf hfew hlots hbd hol hoe hrow
            go_wp2
            go_ret2
            rw [HF.out, HFR.out]
            exact ⟨_, rfl, PRow.nil _ _ _, hbw⟩
end Go.Proofs.YtjdjdcdpflnplaaDoor.T
