/-
  erratalaw03.PlaceMeets.
-/
import Derived.Test.YtbldeiejlebbiaaDoorPlaceMeetsI
set_option linter.unusedVariables false
namespace Go.Proofs.YtbldeiejlebbiaaDoor.T
open Go Go.Lib Go.RowKit Go.Shelf

set_option maxRecDepth 1000000 in
set_option maxHeartbeats 16000000 in
theorem placeMeets_in (ls : List (Value × List Pl)) (hn : ls.length ≤ 5864062014700) (hs : ∀ q ∈ ls, Slim q.2) (hp : ∀ q ∈ ls, q.2.length ≤ 5864062014690) (u0 : Value) (w : World) (h0 : RowsSl w.heap.size w u0 ls) (hE : Env w) :
    Calls Tryd.prog 8 #[u0] w fun e w' => e = .returned (.bool true) ∧ Below w.heap.size w w' := by
  have h6 := hE.sz
  have HE := Lib.hid (fun W (hb : Below w.heap.size w W) => hE.below hb h6)
  obtain ⟨⟨a0, c0, rfl, hcells⟩, hpl⟩ := h0
  have HC := Lib.hid hcells
  have HPL := Lib.hid hpl
  have HS := Lib.hid hs
  have HP := Lib.hid hp
  clear hE hcells hpl hs hp
  go_enter Tryd.func8, Tryd.ntmps8
  go_wp2_with fail
  refine (New_in w).mono ?_
  rintro e w1 ⟨T, tv, m, rfl, hT1, hb1⟩
  have HT1 := Lib.hid hT1
  have HB1 := Lib.hid hb1
  clear hT1 hb1
  go_wp2_with fail
  go_loopw [4, 5, 6] (fun a b i wr => ∃ (rs : List Rec) (ns : List Nd) (v' : Value), i = .int .i64 (rs.length : Int) ∧ rs.length ≤ 20 ∧ rs.length ≤ ls.length ∧ ns.length ≤ 128 * rs.length ∧ AtM w.heap.size T m w wr a b v' rs ns)
    (fun _ _ i _ => 20 - (RowKit.intOf i).toNat)
  case atStart => exact ⟨[], [], tv, rfl, by simp, by simp, by simp, ⟨Recs.nil _ _, (fun r h => by cases h), Wf.nil, HT1.out, HB1.out⟩⟩
  case round =>
    obtain ⟨rs, ns, v', rfl, hr20, hrl, hnl, hat⟩ := hrel
    have HA := Lib.hid hat
    obtain ⟨⟨pa, ca, rfl⟩, ⟨pb, cb, rfl⟩⟩ := hat.recs.sl
    clear hat HB1 HT1
    by_cases hgo : rs.length < ls.length ∧ rs.length < 20
    · obtain ⟨hlt, hlt20⟩ := hgo
      have hN1 : decide ((rs.length : Int) < (ls.length : Int)) = true := decide_eq_true (by omega)
      have hN2 : decide ((rs.length : Int) < 20) = true := decide_eq_true (by omega)
      have hq : ls[rs.length]? = some ls[rs.length] := List.getElem?_eq_getElem hlt
      have hmem := List.getElem_mem hlt
      obtain ⟨bk, o, rfl, hbk, hcc⟩ := HC.out (by intro e; subst e; simp at hlt)
      have c1 := (HA.out.low.cell (p := ⟨bk, o + rs.length, none⟩) hbk).trans (hcc _ _ hq)
      have cF := fit_in ls[rs.length].2 (by have := HP.out _ hmem; omega) (HS.out _ hmem) ls[rs.length].1 wr ((HPL.out _ hmem).below HA.out.low HA.out.low.size)
      generalize ls[rs.length] = q at *
      have CF := Lib.hid cF
      clear cF hcc hq hmem
      generalize hk : rs.length = k at HA hr20 hrl hnl hlt hlt20 hN1 hN2 c1 ⊢
      have HKK := Lib.hid hk
      generalize hl : ls.length = z at *
      clear hk hl
      go_wp2_with fail
      refine CF.out.mono ?_
      rintro e w2 ⟨lv, l, rfl, hck, hrow2, hb2⟩
      obtain ⟨la, lc, rfl⟩ := hrow2.isSl
      have HCK := Lib.hid hck
      have hl64 := (check_all hck).2
      have HM := Lib.hid (List.all_eq_true.1 (check_all hck).1)
      have HA2 := Lib.hid (HA.out.below hb2)
      have HR2 := Lib.hid (hrow2.base HA.out.tree.base)
      obtain ⟨v3, w3, hrun3, hrow3, hb3⟩ := copy_run HR2.out hl64
      have HA3 := Lib.hid (HA2.out.below hb3)
      have HR3 := Lib.hid (HR2.out.below hb3)
      have HN3 := Lib.hid hrow3
      clear hck hrow2 hb2 CF HA HR2 hrow3 hb3
      have cA := Add_in l _ v3 w3 HA3.out.tree HA3.out.wf HN3.out HM.out hl64 (by omega)
      have CA := Lib.hid cA
      clear cA
      go_wp2_with (at_builtin; refine wpList_append_run rfl _ _ 23 rfl _ _ _ _ rfl rfl hrun3 ?_)
      refine CA.out.mono ?_
      rintro e w4 ⟨ns4, n4, tv4, q4, rfl, hw4, hp4, hl4, hq4, hpa4, ht4, hk4, hb4⟩
      have HA4 := Lib.hid (HA3.out.add hw4 hp4 ht4 hk4 hb4)
      have HR4 := Lib.hid (HR3.out.keepT HA3.out.tree hk4)
      have HQ4 := Lib.hid hq4
      have HPA4 := Lib.hid hpa4
      clear hw4 hp4 hq4 hpa4 ht4 hk4 hb4 CA HN3 HA2 hrun3
      obtain ⟨v5, w5, hrun5, hrow5, hb5⟩ := copy_run HR4.out hl64
      have HA5 := Lib.hid (HA4.out.below hb5)
      have HR5 := Lib.hid (HR4.out.below hb5)
      have HN5 := Lib.hid hrow5
      clear hrow5 hb5 HA3 HR3
      have cA := Add_in l _ v5 w5 HA5.out.tree HA5.out.wf HN5.out HM.out hl64 (by omega)
      have CA := Lib.hid cA
      clear cA
      go_wp2_with (at_builtin; refine wpList_append_run rfl _ _ 23 rfl _ _ _ _ rfl rfl hrun5 ?_)
      refine CA.out.mono ?_
      rintro e w6 ⟨ns6, n6, tv6, q6, rfl, hw6, hp6, hl6, hq6, hpa6, ht6, hk6, hb6⟩
      have hsame := same_node HA5.out.wf hw6 hp6 HQ4.out HPA4.out hq6 hpa6
      subst hsame
      have HA6 := Lib.hid (HA5.out.add hw6 hp6 ht6 hk6 hb6)
      have HR6 := Lib.hid (HR5.out.keepT HA5.out.tree hk6)
      have HQ6 := Lib.hid hq6
      have HPA6 := Lib.hid hpa6
      clear hw6 hp6 hq6 hpa6 ht6 hk6 hb6 CA HN5 HA4 HR4 HQ4 HPA4 hrun5 HA5 HR5
      have cD := Depth_in (n4 : Int) w6 HA6.out.tree
      rw [depth_node HA6.out.wf HQ6.out HPA6.out] at cD
      have hNe : ((n4 : Int) != (n4 : Int)) = false := by simp
      have hNl : ((l.length : Int) != (l.length : Int)) = false := by simp
      obtain ⟨a7, w7, hrun7, hrow7, hg7⟩ := push_sl w.heap.size w6 (.slice pa k ca) rs.length _ HA6.out.recs.rowA (.slice la l.length lc) rfl (by have := HKK.out; omega) HA6.out.tree.base
      have hrb := HA6.out.recs.rowB.kept hg7 (apart_ty (by decide) HA6.out.recs.rowB HA6.out.recs.rowA)
      have hz7 : w.heap.size ≤ w7.heap.size := Nat.le_trans HA6.out.tree.base hg7.size
      obtain ⟨b8, w8, hrun8, hrow8, hg8⟩ := push_num w.heap.size w7 (.slice pb k cb) rs.length _ hrb (n4 : Int) (by have := HKK.out; omega) hz7
      have HA8 := Lib.hid (HA6.out.push ⟨.slice la l.length lc, l, n4⟩ HR6.out HCK.out HQ6.out HPA6.out hrow7 hg7 hrow8 hg8)
      clear hrow7 hg7 hrow8 hg8 hrb hz7 HA6 HR6 HQ6 HPA6
      go_wp2_with (first | (go_at_call 35; refine cD.mono ?_; rintro e w' ⟨rfl, rfl⟩) | (at_builtin; refine wpList_append_run rfl _ _ 79 rfl _ _ _ _ rfl rfl hrun7 ?_) | (at_builtin; refine wpList_append_run rfl _ _ 80 rfl _ _ _ _ rfl rfl hrun8 ?_))
      go_roundw
      case rel => exact ⟨rs ++ [⟨.slice la l.length lc, l, n4⟩], ns6, tv6, by rw [List.length_append, HKK.out]; go_num, by rw [List.length_append, HKK.out]; simp; omega, by rw [List.length_append, HKK.out]; simp; omega, by rw [List.length_append, HKK.out]; simp; omega, HA8.out⟩
      case measure => simp [RowKit.intOf]; omega
    · have hnl' : ns.length ≤ 4095 := by omega
      have cT := Told_in wr HA.out.tree HA.out.wf
      have hNe : (((ns.length : Int) + 1) != ((ns.length : Int) + 1)) = false := by simp
      have CT := Lib.hid cT
      clear cT HC HPL HS HP
      have hways : ¬ rs.length < ls.length ∨ (rs.length < ls.length ∧ ¬ rs.length < 20) := by omega
      generalize hk : rs.length = k at HA hr20 hrl hnl hgo hways ⊢
      have HKK := Lib.hid hk
      generalize hl : ls.length = z at *
      clear hgo hk hl
      have hall : (¬ k < z ∧ decide ((k : Int) < (z : Int)) = false) ∨ (k < z ∧ ¬ k < 20 ∧ decide ((k : Int) < (z : Int)) = true ∧ decide ((k : Int) < 20) = false) := by
        rcases hways with h | ⟨h, h'⟩
        · exact .inl ⟨h, decide_eq_false (by omega)⟩
        · exact .inr ⟨h, h', decide_eq_true (by omega), decide_eq_false (by omega)⟩
      clear hways
      rcases hall with ⟨hM1, hN1⟩ | ⟨hM1, hM2, hN1, hN2⟩
      all_goals
        go_wp2_with fail
        refine CT.out.mono ?_
        rintro e w2 ⟨rfl, hb2⟩
        have HA2 := Lib.hid (HA.out.below hb2)
        have cF := From_in HA2.out.wf hnl' w2
        have CF := Lib.hid cF
        clear cF hb2 HA CT
        go_wp2_with fail
        refine CF.out.mono ?_
        rintro e w3 ⟨T2, tv2, m2, rfl, ht3, hb3⟩
        have HA3 := Lib.hid (HA2.out.below hb3)
        have HT3 := Lib.hid ht3
        have cL := Len_in w3 HA3.out.tree
        have cL2 := Len_in w3 HT3.out
        clear ht3 hb3 HA2 CF
        go_wp2_with fail
        refine cL2.mono ?_
        rintro e w' ⟨rfl, rfl⟩
        clear cL2
        go_wp2_with fail
        refine cL.mono ?_
        rintro e w' ⟨rfl, rfl⟩
        clear cL
        go_wp2_with fail
        go_loopw [14] (fun i wq => ∃ j : Nat, i = .int .i64 (j : Int) ∧ j ≤ k ∧ Below w3.heap.size w3 wq) (fun i _ => k - (RowKit.intOf i).toNat)
        case atStart => exact ⟨0, rfl, Nat.zero_le _, Below.refl _ _⟩
        case round =>
          obtain ⟨j, rfl, hj, hbq⟩ := hrel
          have HAq := Lib.hid (HA3.out.below hbq)
          have HTq := Lib.hid (HT3.out.below hbq)
          have HBQ := Lib.hid hbq
          clear hbq
          by_cases hjk : j < k
          · have hNj : decide ((j : Int) < (k : Int)) = true := decide_eq_true (by omega)
            have hx : rs[j]? = some (rs[j]'(by have := HKK.out; omega)) := List.getElem?_eq_getElem _
            generalize (rs[j]'(by have := HKK.out; omega)) = r at *
            obtain ⟨hck, ⟨q0, hq0⟩, hpa⟩ := HAq.out.told r (List.mem_of_getElem? hx)
            obtain ⟨g, g', c, c', hga, hgb, hg1, hg2, ca1, cb1⟩ := HAq.out.recs.at hx
            have hrw := HAq.out.recs.each r (List.mem_of_getElem? hx)
            rw [HKK.out] at hga hgb
            simp only [Value.slice.injEq] at hga hgb
            obtain ⟨rfl, _, rfl⟩ := hga
            obtain ⟨rfl, _, rfl⟩ := hgb
            have cS1 := Stack_in r.n q0 wr HAq.out.tree HAq.out.wf hq0
            rw [hpa] at cS1
            have CS1 := Lib.hid cS1
            have HX := Lib.hid hx
            have HQ0 := Lib.hid hq0
            have HPA := Lib.hid hpa
            have HRW := Lib.hid hrw
            clear cS1 hx hq0 hpa hck hrw
            go_wp2_with fail
            refine CS1.out.mono ?_
            rintro e w4 ⟨xv, rfl, hx4, hb4⟩
            obtain ⟨xa, xc, rfl⟩ := hx4.isSl
            have HX4 := Lib.hid hx4
            have HA4 := Lib.hid (HAq.out.below hb4)
            have HT4 := Lib.hid (HTq.out.below hb4)
            have HB4 := Lib.hid (HBQ.out.trans (hb4.mono HBQ.out.size))
            have HR4 := Lib.hid (HRW.out.below hb4)
            have cb4 := (hb4.cell (p := ⟨g', j, none⟩) hg2).trans cb1
            have cS2 := Stack_in r.n q0 w4 HT4.out HA4.out.wf HQ0.out
            rw [HPA.out] at cS2
            have CS2 := Lib.hid cS2
            clear cS2 hx4 CS1 HAq HTq HBQ HRW
            go_wp2_with fail
            refine CS2.out.mono ?_
            rintro e w5 ⟨yv, rfl, hy5, hb5⟩
            obtain ⟨ya, yc, rfl⟩ := hy5.isSl
            have HY5 := Lib.hid hy5
            have HX5 := Lib.hid (HX4.out.below hb5)
            have HA5 := Lib.hid (HA4.out.below hb5)
            have HT5 := Lib.hid (HT4.out.below hb5)
            have HB5 := Lib.hid (HB4.out.trans (hb5.mono HB4.out.size))
            have HR5 := Lib.hid (HR4.out.below hb5)
            have ca5 := (hb5.cell (p := ⟨g, j, none⟩) (Nat.lt_of_lt_of_le hg1 hb4.size)).trans ((hb4.cell (p := ⟨g, j, none⟩) hg1).trans ca1)
            have cb5 := (hb5.cell (p := ⟨g', j, none⟩) (Nat.lt_of_lt_of_le hg2 hb4.size)).trans cb4
            clear hy5 CS2 HX4 HA4 HT4 HB4 HR4 ca1 cb1 cb4 hb4 hb5
            go_wp2_with fail
            refine (alikeYes r.l w5.heap.size _ _ w5 HX5.out.sl HR5.out.sl).mono ?_
            rintro e w6 ⟨rfl, hd6⟩
            have hb6 := hd6.below w5.heap.size
            have HY6 := Lib.hid (HY5.out.below hb6)
            have HR6 := Lib.hid (HR5.out.below hb6)
            have HB6 := Lib.hid (HB5.out.trans (hb6.mono HB5.out.size))
            have ca6 := (hd6.cell _).trans ca5
            clear hd6 hb6 HY5 HX5 HA5 HT5 HB5 HR5 ca5 cb5
            go_wp2_with fail
            refine (alikeYes r.l w6.heap.size _ _ w6 HY6.out.sl HR6.out.sl).mono ?_
            rintro e w7 ⟨rfl, hd7⟩
            have HB7 := Lib.hid (HB6.out.trans ((hd7.below w6.heap.size).mono HB6.out.size))
            clear hd7 HY6 HR6 HB6 ca6 hg1 hg2
            go_wp2_with fail
            go_loopw [19] (fun i wq => ∃ n : Nat, i = .int .i64 (n : Int) ∧ n ≤ j + 1 ∧ Below w3.heap.size w3 wq) (fun i _ => j + 1 - (RowKit.intOf i).toNat)
            case atStart => exact ⟨0, rfl, Nat.zero_le _, HB7.out⟩
            case round =>
              obtain ⟨n, rfl, hn1, hbq⟩ := hrel
              have HAq := Lib.hid (HA3.out.below hbq)
              have HBQ := Lib.hid hbq
              clear hbq HB7
              by_cases hnj : n ≤ j
              · have hNn : decide ((n : Int) ≤ (j : Int)) = true := decide_eq_true (by omega)
                have hy : rs[n]? = some (rs[n]'(by have := HKK.out; omega)) := List.getElem?_eq_getElem _
                generalize (rs[n]'(by have := HKK.out; omega)) = s at *
                obtain ⟨_, ⟨q1, hq1⟩, hpb⟩ := HAq.out.told s (List.mem_of_getElem? hy)
                obtain ⟨e1, e2, e3⟩ := meet_told HAq.out.wf HAq.out.told HX.out hy
                have hle : r.n ≤ ns.length := by have := (List.getElem?_eq_some_iff.1 HQ0.out).1; simp at this; omega
                have hle2 : s.n ≤ ns.length := by have := (List.getElem?_eq_some_iff.1 hq1).1; simp at this; omega
                have cM := meetQ r.n s.n wr HAq.out.tree HAq.out.wf hle hle2
                obtain ⟨ca1, cb1⟩ := HAq.out.recs.cells HX.out
                obtain ⟨ca2, cb2⟩ := HAq.out.recs.cells hy
                have HRW := Lib.hid (HAq.out.recs.each r (List.mem_of_getElem? HX.out))
                have HSW := Lib.hid (HAq.out.recs.each s (List.mem_of_getElem? hy))
                have hcl := comM_le r.l s.l
                generalize hM : meetN ns r.n s.n = M at *
                generalize hC : com r.l s.l = C at *
                have CM := Lib.hid cM
                have HY := Lib.hid hy
                have E1 := Lib.hid e1
                have E2 := Lib.hid e2
                have E3 := Lib.hid e3
                have HCL := Lib.hid hcl
                have HCC := Lib.hid hC
                clear cM e1 e2 e3 hcl hC hM hy hpb hq1 hle hle2
                go_wp2_with fail
                go_quiet (first | (go_at_call 37; refine Calls.quiet_of (CM.out _ ?_); exact ⟨_, rfl⟩))
                go_wp2_with fail
                have hb8 : Below wr.heap.size wr (wr.drewN nq) := Dr.below ⟨nq, rfl⟩ _
                have hz8 : (wr.drewN nq).heap.size = wr.heap.size := rfl
                have cc : ∀ p, (wr.drewN nq).cell? p = wr.cell? p := fun p => rfl
                have HA8 := Lib.hid (HAq.out.below hb8)
                have HB8 := Lib.hid (HBQ.out.trans (hb8.mono HBQ.out.size))
                clear HAq HBQ hb8 CM ca1 ca2 cb1 cb2 cc hz8 HRW HSW
                generalize wr.drewN nq = w8 at *
                obtain ⟨qM, hqM⟩ := E1.out
                have cS := Stack_in M qM w8 HA8.out.tree HA8.out.wf hqM
                rw [E2.out] at cS
                refine cS.mono ?_
                rintro e w9 ⟨zv, rfl, hz9, hb9⟩
                obtain ⟨za, zc, hzv⟩ := hz9.isSl
                rw [List.length_take, Nat.min_eq_left HCL.out] at hzv
                subst hzv
                have HZ9 := Lib.hid hz9
                have HA9 := Lib.hid (HA8.out.below hb9)
                have HB9 := Lib.hid (HB8.out.trans (hb9.mono HB8.out.size))
                clear cS hz9 hb9 HA8 HB8 hqM E1 E2
                obtain ⟨ca1, cb1⟩ := HA9.out.recs.cells HX.out
                obtain ⟨ca2, cb2⟩ := HA9.out.recs.cells HY.out
                have hRW := (HA9.out.recs.each r (List.mem_of_getElem? HX.out)).sl
                have hSW := (HA9.out.recs.each s (List.mem_of_getElem? HY.out)).sl
                have cC := fun W (hd : Dr w9 W) => comOwn_in r.l s.l W.heap.size r.v s.v W (hRW.below (hd.below _) (hd.below w9.heap.size).size) (hSW.below (hd.below _) (hd.below w9.heap.size).size)
                rw [HCC.out] at cC
                have CC := Lib.hid cC
                have HRW := Lib.hid hRW
                have HSW := Lib.hid hSW
                clear cC hRW hSW HCC
                go_wp2_with fail
                go_quiet (first | (go_at_call 38; refine Calls.quiet_of (CC.out _ ?_); exact ⟨_, rfl⟩))
                go_wp2_with fail
                have hd10 : Dr w9 (w9.drewN nq) := ⟨nq, rfl⟩
                have hb10 := hd10.below w9.heap.size
                have HZ10 := Lib.hid (HZ9.out.below hb10).sl
                have HRW10 := Lib.hid (HRW.out.below hb10 hb10.size)
                have HSW10 := Lib.hid (HSW.out.below hb10 hb10.size)
                have HB10 := Lib.hid (HB9.out.trans (hb10.mono HB9.out.size))
                have da1 := (hd10.cell _).trans ca1
                have da2 := (hd10.cell _).trans ca2
                have db1 := (hd10.cell _).trans cb1
                have db2 := (hd10.cell _).trans cb2
                clear hd10 hb10 ca1 ca2 cb1 cb2 HZ9 HRW HSW HA9 HB9 CC
                generalize w9.drewN nq = w10 at *
                obtain ⟨sv, hsl, hsv⟩ := slice_pl _ w10 r.v r.l HRW10.out C HCL.out
                have cA1 := fun W (hd : Dr w10 W) => alikeYes (r.l.take C) W.heap.size _ sv W (HZ10.out.below (hd.below _) (hd.below w10.heap.size).size) (hsv.below (hd.below _) (hd.below w10.heap.size).size)
                obtain ⟨bq, hbq, cA2⟩ := alikeNum E3.out w10.heap.size r.v s.v w10 HRW10.out HSW10.out
                have dA1 : ∀ W : World, (∃ n, W = w10.drewN n) → Calls Tryd.prog 32 #[.slice za C zc, sv] W fun e w' => e = .returned (.bool true) ∧ ∃ m, w' = W.drewN m := cA1
                have dA2 : ∀ W : World, (∃ n, W = w10.drewN n) → Calls Tryd.prog 32 #[r.v, s.v] W fun e w' => e = .returned (.bool bq) ∧ ∃ m, w' = W.drewN m := cA2
                have CA1 := Lib.hid dA1
                have CA2 := Lib.hid dA2
                clear cA1 cA2 dA1 dA2 hsv HZ10 HRW10 HSW10 E3 HCL
                go_quiet (first | (go_at_call 32; with_reducible refine Calls.quiet_of (CA1.out _ ?_); exact ⟨_, rfl⟩) | (go_at_call 32; with_reducible refine Calls.quiet_of (CA2.out _ ?_); exact ⟨_, rfl⟩))
                have HBz := Go.below_drewN HB10.out
                go_wp2
                go_roundw
                case rel => exact ⟨n + 1, by go_num, by omega, HBz _⟩
                case measure => simp [RowKit.intOf]; omega
              · obtain rfl : n = j + 1 := by omega
                have hNn : decide (((j + 1 : Nat) : Int) ≤ (j : Int)) = false := decide_eq_false (by omega)
                have hNm : decide ((j : Int) + 1 ≤ (j : Int)) = false := decide_eq_false (by omega)
                clear HX HQ0 HPA HA3 HT3
                go_wp2
                go_roundw
                case rel => exact ⟨j + 1, by go_num, by omega, HBQ.out⟩
                case measure => simp [RowKit.intOf]; omega
          · have hNj : decide ((j : Int) < (k : Int)) = false := decide_eq_false (by omega)
            have cAl := alive_in wr (HE.out wr HAq.out.low)
            have HLOW := Lib.hid HAq.out.low
            clear HAq HTq HBQ HA3 HT3
            go_wp2_with fail
            refine cAl.mono ?_
            rintro e w4 ⟨rfl, hb4⟩
            go_wp2
            go_ret
            exact ⟨rfl, HLOW.out.trans (hb4.mono HLOW.out.size)⟩
end Go.Proofs.YtbldeiejlebbiaaDoor.T
