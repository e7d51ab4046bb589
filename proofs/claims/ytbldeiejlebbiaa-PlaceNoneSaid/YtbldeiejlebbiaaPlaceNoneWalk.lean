/-
  erratalaw03.PlaceNone, walked.
-/
import Derived.Deep.LoopGhost
import Derived.Test.YtbldeiejlebbiaaPlaceNoneP
set_option linter.unusedVariables false
namespace Go.Proofs.Ytbldeiejlebbiaa.T
open Go Go.Lib Go.RowKit

theorem more {B : Nat} {w W W' : World} (hb : Below B w W) (hB : B ≤ W.heap.size) (h : Below W.heap.size W W') : Below B w W' := hb.trans (h.mono hB)
set_option maxRecDepth 1000000 in
set_option maxHeartbeats 16000000 in
theorem placeNone_in (w : World) : Calls Try.prog 3 #[] w fun e w' => e = .returned (.bool true) ∧ Below w.heap.size w w' := by
  have hbA : Below w.heap.size w (w.alloc (.cells #[.string ⟨#[102]⟩, .int .i64 1] 24)) := (Below.refl _ _).alloc (Nat.le_refl _) _
  have p0 : (w.alloc (.cells #[.string ⟨#[102]⟩, .int .i64 1] 24)).cell? ⟨w.heap.size, 0, none⟩ = some (.string ⟨#[102]⟩) := by simp
  have p1 : (w.alloc (.cells #[.string ⟨#[102]⟩, .int .i64 1] 24)).cell? ⟨w.heap.size, 1, none⟩ = some (.int .i64 1) := by simp
  have hlt : w.heap.size < (w.alloc (.cells #[.string ⟨#[102]⟩, .int .i64 1] 24)).heap.size := by simp
  have C1 := Lib.hid (push_nil fOne); have C2 := Lib.hid add_nil; have C3 := Lib.hid stack_nil; have C4 := Lib.hid meet_nil; have C5 := Lib.hid parent_nil; have C6 := Lib.hid len_nil; have C7 := Lib.hid depth_nil; have C8 := Lib.hid told_nil
  have HBA := Lib.hid hbA
  clear hbA
  go_enter Try.func3, Try.ntmps3
  go_wp2_with fail
  generalize w.alloc (.cells #[.string ⟨#[102]⟩, .int .i64 1] 24) = wA at *
  refine (C1.out _).mono ?_
  rintro e w1 ⟨rfl, h1⟩
  have H1 := Lib.hid h1
  clear h1
  go_wp2_with fail
  refine (C2.out _ _).mono ?_
  rintro e w2 ⟨rfl, h2⟩
  have H2 := Lib.hid (more H1.out H1.out.size h2)
  clear h2 H1
  go_wp2_with fail
  refine (C3.out _).mono ?_
  rintro e w3 ⟨rfl, h3⟩
  have H3 := Lib.hid (more H2.out H2.out.size h3)
  clear h3 H2
  go_wp2_with fail
  refine (C4.out _).mono ?_
  rintro e w4 ⟨rfl, h4⟩
  have H4 := Lib.hid (more H3.out H3.out.size h4)
  clear h4 H3
  go_wp2_with fail
  refine (C5.out _).mono ?_
  rintro e w5 ⟨rfl, rfl⟩
  go_wp2_with fail
  refine (C6.out _).mono ?_
  rintro e w6 ⟨rfl, rfl⟩
  go_wp2_with fail
  refine (C7.out _).mono ?_
  rintro e w7 ⟨rfl, rfl⟩
  go_wp2_with fail
  refine (C8.out _).mono ?_
  rintro e w8 ⟨rfl, h8⟩
  have H8 := Lib.hid (more H4.out H4.out.size h8)
  clear h8 H4 C1 C2 C3 C4 C5 C6 C7 C8
  go_wp2_with fail
  go_loopw [13, 14] (fun v i wr => ∃ k : Nat, k ≤ 65 ∧ i = .int .i64 (k : Int) ∧ PRow 24 wA.heap.size wr v (l65.take k) ∧ Below wA.heap.size wA wr) (fun _ i _ => 65 - (RowKit.intOf i).toNat)
  case atStart => exact ⟨0, by omega, rfl, PRow.nil _ _ _, H8.out⟩
  case round =>
    obtain ⟨k, hk, rfl, hrow, hb⟩ := hrel
    by_cases hlt65 : k < 65
    · have hN : decide ((k : Int) < 65) = true := decide_eq_true (by omega)
      have ht : l65.take (k + 1) = l65.take k ++ [pF k] := by rw [List.take_add_one, l65_at hlt65]; rfl
      have hlen : (l65.take k).length = k := by rw [List.length_take, l65_len]; omega
      obtain ⟨v', w', hrun, hrow', hg⟩ := app_run0 (sl := 29) (by kernel_rfl) infoOwn wA.heap.size wr _ (l65.take k) hrow (pF k) (by omega) hb.size
      have hb' := hrow.grown hb hg hb.size
      rw [← ht] at hrow'
      have HR := Lib.hid hrow'
      have HB' := Lib.hid hb'
      simp only [pF] at hrun
      clear hrow hrow' hb' hg ht hlen hb H8

      go_wp2_with (at_builtin; refine wpList_append_run rfl _ _ 29 rfl _ _ _ _ rfl rfl hrun ?_)
      go_roundw
      case rel => exact ⟨k + 1, by omega, by go_num, HR.out, HB'.out⟩
      case measure => simp [RowKit.intOf]; omega
    · obtain rfl : k = 65 := by omega
      have hN : decide (((65 : Nat) : Int) < 65) = false := rfl
      rw [show l65.take 65 = l65 from List.take_of_length_le (by rw [l65_len]; omega)] at hrow
      have hrow' : wr.ownsRow wA.heap.size 24 2 u13 (64 + 1) (plCs l65) := hrow
      obtain ⟨lb, lc, hu, hcap⟩ := own_slice hrow'
      have hu' : u13 = .slice (some ⟨lb, 0, none⟩) 65 lc := hu
      clear hu
      subst hu'
      have hrow2 : PRow 24 wA.heap.size wr (.slice (some ⟨lb, 0, none⟩) 65 lc) l65 := hrow'
      have m121 := mk121
      have v121 := cv121 wr
      have hbB : Below wA.heap.size wA (wr.alloc (.cells (Array.replicate 121 (.int .u8 0)) 5)) := hb.alloc hb.size _
      have hrB : PRow 24 wA.heap.size (wr.alloc (.cells (Array.replicate 121 (.int .u8 0)) 5)) (.slice (some ⟨lb, 0, none⟩) 65 lc) l65 := hrow2.below ((Below.refl _ wr).alloc (Nat.le_refl _) _)
      have HBB := Lib.hid hbB
      have HRB := Lib.hid hrB
      clear hrow hrow' hrow2 hb hbB hrB H8 hlt65 hk hN
      go_wp2_with fail
      clear m121 v121
      generalize wr.alloc (.cells (Array.replicate 121 (.int .u8 0)) 5) = wB at *
      go_loopg [16] 121 (fun g s wr => ∃ k : Nat, k + g = 121 ∧ k ≤ 120 ∧ s = .string (tl k) ∧ wr = wB)
      case atStart => exact ⟨0, by omega, by omega, rfl, rfl⟩
      case round =>
        obtain ⟨k, hkg, hk, rfl, rfl⟩ := hrel
        have hsz := tl_size k
        have hta := tl_append k
        by_cases hlt120 : k < 120
        · have hN : decide ((k : Int) < 120) = true := decide_eq_true (by omega)
          have hov : ¬ 9223372036854775807 < k + 1 := by omega
          go_wp2
          go_roundg (120 - k)
          case measure => omega
          case rel => exact ⟨k + 1, by omega, by omega, by first | rfl | rw [hta], rfl⟩
        · obtain rfl : k = 120 := by omega
          have hN : decide (((120 : Nat) : Int) < 120) = false := rfl
          have hsl := slice_front lb 0 65 lc 64 (by omega) (by omega)
          have h64 := row_take HRB.out 64 (by rw [l65_len]; omega)
          have H64 := Lib.hid h64
          have c1 := chk slim65 check65 _ wr HRB.out.sl
          have HTA := Lib.hid hta
          have hov : ¬ 9223372036854775807 < 120 + 1 := by omega
          clear h64 hta
          go_wp2_with fail
          refine c1.mono ?_
          rintro e w11 ⟨rfl, h11⟩
          have HB11 := Lib.hid (more HBB.out HBB.out.size h11)
          have HR11 := Lib.hid (H64.out.below h11)
          have c2 := chk (fun p hp => slim65 p (List.mem_of_mem_take hp)) check64 _ w11 HR11.out.sl
          clear h11 c1 HBB HRB H64
          go_wp2_with fail
          refine c2.mono ?_
          rintro e w12 ⟨rfl, h12⟩
          have HB12 := Lib.hid (more HB11.out HB11.out.size h12)
          have HR12 := Lib.hid (HR11.out.below h12)
          clear h12 c2 HB11 HR11
          have c3 := chk1 (c := 30) (x := ⟨zl, 0⟩) (by show zl.size ≤ 1000; rw [zl_size]; omega) check_zl w12
          go_wp2_with fail
          refine c3.mono ?_
          rintro e w13 ⟨rfl, h13⟩
          have HB13 := Lib.hid (more HB12.out HB12.out.size h13)
          have HR13 := Lib.hid (HR12.out.below h13)
          clear h13 c3 HB12 HR12
          have c14 := chk1 (c := 0) (x := ⟨tl 120, 0⟩) (by show (tl 120).size ≤ 1000; rw [tl_size]; omega) check_tl w13
          go_wp2_with fail
          refine c14.mono ?_
          rintro e w14 ⟨rfl, h14⟩
          have HB14 := Lib.hid (more HB13.out HB13.out.size h14)
          have HR14 := Lib.hid (HR13.out.below h14)
          clear h14 c14 HB13 HR13
          have c15 := chk1 (c := 30) (x := ⟨tl 120 ++ ⟨#[126]⟩, 0⟩) (by show (tl 120 ++ ⟨#[126]⟩).size ≤ 1000; rw [tl_append, tl_size]; omega) (by rw [tl_append]; exact check_tl1) w14
          go_wp2_with fail
          refine c15.mono ?_
          rintro e w15 ⟨rfl, h15⟩
          have HB15 := Lib.hid (more HB14.out HB14.out.size h15)
          have HR15 := Lib.hid (HR14.out.below h15)
          clear h15 c15 HB14 HR14
          have c16 := chk1 (c := 30) (x := ⟨⟨#[102]⟩, 1048577⟩) (by decide) check_far w15
          go_wp2_with fail
          refine c16.mono ?_
          rintro e w16 ⟨rfl, h16⟩
          have HB16 := Lib.hid (more HB15.out HB15.out.size h16)
          have HR16 := Lib.hid (HR15.out.below h16)
          clear h16 c16 HB15 HR15
          have c17 := chk1 (c := 30) (x := ⟨⟨#[102]⟩, -1⟩) (by decide) check_neg w16
          go_wp2_with fail
          refine c17.mono ?_
          rintro e w17 ⟨rfl, h17⟩
          have HB17 := Lib.hid (more HB16.out HB16.out.size h17)
          have HR17 := Lib.hid (HR16.out.below h17)
          clear h17 c17 HB16 HR16
          clear HTA hsz hov
          go_wp2_with fail
          refine (New_in w17).mono ?_
          rintro e w18 ⟨T, tv, m, rfl, ht, h18⟩
          have HB18 := Lib.hid (more HB17.out HB17.out.size h18)
          have HR18 := Lib.hid (HR17.out.below h18)
          have HT18 := Lib.hid ht
          have hBt : wA.heap.size ≤ w17.heap.size := HB17.out.size
          clear ht h18 HB17 HR17
          have cA := Add_in (l65.take 64) wA.heap.size _ w18 HT18.out Wf.nil HR18.out all64 (by rw [List.length_take, l65_len]; omega) (by rw [List.length_take, l65_len]; simp)
          have CA := Lib.hid cA
          clear cA
          go_wp2_with fail
          refine CA.out.mono ?_
          rintro e w19 ⟨ms, n, tv19, q, rfl, hwm, _, hlm, hqm, hpm, ht19, _, hb19⟩
          have hlm' : ms.length ≤ 64 := by rw [List.length_take, l65_len] at hlm; simpa using hlm
          obtain ⟨hch, rfl, hqd⟩ := chain_of hwm hlm' hqm hpm
          have HB19 := Lib.hid (HB18.out.trans (hb19.mono hBt))
          have HT19 := Lib.hid ht19
          have HWM := Lib.hid hwm
          have HCH := Lib.hid hch
          have HQM := Lib.hid hqm
          clear hwm hlm hlm' hqm hpm ht19 hb19 hch CA HT18 HR18 HB18 hsl
          have q0 := (HB19.out.cell (p := ⟨w.heap.size, 0, none⟩) hlt).trans p0
          have q1 := (HB19.out.cell (p := ⟨w.heap.size, 1, none⟩) hlt).trans p1
          have cP := Push_deep 64 q fOne (by decide) w19 HT19.out HQM.out may_f1 hqd
          have CP := Lib.hid cP
          clear cP HQM hqd
          go_wp2_with fail
          refine CP.out.mono ?_
          rintro e w20 ⟨rfl, h20⟩
          have HB20 := Lib.hid (more HB19.out HB19.out.size h20)
          have HT20 := Lib.hid (HT19.out.below h20)
          clear h20 CP HB19 HT19 q0 q1
          have q0 := (HB20.out.cell (p := ⟨w.heap.size, 0, none⟩) hlt).trans p0
          have q1 := (HB20.out.cell (p := ⟨w.heap.size, 1, none⟩) hlt).trans p1
          have cP := Push_arg 65 fOne w20 HT20.out (by rw [HCH.out.1]; rfl)
          have CP := Lib.hid cP
          clear cP
          go_wp2_with fail
          refine CP.out.mono ?_
          rintro e w21 ⟨rfl, h21⟩
          have HB21 := Lib.hid (more HB20.out HB20.out.size h21)
          have HT21 := Lib.hid (HT20.out.below h21)
          clear h21 CP HB20 HT20 q0 q1
          have cL := Len_in w21 HT21.out
          rw [HCH.out.1] at cL
          have CL := Lib.hid cL
          clear cL
          go_wp2_with fail
          refine CL.out.mono ?_
          rintro e w22 ⟨rfl, rfl⟩
          clear CL
          go_wp2_with fail
          go_loopw [24] (fun s wr => ∃ (i : Nat) (v' : Value), i ≤ 4031 ∧ s = .int .i64 (i : Int) ∧ TreeAt w17.heap.size wr T v' m (ms ++ gs i) ∧ Wf (ms ++ gs i) ∧ Below wA.heap.size wA wr) (fun s _ => 4031 - (RowKit.intOf s).toNat)
          case atStart => exact ⟨0, tv19, by omega, rfl, by simpa [gs] using HT21.out, by simpa [gs] using HWM.out, HB21.out⟩
          case round =>
            obtain ⟨i, v', hi, rfl, htr, hwf, hlow⟩ := hrel
            have HTR := Lib.hid htr
            have HWF := Lib.hid hwf
            have HLOW := Lib.hid hlow
            have hlen : (ms ++ gs i).length = 64 + i := by rw [List.length_append, HCH.out.1, gs_len]
            clear htr hwf hlow HT21 HWM HB21
            by_cases hlti : i < 4031
            · have hN : decide ((i : Int) < 4031) = true := decide_eq_true (by omega)
              have cP := Push_more (pG i) wr HTR.out HWF.out (may_g (by omega)) (g_new HCH.out i) (by omega)
              rw [hlen] at cP
              have hnum : ((64 + i : Nat) : Int) + 1 = 65 + (i : Int) := by omega
              rw [hnum] at cP
              have hne : ((65 + (i : Int)) != (65 + (i : Int))) = false := by simp
              have CP := Lib.hid cP
              clear cP hnum hlen
              go_wp2_with fail
              refine CP.out.mono ?_
              rintro e w23 ⟨rfl, ⟨v2, ht2⟩, hw2, hb2⟩
              have HT2 := Lib.hid ht2
              have HW2 := Lib.hid hw2
              have HB2 := Lib.hid (HLOW.out.trans (hb2.mono hBt))
              clear ht2 hw2 hb2 CP HTR HWF HLOW
              go_wp2
              go_roundw
              case rel => exact ⟨i + 1, v2, by omega, by go_num, by rw [gs_succ, ← List.append_assoc]; exact HT2.out, by rw [gs_succ, ← List.append_assoc]; exact HW2.out, HB2.out⟩
              case measure => simp [RowKit.intOf]; omega
            · obtain rfl : i = 4031 := by omega
              have hN : decide (((4031 : Nat) : Int) < 4031) = false := rfl
              have hN2 : decide ((4031 : Int) < 4031) = false := rfl
              have q0 := (HLOW.out.cell (p := ⟨w.heap.size, 0, none⟩) hlt).trans p0
              have q1 := (HLOW.out.cell (p := ⟨w.heap.size, 1, none⟩) hlt).trans p1
              have cP := Push_full 0 zeroNd fOne (by decide) wr HTR.out rfl may_f1 (by decide) (f_new HCH.out 4031) (may_st may_f1 (j := 0) (by omega)) (by omega)
              have CP := Lib.hid cP
              have hkn := g_known HCH.out (i := 4031) (by omega)
              have HKN := Lib.hid hkn
              have HLEN := Lib.hid hlen
              clear cP hkn hlen
              generalize hns : ms ++ gs 4031 = ns at *
              clear hns
              go_wp2_with fail
              refine CP.out.mono ?_
              rintro e w24 ⟨rfl, h24⟩
              have HB24 := Lib.hid (more HLOW.out HLOW.out.size h24)
              have HT24 := Lib.hid (HTR.out.below h24)
              clear h24 CP HLOW HTR q0 q1
              have cP := Push_known 0 73 zeroNd (pG 9) (by decide) w24 HT24.out rfl (may_g (by omega)) (by decide) HKN.out (may_st (may_g (i := 9) (by omega)) (j := 0) (by omega))
              have CP := Lib.hid cP
              clear cP HKN
              go_wp2_with fail
              refine CP.out.mono ?_
              rintro e w25 ⟨rfl, h25⟩
              have HB25 := Lib.hid (more HB24.out HB24.out.size h25)
              have HT25 := Lib.hid (HT24.out.below h25)
              clear h25 CP HB24 HT24
              have CT := Lib.hid (Told_in w25 HT25.out HWF.out)
              go_wp2_with fail
              refine CT.out.mono ?_
              rintro e w26 ⟨rfl, h26⟩
              have HB26 := Lib.hid (more HB25.out HB25.out.size h26)
              have HT26 := Lib.hid (HT25.out.below h26)
              clear h26 CT HB25 HT25
              have CF := Lib.hid (From_in HWF.out (by have := HLEN.out; omega) w26)
              go_wp2_with fail
              refine CF.out.mono ?_
              rintro e w27 ⟨T2, tv2, m2, rfl, ht27, h27⟩
              have HB27 := Lib.hid (more HB26.out HB26.out.size h27)
              have HT27 := Lib.hid (HT26.out.below h27)
              have HU27 := Lib.hid ht27
              clear h27 CF HB26 HT26 ht27
              have cL := Len_in w27 HT27.out
              have cL2 := Len_in w27 HU27.out
              rw [HLEN.out] at cL cL2
              have CL := Lib.hid cL
              have CL2 := Lib.hid cL2
              clear cL cL2 HLEN HT27 HU27
              go_wp2_with fail
              refine CL.out.mono ?_
              rintro e w28 ⟨rfl, rfl⟩
              clear CL
              go_wp2_with fail
              refine CL2.out.mono ?_
              rintro e w29 ⟨rfl, rfl⟩
              clear CL2
              go_wp2
              go_ret
              refine ⟨rfl, ?_⟩
              exact HBA.out.trans (HB27.out.mono HBA.out.size)
end Go.Proofs.Ytbldeiejlebbiaa.T
