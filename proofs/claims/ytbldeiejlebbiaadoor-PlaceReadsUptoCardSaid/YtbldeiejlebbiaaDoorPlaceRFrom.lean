/-
  errataref03.From of any bytes.
-/
import Derived.Test.YtbldeiejlebbiaaDoorPlaceTrG
import Derived.Test.YtbldeiejlebbiaaDoorPlaceTreesWalk
set_option linter.unusedVariables false
namespace Go.Proofs.YtbldeiejlebbiaaDoor.T
open Go Go.Lib Go.RowKit

def RFromPost (l : List UInt8) (w : World) (e : Ending) (w' : World) : Prop :=
  Below w.heap.size w w' ∧ ((∃ R u ns, e = .returned (.tuple #[.pointer (some ⟨R, 0, none⟩), .int .i64 0]) ∧ Wf ns ∧ ns.length ≤ 4095 ∧ l = toldB ns ∧ RefAt w.heap.size w' R u ns) ∨ (e = .returned (.tuple #[.pointer none, .int .i64 4]) ∧ NoTree l))
set_option maxRecDepth 100000 in
set_option maxHeartbeats 8000000 in
theorem RFrom_in (l : List UInt8) (hl : l.length ≤ 268435456) (w : World) :
    Calls Tryd.prog 29 #[.string ⟨l.toArray⟩] w (RFromPost l w) := by
  have C1 := Lib.hid (taken_in ⟨l.toArray⟩ (show l.length ≤ _ by omega) w)
  have hb1 := csN_lt ⟨l.toArray⟩
  have hway : OnWay l (csN ⟨l.toArray⟩).1 0 [] (csN ⟨l.toArray⟩).2.1 := by
    intro ms hw h4 hlm
    have e1 := cs_read ms.length (by omega) (ndsB 1 ms)
    rw [hlm]
    unfold toldB
    rw [e1]
    exact ⟨rfl, Nat.zero_le _, rfl, rfl⟩
  have hs0 : (csN ⟨l.toArray⟩).2.1.size ≤ 268435456 := Nat.le_trans hb1.2 hl
  have hn0 := hb1.1
  have HWAY := Lib.hid hway
  clear hway hb1
  generalize (csN ⟨l.toArray⟩).1 = n at *
  generalize (csN ⟨l.toArray⟩).2.1 = s0 at *
  generalize hS0 : (⟨l.toArray⟩ : ByteArray) = S0 at *
  have HS0 := Lib.hid hS0
  clear hS0
  go_enter Tryd.func29, Tryd.ntmps29
  go_wp2_with fail
  refine C1.out.mono ?_
  rintro e w1 ⟨rfl, hb1⟩
  have HB1 := Lib.hid hb1
  clear hb1 C1
  go_wp2_with fail
  refine (RNew_in w1).mono ?_
  rintro e w2 ⟨R, u0, rfl, hR2, hb2⟩
  have HR2 := Lib.hid (hR2.lower HB1.out.size)
  have HB2 := Lib.hid (moreB HB1.out HB1.out.size hb2)
  clear hR2 hb2 HB1
  go_wp2_with fail
  go_loopw [5, 7] (fun r i wr => ∃ (k : Nat) (ns : List Nd) (s : ByteArray) (v : Value), i = .int .i64 ((k : Int) + 1) ∧ r = .string s ∧ k ≤ 4095 ∧ s.size ≤ 268435456 ∧ ns.length ≤ 4095 ∧ Wf ns ∧ OnWay l n k ns s ∧ RefAt w.heap.size wr R v ns ∧ Below w.heap.size w wr)
    (fun _ i _ => 4097 - (RowKit.intOf i).toNat)
  case atStart => exact ⟨0, [], s0, u0, rfl, rfl, by omega, hs0, by simp, Wf.nil, HWAY.out, HR2.out, HB2.out⟩
  case round =>
    clear HR2 HB2 HWAY hs0
    obtain ⟨k, ns, s, v, rfl, rfl, hk, hs, h4, hwf, hway, hr, hbw⟩ := hrel
    have HR := Lib.hid hr
    have HB := Lib.hid hbw
    have HW := Lib.hid hwf
    have HWAY := Lib.hid hway
    clear hr hbw hwf hway
    by_cases hgo : (k + 1 ≤ n ∧ k + 1 < 4096) ∧ s.toList.isEmpty = false
    · obtain ⟨⟨hkn, hk4⟩, hemp⟩ := hgo
      have hN1 : decide ((k : Int) + 1 ≤ (n : Int)) = true := decide_eq_true (by omega)
      have hN2 : decide ((k : Int) + 1 < 4096) = true := decide_eq_true (by omega)
      obtain ⟨b1, b2, b3, b4, b5, b6, b7, b8⟩ := rd_bounds s
      have C2 := Lib.hid (taken_in s (by omega) wr)
      have C3 : ∀ W : World, Hid (Calls Tryd.prog 60 #[.string (csN s).2.1] W fun e w' => e = .returned (.tuple #[.int .i64 ((csN (csN s).2.1).1 : Int), .string (rdB s)]) ∧ Below W.heap.size W w') := fun W => Lib.hid (by have h := taken_in (csN s).2.1 (by omega) W; unfold rdB; exact h)
      have C4 : ∀ W : World, Hid (Calls Tryd.prog 60 #[.string ((rdB s).extract (rdG s) (rdB s).size)] W fun e w' => e = .returned (.tuple #[.int .i64 ((rdC s).1 : Int), .string (rdC s).2.1]) ∧ Below W.heap.size W w') := fun W => Lib.hid (by have h := taken_in ((rdB s).extract (rdG s) (rdB s).size) (by omega) W; unfold rdC; exact h)
      have hmin : Min.min (csN (csN s).2.1).1 (rdB s).size = rdG s := rfl
      have hsl1 : ∀ W : World, (Instr.slice 9 (.string (rdB s)) (some (.int .i64 (rdG s : Int))) none none).run Tryd.prog W = .ok (.string ((rdB s).extract (rdG s) (rdB s).size)) W := fun W => by
        rw [run_slice_string_from_if (P := Tryd.prog) W 9 _ .i64 (rdG s : Int) Tryd.underlying9, if_pos (by omega), Int.toNat_natCast]
      have hsl2 : ∀ W : World, (Instr.slice 9 (.string (rdB s)) none (some (.int .i64 (rdG s : Int))) none).run Tryd.prog W = .ok (.string (rdN s)) W := fun W => by
        rw [run_slice_string_to_if (P := Tryd.prog) W 9 _ .i64 (rdG s : Int) Tryd.underlying9, if_pos (by omega), Int.toNat_natCast]
        rfl
      have C5 := fun (W : World) (hR : RefAt w.heap.size W R v ns) => Lib.hid (RPush_in ((k : Int) + 1 - ((csN s).1 : Int)) ⟨rdN s, ((rdC s).1 : Int)⟩ (by show (rdN s).size ≤ _; omega) W hR HW.out h4)
      have hstep := fun (ms : List Nd) (hw : Wf ms) (h4 : ms.length ≤ 4095) (hlm : l = toldB ms) => OnWay.step HWAY.out (by omega) hw h4 hlm
      have hpw := pushF_wf HW.out ((k : Int) + 1 - ((csN s).1 : Int)) ⟨rdN s, ((rdC s).1 : Int)⟩
      have HSTEP := Lib.hid hstep
      have HPW := Lib.hid hpw
      have HC5 := Lib.hid C5
      change Hid (∀ ms : List Nd, _) at HSTEP
      clear hstep hpw C5
      unfold RPushPost at HC5
      generalize pushF ns ((k : Int) + 1 - ((csN s).1 : Int)) ⟨rdN s, ((rdC s).1 : Int)⟩ = F at *
      have hup := b1
      have hk0 : (csN (csN s).2.1).1 < 2097152 := (csN_lt (csN s).2.1).1
      have hsd : (rdC s).2.1.size ≤ 268435456 := Nat.le_trans b4 hs
      clear b2 b3 b4 b6 b7 b8
      generalize (csN (csN s).2.1).1 = lg at *
      generalize (csN s).2.1 = sa at *
      generalize (csN s).1 = up at *
      generalize (rdB s).extract (rdG s) (rdB s).size = sc at *
      generalize (rdC s).2.1 = sd at *
      generalize (rdC s).1 = ln at *
      generalize rdN s = nm at *
      generalize rdG s = g at *
      generalize rdB s = sb at *
      have hminI : min (lg : Int) (sb.size : Int) = (g : Int) := by omega
      clear b1 hs hmin b5
      go_wp2_with fail
      refine C2.out.mono ?_
      rintro e w3 ⟨rfl, hb3⟩
      have HR3 := Lib.hid (HR.out.below hb3)
      have HB3 := Lib.hid (moreB HB.out HB.out.size hb3)
      have D3 := C3 w3
      clear hb3 C2 C3 HR HB
      go_wp2_with fail
      refine D3.out.mono ?_
      rintro e w4 ⟨rfl, hb4⟩
      have HR4 := Lib.hid (HR3.out.below hb4)
      have HB4 := Lib.hid (moreB HB3.out HB3.out.size hb4)
      have D4 := C4 w4
      clear hb4 D3 C4 HR3 HB3
      go_wp2_with fail
      refine D4.out.mono ?_
      rintro e w5 ⟨rfl, hb5⟩
      have HR5 := Lib.hid (HR4.out.below hb5)
      have HB5 := Lib.hid (moreB HB4.out HB4.out.size hb5)
      have D5 := HC5.out w5 HR5.out
      clear hb5 D4 HC5 HR4 HB4
      go_wp2_with fail
      refine D5.out.mono ?_
      rintro e w6 ⟨rfl, v6, hR6, hk6, hb6⟩
      have HR6 := Lib.hid hR6
      have HB6 := Lib.hid (HB5.out.trans hb6)
      clear hR6 hk6 hb6 D5 HR5 HB5
      by_cases hc : F.1 = 0
      · by_cases hn : F.2.1 = k + 1
        · have hcc : ((F.1 : Int) != 0) = false := by rw [hc]; rfl
          have hnn : ((F.2.1 : Int) != (k : Int) + 1) = false := by rw [hn]; simp
          have hway2 : OnWay l n (k + 1) F.2.2 sd := by
            intro ms hw h45 hlm
            obtain ⟨e1, e2⟩ := HSTEP.out ms hw h45 hlm
            obtain ⟨e3, _⟩ := HWAY.out ms hw h45 hlm
            exact ⟨e3, by omega, by rw [e1], e2⟩
          have HWAY2 := Lib.hid hway2
          have hnx : F.2.2.length ≤ 4095 := HPW.out.2.2.2 h4
          clear hc hn hway2 HSTEP HWAY
          go_wp2
          go_roundw
          case rel => exact ⟨k + 1, F.2.2, sd, v6, by go_num, rfl, by omega, hsd, hnx, HPW.out.1, HWAY2.out, HR6.out, HB6.out⟩
          case measure => simp [RowKit.intOf]; omega
        · have hcc : ((F.1 : Int) != 0) = false := by rw [hc]; rfl
          have hnn : ((F.2.1 : Int) != (k : Int) + 1) = true := by rw [bne_iff_ne]; omega
          have hno : NoTree l := fun ms hw h45 hlm => hn (by rw [(HSTEP.out ms hw h45 hlm).1])
          have HNO := Lib.hid hno
          clear hc hn hno HSTEP HWAY
          go_wp2
          go_ret2
          exact ⟨HB6.out, .inr ⟨rfl, HNO.out⟩⟩
      · have hcc : ((F.1 : Int) != 0) = true := by rw [bne_iff_ne]; omega
        have hno : NoTree l := fun ms hw h45 hlm => hc (by rw [(HSTEP.out ms hw h45 hlm).1])
        have HNO := Lib.hid hno
        clear hc hno HSTEP HWAY
        go_wp2
        go_ret2
        exact ⟨HB6.out, .inr ⟨rfl, HNO.out⟩⟩
    · have hstop : ∀ ms : List Nd, Wf ms → ms.length ≤ 4095 → l = toldB ms → ns = ms := fun ms hw h45 hlm => by
        refine OnWay.stop HWAY.out ?_ hw h45 hlm
        by_cases h1 : n ≤ k
        · exact .inl h1
        by_cases h2 : 4095 ≤ k
        · exact .inr (.inl h2)
        · refine .inr (.inr ?_)
          have h3 : s.toList.isEmpty = true := by
            cases h : s.toList.isEmpty with
            | true => rfl
            | false => exact (hgo ⟨⟨by omega, by omega⟩, h⟩).elim
          rw [Lib.toList_data] at h3
          apply ByteArray.ext
          apply Array.ext'
          exact List.isEmpty_iff.1 h3
      have HST := Lib.hid hstop
      have hall : (¬ k + 1 ≤ n ∧ ¬ k < n ∧ decide ((k : Int) + 1 ≤ (n : Int)) = false) ∨ (k + 1 ≤ n ∧ decide ((k : Int) + 1 ≤ (n : Int)) = true ∧ ¬ k + 1 < 4096 ∧ decide ((k : Int) + 1 < 4096) = false) ∨ (k + 1 ≤ n ∧ decide ((k : Int) + 1 ≤ (n : Int)) = true ∧ k + 1 < 4096 ∧ decide ((k : Int) + 1 < 4096) = true ∧ s.toList.isEmpty = true) := by
        rcases Nat.lt_or_ge n (k + 1) with h1 | h1
        · exact .inl ⟨by omega, by omega, decide_eq_false (by omega)⟩
        · rcases Nat.lt_or_ge (k + 1) 4096 with h2 | h2
          · refine .inr (.inr ⟨h1, decide_eq_true (by omega), h2, decide_eq_true (by omega), ?_⟩)
            cases h : s.toList.isEmpty with
            | true => rfl
            | false => exact (hgo ⟨⟨h1, h2⟩, h⟩).elim
          · exact .inr (.inl ⟨h1, decide_eq_true (by omega), by omega, decide_eq_false (by omega)⟩)
      have c6 := RTold_in wr HR.out HW.out
      unfold sB at c6
      have C6 := Lib.hid c6
      clear c6 hgo hstop HWAY hs
      by_cases hT : toldB ns = l
      · have hTS : (⟨(toldB ns).toArray⟩ : ByteArray) = S0 := by rw [hT]; exact HS0.out
        rw [hTS] at C6
        have HTT := Lib.hid hT
        clear hT hTS
        rcases hall with ⟨m1, m2, m3⟩ | ⟨m1, m2, m3, m4⟩ | ⟨m1, m2, m3, m4, m5⟩
        all_goals
          go_wp2_with fail
          refine C6.out.mono ?_
          rintro e w3 ⟨rfl, hb3⟩
          have HR3 := Lib.hid (HR.out.below hb3)
          have HB3 := Lib.hid (moreB HB.out HB.out.size hb3)
          clear hb3
          go_wp2
          go_ret2
          exact ⟨HB3.out, .inl ⟨R, v, ns, rfl, HW.out, h4, HTT.out.symm, HR3.out⟩⟩
      · have hneS : (⟨(toldB ns).toArray⟩ : ByteArray) ≠ S0 := fun e => by
          rw [← HS0.out] at e
          have := congrArg (fun b : ByteArray => b.data.toList) e
          exact hT this
        have HNO := Lib.hid (show NoTree l from fun ms hw h45 hlm => hT (by rw [HST.out ms hw h45 hlm]; exact hlm.symm))
        clear hT
        generalize (⟨(toldB ns).toArray⟩ : ByteArray) = S1 at *
        have hneL : (S1.toList == S0.toList) = false := by
          rw [beq_eq_false_iff_ne, Lib.toList_data, Lib.toList_data]
          exact fun e => hneS (by apply ByteArray.ext; apply Array.ext'; exact e)
        rcases hall with ⟨m1, m2, m3⟩ | ⟨m1, m2, m3, m4⟩ | ⟨m1, m2, m3, m4, m5⟩
        all_goals
          go_wp2_with fail
          refine C6.out.mono ?_
          rintro e w3 ⟨rfl, hb3⟩
          have HB3 := Lib.hid (moreB HB.out HB.out.size hb3)
          clear hb3
          go_wp2
          go_ret2
          exact ⟨HB3.out, .inr ⟨rfl, HNO.out⟩⟩
end Go.Proofs.YtbldeiejlebbiaaDoor.T
