/-
  errataref01.Cut, words.
-/
import Derived.Test.YteegnmblbjcfpaaDoorTextWrap
import Derived.Test.YteegnmblbjcfpaaDoorTextRefFront
set_option linter.unusedVariables false
namespace Go.Proofs.YteegnmblbjcfpaaDoor.T
open Go Go.Lib Go.RowKit Go.Shelf

set_option maxRecDepth 100000 in
set_option maxHeartbeats 64000000 in
theorem refCut_in (s : ByteArray) (room : Int) (hr1 : -9223372036854775808 ≤ room) (hr2 : room ≤ 9223372036854775807) (hs : s.size ≤ 16777216) (w : World) :
    Calls Tryd.prog 25 #[.string s, .int .i64 room] w fun e w' => e = .returned (.string (s.extract 0 (fit s room))) ∧ Below w.heap.size w w' := by
  have hE0 : fitL s.size room 0 (pcsFrom s 0) = fit s room := rfl
  generalize fit s room = E at *
  have HE := Lib.hid hE0
  clear hE0
  go_enter Tryd.func25, Tryd.ntmps25
  go_wp2
  go_loopw [5, 6] (fun t i wr => ∃ (p : Nat) (n : Int), i = .int .i64 p ∧ p ≤ s.size ∧ t = .int .i64 n ∧ 0 ≤ n ∧ n ≤ 4 * (p : Int) ∧ fitL s.size room n (pcsFrom s p) = E ∧ Below w.heap.size w wr)
    (fun _ i _ => s.size - (RowKit.intOf i).toNat)
  case atStart => exact ⟨0, 0, rfl, Nat.zero_le _, rfl, by omega, by omega, HE.out, Below.refl _ _⟩
  case round =>
    obtain ⟨p, n, rfl, hp, rfl, hn0, hn1, hr, hbw⟩ := hrel
    have hszr := hbw.size
    by_cases hlt : p < s.size
    · have hst := pcsFrom_step s p hlt
      have hwd := pc_pos s p hlt
      have hwo := wOf_bd (pc s p).1
      rw [hst] at hr
      unfold fitL at hr
      simp only at hr
      have hcut : ∀ W : World, (Instr.slice 9 (.string s) none (some (.int .i64 (p : Int))) none).run Tryd.prog W = .ok (.string (s.extract 0 p)) W := fun W => by
        rw [run_slice_string_to_if (P := Tryd.prog) W 9 s .i64 (p : Int) Tryd.underlying9, if_pos (by omega), Int.toNat_natCast]
      clear hst
      by_cases hd : Utf8.decode s p = (65533, 1)
      · have h2 : (pc s p) = (-1, 1) := pc_brk s p hd
        rw [h2] at hr hwd hwo
        simp only at hr hwd hwo
        have HD := Lib.hid hd
        clear h2 hd
        have hsl : ∀ W : World, (Instr.slice 9 (.string s) (some (.int .i64 (p : Int))) (some (.int .i64 ((p : Int) + 1))) none).run Tryd.prog W = .ok (.string (s.extract p (p + 1))) W := fun W => slice_str s p 1 (by omega) W
        have hSh := fun W => shown_in p (s.extract p (p + 1)) (-1) false (by simp; omega) (by simp; omega) W
        simp only [shW_f] at hSh
        have hw4 : wOf (-1) = 4 := rfl
        rw [hw4] at hSh hr hwo
        clear hw4
        have HR := Lib.hid hr
        clear hr
        by_cases h4 : s.size ≤ p + 4
        · go_wp2_with fail
          refine (begins_brk s p _ hlt (by omega) HD.out _).mono ?_
          rintro e w1 ⟨rfl, hb1⟩
          go_wp2_with fail
          refine (hSh _).mono ?_
          rintro e w2 ⟨rfl, hb2⟩
          have hbw1 := hbw.trans (hb1.mono hszr)
          have hbw2 := hbw1.trans (hb2.mono hbw1.size)
          by_cases hgt : room < n + 4
          · have hr := HR.out
            rw [if_pos hgt] at hr
            subst hr
            clear HR
            go_wp2
            go_ret
            exact ⟨rfl, hbw2⟩
          · have hr := HR.out
            rw [if_neg hgt] at hr
            have HR2 := Lib.hid hr
            clear hr HR
            go_wp2
            go_roundw
            case rel => exact ⟨p + 1, n + 4, by first | rfl | go_num, by omega, rfl, by omega, by omega, HR2.out, hbw2⟩
            case measure => simp [RowKit.intOf]; omega
        · have hs4 : ∀ W : World, (Instr.slice 9 (.string s) (some (.int .i64 (p : Int))) (some (.int .i64 ((p : Int) + 4))) none).run Tryd.prog W = .ok (.string (s.extract p (p + 4))) W := fun W => slice_str s p 4 (by omega) W
          go_wp2_with fail
          refine (begins_brk s p _ hlt (by omega) HD.out _).mono ?_
          rintro e w1 ⟨rfl, hb1⟩
          go_wp2_with fail
          refine (hSh _).mono ?_
          rintro e w2 ⟨rfl, hb2⟩
          have hbw1 := hbw.trans (hb1.mono hszr)
          have hbw2 := hbw1.trans (hb2.mono hbw1.size)
          by_cases hgt : room < n + 4
          · have hr := HR.out
            rw [if_pos hgt] at hr
            subst hr
            clear HR
            go_wp2
            go_ret
            exact ⟨rfl, hbw2⟩
          · have hr := HR.out
            rw [if_neg hgt] at hr
            have HR2 := Lib.hid hr
            clear hr HR
            go_wp2
            go_roundw
            case rel => exact ⟨p + 1, n + 4, by first | rfl | go_num, by omega, rfl, by omega, by omega, HR2.out, hbw2⟩
            case measure => simp [RowKit.intOf]; omega
      · have h2 : (pc s p) = (((Utf8.decode s p).1 : Int), (Utf8.decode s p).2) := pc_run s p hd
        have h4b := pc_le4 s p
        have hd1 := decode_le s p
        rw [h2] at hr hwd hwo h4b
        simp only at hr hwd hwo h4b
        have HB := fun (q : Nat) (hq : q = min s.size (p + 4)) (W : World) => begins_run s p q hlt hq hd W
        clear h2 hd
        generalize (Utf8.decode s p).2 = k at *
        generalize (Utf8.decode s p).1 = r at *
        have hz : ((k : Int) == 0) = false := by rw [beq_eq_false_iff_ne]; omega
        have hsl : ∀ W : World, (Instr.slice 9 (.string s) (some (.int .i64 (p : Int))) (some (.int .i64 ((p : Int) + (k : Int)))) none).run Tryd.prog W = .ok (.string (s.extract p (p + k))) W := fun W => slice_str s p k (by omega) W
        have hSh := fun W => shown_in p (s.extract p (p + k)) (r : Int) false (by simp; omega) (by simp; omega) W
        simp only [shW_f] at hSh
        generalize wOf (r : Int) = wr1 at *
        have HR := Lib.hid hr
        clear hr
        by_cases h4 : s.size ≤ p + 4
        · go_wp2_with fail
          refine (HB _ (by omega) _).mono ?_
          rintro e w1 ⟨rfl, hb1⟩
          go_wp2_with fail
          refine (hSh _).mono ?_
          rintro e w2 ⟨rfl, hb2⟩
          have hbw1 := hbw.trans (hb1.mono hszr)
          have hbw2 := hbw1.trans (hb2.mono hbw1.size)
          by_cases hgt : room < n + wr1
          · have hr := HR.out
            rw [if_pos hgt] at hr
            subst hr
            clear HR
            go_wp2
            go_ret
            exact ⟨rfl, hbw2⟩
          · have hr := HR.out
            rw [if_neg hgt] at hr
            have HR2 := Lib.hid hr
            clear hr HR
            go_wp2
            go_roundw
            case rel => exact ⟨p + k, n + wr1, by first | rfl | go_num, by omega, rfl, by omega, by omega, HR2.out, hbw2⟩
            case measure => simp [RowKit.intOf]; omega
        · have hs4 : ∀ W : World, (Instr.slice 9 (.string s) (some (.int .i64 (p : Int))) (some (.int .i64 ((p : Int) + 4))) none).run Tryd.prog W = .ok (.string (s.extract p (p + 4))) W := fun W => slice_str s p 4 (by omega) W
          go_wp2_with fail
          refine (HB _ (by omega) _).mono ?_
          rintro e w1 ⟨rfl, hb1⟩
          go_wp2_with fail
          refine (hSh _).mono ?_
          rintro e w2 ⟨rfl, hb2⟩
          have hbw1 := hbw.trans (hb1.mono hszr)
          have hbw2 := hbw1.trans (hb2.mono hbw1.size)
          by_cases hgt : room < n + wr1
          · have hr := HR.out
            rw [if_pos hgt] at hr
            subst hr
            clear HR
            go_wp2
            go_ret
            exact ⟨rfl, hbw2⟩
          · have hr := HR.out
            rw [if_neg hgt] at hr
            have HR2 := Lib.hid hr
            clear hr HR
            go_wp2
            go_roundw
            case rel => exact ⟨p + k, n + wr1, by first | rfl | go_num, by omega, rfl, by omega, by omega, HR2.out, hbw2⟩
            case measure => simp [RowKit.intOf]; omega
    · rw [pcsFrom_end s p hlt] at hr
      unfold fitL at hr
      subst hr
      go_wp2
      go_ret
      rw [ext_all]
      exact ⟨rfl, hbw⟩
end Go.Proofs.YteegnmblbjcfpaaDoor.T
