/-
  errataref01.words.
-/
import Derived.Test.YteegnmblbjcfpaaDoorTextRefCut
set_option linter.unusedVariables false
namespace Go.Proofs.YteegnmblbjcfpaaDoor.T
open Go Go.Lib Go.RowKit Go.Shelf

/-- the words from a place on; the stretch at hand began at a -/
def rest (s : ByteArray) (room : Int) (a i : Nat) : List ByteArray := if i ≤ s.size then (segs s a i).flatMap (fun x => parts room (s.extract x.1 x.2)) else []
theorem rest_on (s : ByteArray) (room : Int) (a i : Nat) (h : i < s.size) (hp : spP (bt s i) = false) : rest s room a i = rest s room a (i + 1) := by
  unfold rest; rw [if_pos (by omega), if_pos (by omega), segs_on s a i h hp]
theorem rest_sep (s : ByteArray) (room : Int) (a i : Nat) (h : i < s.size) (hp : spP (bt s i) = true) : rest s room a i = parts room (s.extract a i) ++ rest s room (i + 1) (i + 1) := by
  unfold rest; rw [if_pos (by omega), if_pos (by omega), segs_sep s a i h hp, List.flatMap_cons]
theorem rest_end (s : ByteArray) (room : Int) (a i : Nat) (h : i = s.size) : rest s room a i = parts room (s.extract a i) ++ rest s room (i + 1) (i + 1) := by
  unfold rest; rw [if_pos (by omega), if_neg (by omega), segs_end s a i (by omega), h]; simp
theorem rest_out (s : ByteArray) (room : Int) (a i : Nat) (h : ¬ i ≤ s.size) : rest s room a i = [] := by unfold rest; rw [if_neg h]
theorem sp_neq (c : Nat) (h : spP c = false) : ((c : Int) != 32) = true ∧ ((c : Int) != 10) = true := by
  unfold spP at h; simp at h
  constructor <;> (rw [bne_iff_ne]; omega)

set_option maxRecDepth 100000 in
set_option maxHeartbeats 64000000 in
theorem refWords_in (s : ByteArray) (room : Int) (h4 : 4 ≤ room) (hr2 : room ≤ 9223372036854775807) (hs : s.size ≤ 16777216) (w : World) :
    Calls Tryd.prog 43 #[.string s, .int .i64 room] w (IsStrs (rW s room) w) := by
  obtain ⟨i0, hi, hz0, hz1, hz2⟩ := info_parts infoStr
  have hlen := rW_len s room h4
  have hR0 : rest s room 0 0 = rW s room := by unfold rest rW; rw [if_pos (by omega)]
  generalize rW s room = R at *
  have HR0 := Lib.hid hR0
  clear hR0
  go_enter Tryd.func43, Tryd.ntmps43
  go_wp2
  go_loopw [5, 6, 7] (fun v a i wr => ∃ (aa ii : Nat) (acc : List ByteArray), a = .int .i64 aa ∧ i = .int .i64 ii ∧ aa ≤ ii ∧ ii ≤ s.size + 1 ∧ acc ++ rest s room aa ii = R ∧ StrRow w.heap.size wr v acc ∧ Below w.heap.size w wr)
    (fun _ _ i _ => s.size + 1 - (intOf i).toNat)
  case atStart => exact ⟨0, 0, [], rfl, rfl, Nat.le_refl _, by omega, HR0.out, World.ownsRow_nil _ _ _ _, Below.refl _ _⟩
  case round =>
    obtain ⟨aa, ii, acc, rfl, rfl, ha, hii, hacc, hout, hbw⟩ := hrel
    by_cases hle : ii ≤ s.size
    · by_cases hon : ii < s.size ∧ spP (bt s ii) = false
      · obtain ⟨hlt, hsp⟩ := hon
        obtain ⟨b1, b2⟩ := sp_neq _ hsp
        have ix := fun W : World => idx_at s ii (ii : Int) rfl (by omega) W
        rw [rest_on s room aa ii hlt hsp] at hacc
        have HA := Lib.hid hacc
        clear hacc hsp
        go_wp2
        go_roundw
        case rel => exact ⟨aa, ii + 1, acc, rfl, by go_num, by omega, by omega, HA.out, hout, hbw⟩
        case measure => simp [intOf]; omega
      · have hcase : (ii < s.size ∧ spP (bt s ii) = true) ∨ ii = s.size := by
          rcases Nat.lt_or_ge ii s.size with h | h
          · left
            refine ⟨h, ?_⟩
            cases hq : spP (bt s ii) with
            | true => rfl
            | false => exact absurd ⟨h, hq⟩ hon
          · right; omega
        have hsplit : rest s room aa ii = parts room (s.extract aa ii) ++ rest s room (ii + 1) (ii + 1) := by
          rcases hcase with ⟨h, hq⟩ | h
          · exact rest_sep s room aa ii h hq
          · exact rest_end s room aa ii h
        rw [hsplit, ← List.append_assoc] at hacc
        have hex : (s.extract aa ii).size ≤ s.size := by simp; omega
        have hsl : ∀ W : World, (Instr.slice 9 (.string s) (some (.int .i64 (aa : Int))) (some (.int .i64 (ii : Int))) none).run Tryd.prog W = .ok (.string (s.extract aa ii)) W := fun W => by
          have e := run_slice_string (P := Tryd.prog) W 9 s .i64 .i64 (aa : Int) (ii : Int) Tryd.underlying9 (by omega) (by omega) (by omega)
          rw [e, Int.toNat_natCast, Int.toNat_natCast]
        generalize hP : acc ++ parts room (s.extract aa ii) = P1 at *
        have hPR : P1.length ≤ R.length := by rw [← hacc]; simp
        generalize s.extract aa ii = X at *
        have HP := Lib.hid hP
        have HA := Lib.hid hacc
        clear hP hacc hsplit hon
        have next : ∀ (wr2 : World) (v : Value), StrRow w.heap.size wr2 v P1 → Below w.heap.size w wr2 → ∃ (aa2 ii2 : Nat) (acc : List ByteArray), Value.int IntKind.i64 ((ii : Int) + 1) = .int .i64 aa2 ∧ Value.int IntKind.i64 ((ii : Int) + 1) = .int .i64 ii2 ∧ aa2 ≤ ii2 ∧ ii2 ≤ s.size + 1 ∧ acc ++ rest s room aa2 ii2 = R ∧ StrRow w.heap.size wr2 v acc ∧ Below w.heap.size w wr2 :=
          fun wr2 v h1 h2 => ⟨ii + 1, ii + 1, P1, by go_num, by go_num, Nat.le_refl _, by omega, HA.out, h1, h2⟩
        have NX := Lib.hid next
        clear next
        rcases hcase with ⟨hlt, hsp⟩ | heq
        · have ix := fun W : World => idx_at s ii (ii : Int) rfl (by omega) W
          have hc2 : (bt s ii = 32) ∨ (bt s ii = 10 ∧ ¬ bt s ii = 32) := by unfold spP at hsp; simp at hsp; omega
          rcases hc2 with h32 | ⟨h10, h32⟩
          · have b1 : ((bt s ii : Int) != 32) = false := by rw [h32]; rfl
            clear hsp h32
            go_wp2
            obtain ⟨wo, rfl⟩ : ∃ wo : World, wo = wr := ⟨_, rfl⟩
            go_loopw [5, 8] (fun v t wr => ∃ (wd : ByteArray) (acc : List ByteArray), t = .string wd ∧ wd.size ≤ s.size ∧ acc ++ parts room wd = P1 ∧ StrRow w.heap.size wr v acc ∧ Below w.heap.size w wr)
              (fun _ t _ => match t with | .string b => b.size | _ => 0)
            case atStart => exact ⟨X, acc, rfl, hex, HP.out, hout, hbw⟩
            case round =>
              obtain ⟨wd, acc2, rfl, hwd, hacc, hout2, hbw2⟩ := hrel
              have hszr := hbw2.size
              by_cases hz : wd.size = 0
              · obtain rfl : wd = ⟨#[]⟩ := ba_ext (List.eq_nil_of_length_eq_zero hz)
                rw [parts_none room _ rfl, List.append_nil] at hacc
                subst hacc
                go_wp2
                go_roundw
                case rel => exact NX.out _ _ hout2 hbw2
                case measure => simp [intOf]; omega
              · have hle2 := fit_le wd room
                have hp := fit_pos wd room h4 (by omega)
                rw [parts_some room h4 wd hz] at hacc
                have hal : acc2.length + 1 ≤ P1.length := by rw [← hacc]; simp
                have HF := fun (W : World) => refCut_in wd room (by omega) hr2 (by omega) W
                have n1 : wd.toList.isEmpty = false := by
                  cases h : wd.toList with
                  | nil => rw [toList_data'] at h; exact absurd (by have := congrArg List.length h; simpa using this) hz
                  | cons a b => rfl
                have n2 : (!wd.toList.isEmpty) = true := by rw [n1]; rfl
                have n3 : ¬ wd.toList = [] := by intro h; rw [h] at n1; cases n1
                have hes : (wd.extract (fit wd room) wd.size).size = wd.size - fit wd room := by simp
                have hes2 : (wd.extract 0 (fit wd room)).size = fit wd room := by simp; omega
                have hsl2 : ∀ W : World, (Instr.slice 9 (.string wd) (some (.int .i64 (fit wd room : Int))) none none).run Tryd.prog W = .ok (.string (wd.extract (fit wd room) wd.size)) W := fun W => by
                  rw [run_slice_string_from_if (P := Tryd.prog) W 9 wd .i64 (fit wd room : Int) Tryd.underlying9, if_pos (by omega), Int.toNat_natCast]
                generalize wd.extract 0 (fit wd room) = C at *
                generalize fit wd room = n at *
                have HA2 := Lib.hid hacc
                have HES := Lib.hid hes
                clear hacc hes
                go_wp2_with fail
                refine (HF _).mono ?_
                rintro e w2 ⟨rfl, hb2⟩
                have hrow2 := row_none hout2 (below_grown hb2)
                have hsz2 := hb2.size
                go_wp2_with (at_builtin; refine wpList_append_own _ rfl _ _ 42 rfl w.heap.size 9 i0 (.string ⟨#[]⟩) 1 16 Tryd.underlying42 hi hz0 hz1 hz2 rfl (by decide) _ acc2.length _ rfl (hrow2.alloc _) ⟨w2.heap.size, 0, none⟩ 1 1 [.string C] rfl rfl (cell1_str _ _ _) (by simp [Value.oneCell']) (by unfold maxLen; omega) (by omega) (by simp; omega) ?_; intro v' w3 hown' hgrow _)
                go_wp2
                go_roundw
                case rel =>
                  refine ⟨_, acc2 ++ [C], rfl, by rw [HES.out]; omega, by rw [← HA2.out]; simp, str_snoc hown', below_app hbw2 hb2 hgrow hrow2⟩
                case measure => simp only; rw [HES.out]; omega
          · have b1 : ((bt s ii : Int) != 32) = true := by rw [bne_iff_ne]; omega
            have b2 : ((bt s ii : Int) != 10) = false := by rw [h10]; rfl
            clear hsp h32 h10
            go_wp2
            obtain ⟨wo, rfl⟩ : ∃ wo : World, wo = wr := ⟨_, rfl⟩
            go_loopw [5, 8] (fun v t wr => ∃ (wd : ByteArray) (acc : List ByteArray), t = .string wd ∧ wd.size ≤ s.size ∧ acc ++ parts room wd = P1 ∧ StrRow w.heap.size wr v acc ∧ Below w.heap.size w wr)
              (fun _ t _ => match t with | .string b => b.size | _ => 0)
            case atStart => exact ⟨X, acc, rfl, hex, HP.out, hout, hbw⟩
            case round =>
              obtain ⟨wd, acc2, rfl, hwd, hacc, hout2, hbw2⟩ := hrel
              have hszr := hbw2.size
              by_cases hz : wd.size = 0
              · obtain rfl : wd = ⟨#[]⟩ := ba_ext (List.eq_nil_of_length_eq_zero hz)
                rw [parts_none room _ rfl, List.append_nil] at hacc
                subst hacc
                go_wp2
                go_roundw
                case rel => exact NX.out _ _ hout2 hbw2
                case measure => simp [intOf]; omega
              · have hle2 := fit_le wd room
                have hp := fit_pos wd room h4 (by omega)
                rw [parts_some room h4 wd hz] at hacc
                have hal : acc2.length + 1 ≤ P1.length := by rw [← hacc]; simp
                have HF := fun (W : World) => refCut_in wd room (by omega) hr2 (by omega) W
                have n1 : wd.toList.isEmpty = false := by
                  cases h : wd.toList with
                  | nil => rw [toList_data'] at h; exact absurd (by have := congrArg List.length h; simpa using this) hz
                  | cons a b => rfl
                have n2 : (!wd.toList.isEmpty) = true := by rw [n1]; rfl
                have n3 : ¬ wd.toList = [] := by intro h; rw [h] at n1; cases n1
                have hes : (wd.extract (fit wd room) wd.size).size = wd.size - fit wd room := by simp
                have hes2 : (wd.extract 0 (fit wd room)).size = fit wd room := by simp; omega
                have hsl2 : ∀ W : World, (Instr.slice 9 (.string wd) (some (.int .i64 (fit wd room : Int))) none none).run Tryd.prog W = .ok (.string (wd.extract (fit wd room) wd.size)) W := fun W => by
                  rw [run_slice_string_from_if (P := Tryd.prog) W 9 wd .i64 (fit wd room : Int) Tryd.underlying9, if_pos (by omega), Int.toNat_natCast]
                generalize wd.extract 0 (fit wd room) = C at *
                generalize fit wd room = n at *
                have HA2 := Lib.hid hacc
                have HES := Lib.hid hes
                clear hacc hes
                go_wp2_with fail
                refine (HF _).mono ?_
                rintro e w2 ⟨rfl, hb2⟩
                have hrow2 := row_none hout2 (below_grown hb2)
                have hsz2 := hb2.size
                go_wp2_with (at_builtin; refine wpList_append_own _ rfl _ _ 42 rfl w.heap.size 9 i0 (.string ⟨#[]⟩) 1 16 Tryd.underlying42 hi hz0 hz1 hz2 rfl (by decide) _ acc2.length _ rfl (hrow2.alloc _) ⟨w2.heap.size, 0, none⟩ 1 1 [.string C] rfl rfl (cell1_str _ _ _) (by simp [Value.oneCell']) (by unfold maxLen; omega) (by omega) (by simp; omega) ?_; intro v' w3 hown' hgrow _)
                go_wp2
                go_roundw
                case rel =>
                  refine ⟨_, acc2 ++ [C], rfl, by rw [HES.out]; omega, by rw [← HA2.out]; simp, str_snoc hown', below_app hbw2 hb2 hgrow hrow2⟩
                case measure => simp only; rw [HES.out]; omega
        · have b0 : decide (ii < s.size) = false := by simp; omega
          have b2 : ¬ ii < s.size := by omega
          clear heq
          go_wp2
          obtain ⟨wo, rfl⟩ : ∃ wo : World, wo = wr := ⟨_, rfl⟩
          go_loopw [5, 8] (fun v t wr => ∃ (wd : ByteArray) (acc : List ByteArray), t = .string wd ∧ wd.size ≤ s.size ∧ acc ++ parts room wd = P1 ∧ StrRow w.heap.size wr v acc ∧ Below w.heap.size w wr)
            (fun _ t _ => match t with | .string b => b.size | _ => 0)
          case atStart => exact ⟨X, acc, rfl, hex, HP.out, hout, hbw⟩
          case round =>
            obtain ⟨wd, acc2, rfl, hwd, hacc, hout2, hbw2⟩ := hrel
            have hszr := hbw2.size
            by_cases hz : wd.size = 0
            · obtain rfl : wd = ⟨#[]⟩ := ba_ext (List.eq_nil_of_length_eq_zero hz)
              rw [parts_none room _ rfl, List.append_nil] at hacc
              subst hacc
              go_wp2
              go_roundw
              case rel => exact NX.out _ _ hout2 hbw2
              case measure => simp [intOf]; omega
            · have hle2 := fit_le wd room
              have hp := fit_pos wd room h4 (by omega)
              rw [parts_some room h4 wd hz] at hacc
              have hal : acc2.length + 1 ≤ P1.length := by rw [← hacc]; simp
              have HF := fun (W : World) => refCut_in wd room (by omega) hr2 (by omega) W
              have n1 : wd.toList.isEmpty = false := by
                cases h : wd.toList with
                | nil => rw [toList_data'] at h; exact absurd (by have := congrArg List.length h; simpa using this) hz
                | cons a b => rfl
              have n2 : (!wd.toList.isEmpty) = true := by rw [n1]; rfl
              have n3 : ¬ wd.toList = [] := by intro h; rw [h] at n1; cases n1
              have hes : (wd.extract (fit wd room) wd.size).size = wd.size - fit wd room := by simp
              have hes2 : (wd.extract 0 (fit wd room)).size = fit wd room := by simp; omega
              have hsl2 : ∀ W : World, (Instr.slice 9 (.string wd) (some (.int .i64 (fit wd room : Int))) none none).run Tryd.prog W = .ok (.string (wd.extract (fit wd room) wd.size)) W := fun W => by
                rw [run_slice_string_from_if (P := Tryd.prog) W 9 wd .i64 (fit wd room : Int) Tryd.underlying9, if_pos (by omega), Int.toNat_natCast]
              generalize wd.extract 0 (fit wd room) = C at *
              generalize fit wd room = n at *
              have HA2 := Lib.hid hacc
              have HES := Lib.hid hes
              clear hacc hes
              go_wp2_with fail
              refine (HF _).mono ?_
              rintro e w2 ⟨rfl, hb2⟩
              have hrow2 := row_none hout2 (below_grown hb2)
              have hsz2 := hb2.size
              go_wp2_with (at_builtin; refine wpList_append_own _ rfl _ _ 42 rfl w.heap.size 9 i0 (.string ⟨#[]⟩) 1 16 Tryd.underlying42 hi hz0 hz1 hz2 rfl (by decide) _ acc2.length _ rfl (hrow2.alloc _) ⟨w2.heap.size, 0, none⟩ 1 1 [.string C] rfl rfl (cell1_str _ _ _) (by simp [Value.oneCell']) (by unfold maxLen; omega) (by omega) (by simp; omega) ?_; intro v' w3 hown' hgrow _)
              go_wp2
              go_roundw
              case rel =>
                refine ⟨_, acc2 ++ [C], rfl, by rw [HES.out]; omega, by rw [← HA2.out]; simp, str_snoc hown', below_app hbw2 hb2 hgrow hrow2⟩
              case measure => simp only; rw [HES.out]; omega
    · rw [rest_out s room aa ii hle, List.append_nil] at hacc
      subst hacc
      go_wp2
      go_ret
      exact ⟨_, rfl, hout, hbw⟩
end Go.Proofs.YteegnmblbjcfpaaDoor.T
