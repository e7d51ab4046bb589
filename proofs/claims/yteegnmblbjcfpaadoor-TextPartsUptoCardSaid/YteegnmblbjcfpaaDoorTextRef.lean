/-
  The document's way of taking texts apart (errataref01): the same things as the model's own decoder.
-/
import Derived.WalkKit
import Derived.Outline
import Derived.Laws.BytesArg
import Derived.Laws.NewBlocks
import Derived.Lib.Hide
import Derived.BigQuiet
import Derived.Deep.QuietTactic
import Derived.Deep.RegionWith
import Derived.RegionTactic
import Derived.WalkLawsBesides
import Derived.Test.YteegnmblbjcfpaaDoorTextPlain
import Derived.Test.YteegnmblbjcfpaaDoorProg
set_option linter.unusedVariables false
namespace Go.Proofs.YteegnmblbjcfpaaDoor.T
open Go Go.Lib Go.RowKit

theorem below_drewN {B : Nat} {a w : World} (h : Below B a w) (n : Nat) : Below B a (w.drewN n) := ⟨h.os, h.tape, h.output, h.size, h.block⟩
def codedI (r : Int) : List Int :=
  if r < 128 then [r] else if r < 2048 then [192 + r / 64, 128 + r % 64]
  else if r < 65536 then [224 + r / 4096, 128 + r / 64 % 64, 128 + r % 64]
  else [240 + r / 262144, 128 + r / 4096 % 64, 128 + r / 64 % 64, 128 + r % 64]
theorem conv_new (w : World) (xs : List Int) :
    (convert 54 9 (.slice (some ⟨w.heap.size, 0, none⟩) xs.length xs.length)).run Tryd.prog (w.alloc (.cells (xs.map (Value.int .u8)).toArray 5)) = .ok (.string (strOfNums xs)) (w.alloc (.cells (xs.map (Value.int .u8)).toArray 5)) :=
  run_convert_bytes_arg _ 54 5 Tryd.underlying54 Tryd.underlying5 w.heap.size 0 xs.length xs.length xs rfl (fun i hi => by
    rw [World.cell?_alloc_at _ _ _ _ rfl]
    simp [List.getD, hi]) 9 Tryd.underlying9
theorem ret_str {a b : ByteArray} (h : a = b) : Ending.returned (.string a) = .returned (.string b) := by rw [h]
set_option maxHeartbeats 1000000 in
theorem coded_in (r : Int) (h0 : 0 ≤ r) (h : r ≤ 1114111) (w : World) :
    Calls Tryd.prog 48 #[.int .i32 r] w fun e w' => e = .returned (.string (strOfNums (codedI r))) ∧ Below w.heap.size w w' := by
  by_cases h1 : r < 128
  · have k := conv_new w [r]
    simp only [List.length_cons, List.length_nil, List.map_cons, List.map_nil, Nat.reduceAdd] at k
    go_enter Tryd.func48, Tryd.ntmps48
    go_wp2
    go_ret
    exact ⟨ret_str (by unfold codedI; rw [if_pos (by omega)]), (Below.refl _ _).alloc (Nat.le_refl _) _⟩
  · by_cases h2 : r < 2048
    · have k := conv_new w [192 + r / 64, 128 + r % 64]
      simp only [List.length_cons, List.length_nil, List.map_cons, List.map_nil, Nat.reduceAdd] at k
      go_enter Tryd.func48, Tryd.ntmps48
      go_wp2
      go_ret
      exact ⟨ret_str (by unfold codedI; rw [if_neg (by omega), if_pos (by omega)]), (Below.refl _ _).alloc (Nat.le_refl _) _⟩
    · by_cases h3 : r < 65536
      · have k := conv_new w [224 + r / 4096, 128 + r / 64 % 64, 128 + r % 64]
        simp only [List.length_cons, List.length_nil, List.map_cons, List.map_nil, Nat.reduceAdd] at k
        go_enter Tryd.func48, Tryd.ntmps48
        go_wp2
        go_ret
        exact ⟨ret_str (by unfold codedI; rw [if_neg (by omega), if_neg (by omega), if_pos (by omega)]), (Below.refl _ _).alloc (Nat.le_refl _) _⟩
      · have k := conv_new w [240 + r / 262144, 128 + r / 4096 % 64, 128 + r / 64 % 64, 128 + r % 64]
        simp only [List.length_cons, List.length_nil, List.map_cons, List.map_nil, Nat.reduceAdd] at k
        go_enter Tryd.func48, Tryd.ntmps48
        go_wp2
        go_ret
        exact ⟨ret_str (by unfold codedI; rw [if_neg (by omega), if_neg (by omega), if_neg (by omega)]), (Below.refl _ _).alloc (Nat.le_refl _) _⟩

/-- is it a rune? -/
def mayI (r : Int) : Bool := decide (r ≤ 1114111 ∧ (r < 55296 ∨ 57343 < r))
theorem ret_bool {a b : Bool} (h : a = b) : Ending.returned (.bool a) = .returned (.bool b) := by rw [h]
set_option maxHeartbeats 1000000 in
theorem may_in (r : Int) (h0 : 0 ≤ r) (w : World) :
    Calls Tryd.prog 47 #[.int .i32 r] w fun e w' => e = .returned (.bool (mayI r)) ∧ w = w' := by
  by_cases h1 : r ≤ 1114111
  · by_cases h2 : r < 55296
    · go_enter Tryd.func47, Tryd.ntmps47
      go_wp2
      go_ret
      exact ⟨ret_bool (by unfold mayI; rw [Bool.eq_iff_iff]; simp; omega), rfl⟩
    · go_enter Tryd.func47, Tryd.ntmps47
      go_wp2
      go_ret
      exact ⟨ret_bool (by unfold mayI; rw [Bool.eq_iff_iff]; simp; omega), rfl⟩
  · go_enter Tryd.func47, Tryd.ntmps47
    go_wp2
    go_ret
    exact ⟨ret_bool (by unfold mayI; rw [Bool.eq_iff_iff]; simp; omega), rfl⟩

theorem may_yes (r : Int) (h0 : 0 ≤ r) (hm : mayI r = true) (w : World) : Calls Tryd.prog 47 #[.int .i32 r] w fun e w' => e = .returned (.bool true) ∧ w = w' := by
  have h := may_in r h0 w; rw [hm] at h; exact h
theorem may_no (r : Int) (h0 : 0 ≤ r) (hm : mayI r = false) (w : World) : Calls Tryd.prog 47 #[.int .i32 r] w fun e w' => e = .returned (.bool false) ∧ w = w' := by
  have h := may_in r h0 w; rw [hm] at h; exact h
def bt (t : ByteArray) (i : Nat) : Nat := (t.get! i).toNat
theorem bt_lt (t : ByteArray) (i : Nat) : bt t i < 256 := (t.get! i).toNat_lt
theorem bt_get (t : ByteArray) (i : Nat) (h : i < t.size) : bt t i = t[i].toNat := by unfold bt; rw [show t.get! i = t.get! (i + 0) from rfl, get_at t i h]
theorem i32_eq {a b : Int} (h : a = b) : Value.int .i32 a = .int .i32 b := by rw [h]
def seedN (k b0 : Nat) : Nat := if k = 2 then b0 % 32 else if k = 3 then b0 % 16 else if k = 4 then b0 % 8 else b0
/-- what i bytes of k have come to -/
def racc (t : ByteArray) (k : Nat) : Nat → Nat
  | 0 => 0
  | 1 => seedN k (bt t 0)
  | i + 2 => 64 * racc t k (i + 1) + bt t (i + 1) % 64
theorem racc_1 (t : ByteArray) (k : Nat) : racc t k 1 = seedN k (bt t 0) := rfl
theorem racc_step (t : ByteArray) (k i : Nat) (h : 1 ≤ i) : racc t k (i + 1) = 64 * racc t k i + bt t i % 64 := by
  obtain ⟨j, rfl⟩ : ∃ j, i = j + 1 := ⟨i - 1, by omega⟩
  rfl
theorem racc_lt (t : ByteArray) (k i : Nat) (h : 1 ≤ i) (hk : k = 1 ∨ k = 2 ∨ k = 3 ∨ k = 4) (hi : i ≤ k) : racc t k i < 2097152 := by
  have h0 := bt_lt t 0; have h1 := bt_lt t 1; have h2 := bt_lt t 2; have h3 := bt_lt t 3
  have e : i = 1 ∨ i = 2 ∨ i = 3 ∨ i = 4 := by omega
  rcases hk with rfl | rfl | rfl | rfl <;> rcases e with rfl | rfl | rfl | rfl <;> simp only [racc, seedN] <;> simp <;> omega
/-- do k bytes have the form of what they come to? -/
def hitB (t : ByteArray) (k : Nat) : Bool := mayI (racc t k k) && ((strOfNums (codedI (racc t k k))).toList == (t.extract 0 k).toList)
def begFrom (t : ByteArray) : Nat → Nat → Nat × Nat
  | 0, _ => (0, 0)
  | f + 1, k => if k ≤ t.size then (if hitB t k then (racc t k k, k) else begFrom t f (k + 1)) else (0, 0)
theorem begFrom_succ (t : ByteArray) (f k : Nat) : begFrom t (f + 1) k = if k ≤ t.size then (if hitB t k then (racc t k k, k) else begFrom t f (k + 1)) else (0, 0) := rfl

set_option maxRecDepth 100000 in
set_option maxHeartbeats 64000000 in
theorem begins_in (t : ByteArray) (ht : t.size ≤ 4) (ht1 : 1 ≤ t.size) (w : World) :
    Calls Tryd.prog 32 #[.string t] w fun e w' => e = .returned (.tuple #[.int .i32 (begFrom t 4 1).1, .int .i64 (begFrom t 4 1).2]) ∧ Below w.heap.size w w' := by
  go_enter Tryd.func32, Tryd.ntmps32
  go_wp2
  go_loopw [4] (fun n wr => ∃ k : Nat, 1 ≤ k ∧ k ≤ 5 ∧ n = .int .i64 k ∧ begFrom t (5 - k) k = begFrom t 4 1 ∧ Below w.heap.size w wr) (fun n _ => 5 - (intOf n).toNat)
  case atStart => exact ⟨1, by omega, by omega, rfl, rfl, Below.refl _ _⟩
  case round =>
    obtain ⟨k, hk1, hk5, rfl, hb, hbw⟩ := hrel
    have HB := Lib.hid hb
    clear hb
    by_cases hk : k ≤ t.size
    · obtain rfl | rfl | rfl | rfl : k = 1 ∨ k = 2 ∨ k = 3 ∨ k = 4 := by omega
      · have h0t : (0 : Nat) < t.size := by omega
        have b0 : (t[0].toNat : Int) < 256 := by have := t[0].toNat_lt; omega
        have hstep : begFrom t 4 1 = if hitB t 1 then (racc t 1 1, 1) else begFrom t 3 (1 + 1) := by
          rw [← HB.out]
          show begFrom t (3 + 1) 1 = _
          rw [begFrom_succ, if_pos hk]
        have HST := Lib.hid hstep
        clear hstep HB
        go_wp2
        refine wp_loop_rounds 1 ?_
        rw [rounds_succ]
        go_wp2
        obtain ⟨R, hR⟩ : ∃ R : Int, ((racc t 1 1 : Nat) : Int) = R := ⟨_, rfl⟩
        have hRb : 0 ≤ R ∧ R < 2097152 := by have := racc_lt t 1 1 (by omega) (by omega) (by omega); omega
        obtain ⟨hR0, hR1⟩ := hRb
        have HR := Lib.hid hR
        have hv : R = (t[0].toNat : Int) := by rw [← hR]; simp only [racc, seedN, bt_get t 0 h0t]; simp
        rw [← hv]
        clear hv hR
        cases hm : mayI R with
        | true =>
          have hR2 : R ≤ 1114111 := by unfold mayI at hm; simp at hm; omega
          cases he : ((strOfNums (codedI R)).toList == (t.extract 0 1).toList) with
          | true =>
            have hhit : hitB t 1 = true := by unfold hitB; rw [HR.out, hm, he]; rfl
            have HH := Lib.hid hhit
            clear hhit
            go_region_with (first | (go_at_call 47; refine (may_yes R hR0 hm _).mono ?_; rintro e w' ⟨rfl, rfl⟩) | (go_at_call 48; refine (coded_in R hR0 hR2 _).mono ?_; rintro e w' ⟨rfl, hb2⟩))
            all_goals
              go_wp2
              go_ret2
              exact ⟨by rw [HST.out, HH.out]; simp only [if_true]; rw [HR.out]; rfl, hbw.drew.trans (hb2.mono hbw.size)⟩
          | false =>
            have hhit : hitB t 1 = false := by unfold hitB; rw [HR.out, hm, he]; rfl
            have HH := Lib.hid hhit
            clear hhit
            go_region_with (first | (go_at_call 47; refine (may_yes R hR0 hm _).mono ?_; rintro e w' ⟨rfl, rfl⟩) | (go_at_call 48; refine (coded_in R hR0 hR2 _).mono ?_; rintro e w' ⟨rfl, hb2⟩))
            all_goals
              go_wp2
              go_roundw
              case rel => exact ⟨1 + 1, by omega, by omega, by go_num, by rw [HST.out, HH.out]; rfl, hbw.drew.trans (hb2.mono hbw.size)⟩
              case measure => simp [intOf]
        | false =>
          have hhit : hitB t 1 = false := by unfold hitB; rw [HR.out, hm]; rfl
          have HH := Lib.hid hhit
          clear hhit
          go_quiet ((go_at_call 47; exact Calls.quiet_of_same ((may_no R hR0 hm _).mono fun e w' h => ⟨h.1, h.2.symm⟩)))
          all_goals
            go_wp2
            go_roundw
            case rel => exact ⟨1 + 1, by omega, by omega, by go_num, by rw [HST.out, HH.out]; rfl, below_drewN hbw _⟩
            case measure => simp [intOf]
      · have h0t : (0 : Nat) < t.size := by omega
        have b0 : (t[0].toNat : Int) < 256 := by have := t[0].toNat_lt; omega
        have h1t : (1 : Nat) < t.size := by omega
        have b1 : (t[1].toNat : Int) < 256 := by have := t[1].toNat_lt; omega
        have hstep : begFrom t 4 1 = if hitB t 2 then (racc t 2 2, 2) else begFrom t 2 (2 + 1) := by
          rw [← HB.out]
          show begFrom t (2 + 1) 2 = _
          rw [begFrom_succ, if_pos hk]
        have HST := Lib.hid hstep
        clear hstep HB
        go_wp2
        refine wp_loop_rounds 2 ?_
        rw [rounds_succ]
        go_wp2
        rw [rounds_succ]
        go_wp2
        obtain ⟨R, hR⟩ : ∃ R : Int, ((racc t 2 2 : Nat) : Int) = R := ⟨_, rfl⟩
        have hRb : 0 ≤ R ∧ R < 2097152 := by have := racc_lt t 2 2 (by omega) (by omega) (by omega); omega
        obtain ⟨hR0, hR1⟩ := hRb
        have HR := Lib.hid hR
        have hv : R = (64 : Int) * ((t[0].toNat : Int) % (32 : Int)) + (t[1].toNat : Int) % (64 : Int) := by rw [← hR]; simp only [racc, seedN, bt_get t 0 h0t, bt_get t 1 h1t]; simp
        rw [← hv]
        clear hv hR
        cases hm : mayI R with
        | true =>
          have hR2 : R ≤ 1114111 := by unfold mayI at hm; simp at hm; omega
          cases he : ((strOfNums (codedI R)).toList == (t.extract 0 2).toList) with
          | true =>
            have hhit : hitB t 2 = true := by unfold hitB; rw [HR.out, hm, he]; rfl
            have HH := Lib.hid hhit
            clear hhit
            go_region_with (first | (go_at_call 47; refine (may_yes R hR0 hm _).mono ?_; rintro e w' ⟨rfl, rfl⟩) | (go_at_call 48; refine (coded_in R hR0 hR2 _).mono ?_; rintro e w' ⟨rfl, hb2⟩))
            all_goals
              go_wp2
              go_ret2
              exact ⟨by rw [HST.out, HH.out]; simp only [if_true]; rw [HR.out]; rfl, hbw.drew.trans (hb2.mono hbw.size)⟩
          | false =>
            have hhit : hitB t 2 = false := by unfold hitB; rw [HR.out, hm, he]; rfl
            have HH := Lib.hid hhit
            clear hhit
            go_region_with (first | (go_at_call 47; refine (may_yes R hR0 hm _).mono ?_; rintro e w' ⟨rfl, rfl⟩) | (go_at_call 48; refine (coded_in R hR0 hR2 _).mono ?_; rintro e w' ⟨rfl, hb2⟩))
            all_goals
              go_wp2
              go_roundw
              case rel => exact ⟨2 + 1, by omega, by omega, by go_num, by rw [HST.out, HH.out]; rfl, hbw.drew.trans (hb2.mono hbw.size)⟩
              case measure => simp [intOf]
        | false =>
          have hhit : hitB t 2 = false := by unfold hitB; rw [HR.out, hm]; rfl
          have HH := Lib.hid hhit
          clear hhit
          go_quiet ((go_at_call 47; exact Calls.quiet_of_same ((may_no R hR0 hm _).mono fun e w' h => ⟨h.1, h.2.symm⟩)))
          all_goals
            go_wp2
            go_roundw
            case rel => exact ⟨2 + 1, by omega, by omega, by go_num, by rw [HST.out, HH.out]; rfl, below_drewN hbw _⟩
            case measure => simp [intOf]
      · have h0t : (0 : Nat) < t.size := by omega
        have b0 : (t[0].toNat : Int) < 256 := by have := t[0].toNat_lt; omega
        have h1t : (1 : Nat) < t.size := by omega
        have b1 : (t[1].toNat : Int) < 256 := by have := t[1].toNat_lt; omega
        have h2t : (2 : Nat) < t.size := by omega
        have b2 : (t[2].toNat : Int) < 256 := by have := t[2].toNat_lt; omega
        have hstep : begFrom t 4 1 = if hitB t 3 then (racc t 3 3, 3) else begFrom t 1 (3 + 1) := by
          rw [← HB.out]
          show begFrom t (1 + 1) 3 = _
          rw [begFrom_succ, if_pos hk]
        have HST := Lib.hid hstep
        clear hstep HB
        go_wp2
        refine wp_loop_rounds 3 ?_
        rw [rounds_succ]
        go_wp2
        rw [rounds_succ]
        go_wp2
        rw [rounds_succ]
        go_wp2
        obtain ⟨R, hR⟩ : ∃ R : Int, ((racc t 3 3 : Nat) : Int) = R := ⟨_, rfl⟩
        have hRb : 0 ≤ R ∧ R < 2097152 := by have := racc_lt t 3 3 (by omega) (by omega) (by omega); omega
        obtain ⟨hR0, hR1⟩ := hRb
        have HR := Lib.hid hR
        have hv : R = (64 : Int) * ((64 : Int) * ((t[0].toNat : Int) % (16 : Int)) + (t[1].toNat : Int) % (64 : Int)) + (t[2].toNat : Int) % (64 : Int) := by rw [← hR]; simp only [racc, seedN, bt_get t 0 h0t, bt_get t 1 h1t, bt_get t 2 h2t]; simp
        rw [← hv]
        clear hv hR
        cases hm : mayI R with
        | true =>
          have hR2 : R ≤ 1114111 := by unfold mayI at hm; simp at hm; omega
          cases he : ((strOfNums (codedI R)).toList == (t.extract 0 3).toList) with
          | true =>
            have hhit : hitB t 3 = true := by unfold hitB; rw [HR.out, hm, he]; rfl
            have HH := Lib.hid hhit
            clear hhit
            go_region_with (first | (go_at_call 47; refine (may_yes R hR0 hm _).mono ?_; rintro e w' ⟨rfl, rfl⟩) | (go_at_call 48; refine (coded_in R hR0 hR2 _).mono ?_; rintro e w' ⟨rfl, hb2⟩))
            all_goals
              go_wp2
              go_ret2
              exact ⟨by rw [HST.out, HH.out]; simp only [if_true]; rw [HR.out]; rfl, hbw.drew.trans (hb2.mono hbw.size)⟩
          | false =>
            have hhit : hitB t 3 = false := by unfold hitB; rw [HR.out, hm, he]; rfl
            have HH := Lib.hid hhit
            clear hhit
            go_region_with (first | (go_at_call 47; refine (may_yes R hR0 hm _).mono ?_; rintro e w' ⟨rfl, rfl⟩) | (go_at_call 48; refine (coded_in R hR0 hR2 _).mono ?_; rintro e w' ⟨rfl, hb2⟩))
            all_goals
              go_wp2
              go_roundw
              case rel => exact ⟨3 + 1, by omega, by omega, by go_num, by rw [HST.out, HH.out]; rfl, hbw.drew.trans (hb2.mono hbw.size)⟩
              case measure => simp [intOf]
        | false =>
          have hhit : hitB t 3 = false := by unfold hitB; rw [HR.out, hm]; rfl
          have HH := Lib.hid hhit
          clear hhit
          go_quiet ((go_at_call 47; exact Calls.quiet_of_same ((may_no R hR0 hm _).mono fun e w' h => ⟨h.1, h.2.symm⟩)))
          all_goals
            go_wp2
            go_roundw
            case rel => exact ⟨3 + 1, by omega, by omega, by go_num, by rw [HST.out, HH.out]; rfl, below_drewN hbw _⟩
            case measure => simp [intOf]
      · have h0t : (0 : Nat) < t.size := by omega
        have b0 : (t[0].toNat : Int) < 256 := by have := t[0].toNat_lt; omega
        have h1t : (1 : Nat) < t.size := by omega
        have b1 : (t[1].toNat : Int) < 256 := by have := t[1].toNat_lt; omega
        have h2t : (2 : Nat) < t.size := by omega
        have b2 : (t[2].toNat : Int) < 256 := by have := t[2].toNat_lt; omega
        have h3t : (3 : Nat) < t.size := by omega
        have b3 : (t[3].toNat : Int) < 256 := by have := t[3].toNat_lt; omega
        have hstep : begFrom t 4 1 = if hitB t 4 then (racc t 4 4, 4) else begFrom t 0 (4 + 1) := by
          rw [← HB.out]
          show begFrom t (0 + 1) 4 = _
          rw [begFrom_succ, if_pos hk]
        have HST := Lib.hid hstep
        clear hstep HB
        go_wp2
        refine wp_loop_rounds 4 ?_
        rw [rounds_succ]
        go_wp2
        rw [rounds_succ]
        go_wp2
        rw [rounds_succ]
        go_wp2
        rw [rounds_succ]
        go_wp2
        obtain ⟨R, hR⟩ : ∃ R : Int, ((racc t 4 4 : Nat) : Int) = R := ⟨_, rfl⟩
        have hRb : 0 ≤ R ∧ R < 2097152 := by have := racc_lt t 4 4 (by omega) (by omega) (by omega); omega
        obtain ⟨hR0, hR1⟩ := hRb
        have HR := Lib.hid hR
        have hv : R = (64 : Int) * ((64 : Int) * ((64 : Int) * ((t[0].toNat : Int) % (8 : Int)) + (t[1].toNat : Int) % (64 : Int)) + (t[2].toNat : Int) % (64 : Int)) + (t[3].toNat : Int) % (64 : Int) := by rw [← hR]; simp only [racc, seedN, bt_get t 0 h0t, bt_get t 1 h1t, bt_get t 2 h2t, bt_get t 3 h3t]; simp
        rw [← hv]
        clear hv hR
        cases hm : mayI R with
        | true =>
          have hR2 : R ≤ 1114111 := by unfold mayI at hm; simp at hm; omega
          cases he : ((strOfNums (codedI R)).toList == (t.extract 0 4).toList) with
          | true =>
            have hhit : hitB t 4 = true := by unfold hitB; rw [HR.out, hm, he]; rfl
            have HH := Lib.hid hhit
            clear hhit
            go_region_with (first | (go_at_call 47; refine (may_yes R hR0 hm _).mono ?_; rintro e w' ⟨rfl, rfl⟩) | (go_at_call 48; refine (coded_in R hR0 hR2 _).mono ?_; rintro e w' ⟨rfl, hb2⟩))
            all_goals
              go_wp2
              go_ret2
              exact ⟨by rw [HST.out, HH.out]; simp only [if_true]; rw [HR.out]; rfl, hbw.drew.trans (hb2.mono hbw.size)⟩
          | false =>
            have hhit : hitB t 4 = false := by unfold hitB; rw [HR.out, hm, he]; rfl
            have HH := Lib.hid hhit
            clear hhit
            go_region_with (first | (go_at_call 47; refine (may_yes R hR0 hm _).mono ?_; rintro e w' ⟨rfl, rfl⟩) | (go_at_call 48; refine (coded_in R hR0 hR2 _).mono ?_; rintro e w' ⟨rfl, hb2⟩))
            all_goals
              go_wp2
              go_roundw
              case rel => exact ⟨4 + 1, by omega, by omega, by go_num, by rw [HST.out, HH.out]; rfl, hbw.drew.trans (hb2.mono hbw.size)⟩
              case measure => simp [intOf]
        | false =>
          have hhit : hitB t 4 = false := by unfold hitB; rw [HR.out, hm]; rfl
          have HH := Lib.hid hhit
          clear hhit
          go_quiet ((go_at_call 47; exact Calls.quiet_of_same ((may_no R hR0 hm _).mono fun e w' h => ⟨h.1, h.2.symm⟩)))
          all_goals
            go_wp2
            go_roundw
            case rel => exact ⟨4 + 1, by omega, by omega, by go_num, by rw [HST.out, HH.out]; rfl, below_drewN hbw _⟩
            case measure => simp [intOf]
    · by_cases h4 : k ≤ 4
      · go_wp2
        go_ret2
        refine ⟨?_, hbw⟩
        rw [← HB.out]
        obtain ⟨f, hf⟩ : ∃ f, 5 - k = f + 1 := ⟨4 - k, by omega⟩
        rw [hf, begFrom, if_neg hk]
        rfl
      · obtain rfl : k = 5 := by omega
        go_wp2
        go_ret2
        refine ⟨?_, hbw⟩
        rw [← HB.out]; rfl
end Go.Proofs.YteegnmblbjcfpaaDoor.T
