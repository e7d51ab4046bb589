/-
  place.cutShort: the short number with which a text begins.
-/
import Derived.Test.YtbldeiejlebbiaaPlaceTold
set_option linter.unusedVariables false
namespace Go.Proofs.Ytbldeiejlebbiaa.T
open Go Go.Lib Go.RowKit

def csF (s : ByteArray) : Nat → Nat → Nat → Nat × ByteArray × Bool
  | 0, _, _ => (0, ⟨#[]⟩, false)
  | f + 1, i, n => if i < s.size then (if bt s i < 128 then (n + bt s i * 128 ^ i, s.extract (i + 1) s.size, !(decide (bt s i = 0) && decide (i > 0))) else csF s f (i + 1) (n + bt s i % 128 * 128 ^ i)) else (0, ⟨#[]⟩, false)
/-- the number, what is behind it, and is it one? -/
def csN (s : ByteArray) : Nat × ByteArray × Bool := csF s 3 0 0
theorem or_i64 (i a b : Nat) (ha : a < 2 ^ i) (hb : b % 2 ^ i = 0) (h : a + b < 9223372036854775807) : bits BinOp.or IntKind.i64 (a : Int) (b : Int) = ((a + b : Nat) : Int) := by
  show IntKind.i64.wrap ((BitVec.ofInt 64 (a : Int) ||| BitVec.ofInt 64 (b : Int)).toNat : Int) = _
  rw [BitVec.toNat_or, ofInt_u64 a (by omega), ofInt_u64 b (by omega), Nat.or_comm, nat_join i b a hb ha, Nat.add_comm]
  exact wrap_i64_small _ (by omega)
set_option maxRecDepth 100000 in
set_option maxHeartbeats 4000000 in
theorem cutShort_in (s : ByteArray) (hs : s.size ≤ 268435456) (w : World) :
    Calls Try.prog 20 #[.string s] w fun e w' => e = .returned (.tuple #[.int .i64 ((csN s).1 : Int), .string (csN s).2.1, .bool (csN s).2.2]) ∧ Below w.heap.size w w' := by
  have hR0 : csF s 3 0 0 = csN s := rfl
  generalize csN s = R at *
  have HR := Lib.hid hR0
  clear hR0
  obtain ⟨M, hM⟩ : ∃ M : Nat, M = Min.min s.size 3 := ⟨_, rfl⟩
  have hM1 : M ≤ s.size := by omega
  have hM2 : M ≤ 3 := by omega
  have hmin : Min.min s.size 3 = M := hM.symm
  have hM3 : M = s.size ∨ M = 3 := by omega
  clear hM
  go_enter Try.func20, Try.ntmps20
  go_wp2
  go_loopw [2, 11] (fun u i wr => ∃ (k n : Nat), i = .int .i64 (k : Int) ∧ u = .int .i64 (n : Int) ∧ k ≤ M ∧ n < 128 ^ k ∧ csF s (3 - k) k n = R ∧ Below w.heap.size w wr)
    (fun _ i _ => M - (RowKit.intOf i).toNat)
  case atStart => exact ⟨0, 0, rfl, rfl, Nat.zero_le _, by omega, HR.out, Below.refl _ _⟩
  case round =>
    obtain ⟨k, n, rfl, rfl, hk, hn, hcs, hbw⟩ := hrel
    by_cases hlt : k < M
    · have hb0 : bt s k < 256 := bt_lt s k
      have hix := fun W => idx_bt s k (by omega) W
      have hN : decide ((k : Int) < (M : Int)) = true := by simp; omega
      have hcs2 : (if bt s k < 128 then (n + bt s k * 128 ^ k, s.extract (k + 1) s.size, !(decide (bt s k = 0) && decide (k > 0))) else csF s (3 - (k + 1)) (k + 1) (n + bt s k % 128 * 128 ^ k)) = R := by
        rw [← hcs, show 3 - k = (3 - (k + 1)) + 1 by omega, csF, if_pos (show k < s.size by omega)]
      clear hcs
      have hsl : ∀ W : World, (Instr.slice 9 (.string s) (some (.int .i64 ((k : Int) + 1))) none none).run Try.prog W = .ok (.string (s.extract (k + 1) s.size)) W := fun W => by
        rw [run_slice_string_from_if (P := Try.prog) W 9 s .i64 ((k : Int) + 1) Try.underlying9, if_pos (by omega), show ((k : Int) + 1).toNat = k + 1 by omega]
      generalize bt s k = b at *
      have hand : bits BinOp.and IntKind.i64 (b : Int) 127 = ((b % 128 : Nat) : Int) := by rw [i64_and127]; omega
      have hr : b % 128 < 128 := Nat.mod_lt _ (by omega)
      have hrb : b < 128 → b % 128 = b := fun h => Nat.mod_eq_of_lt h
      generalize hrr : b % 128 = r at *
      have HRR := Lib.hid hrr
      clear hrr
      have HC := Lib.hid hcs2
      clear hcs2
      have hk3 : k < 3 := by omega
      rcases (by omega : k = 0 ∨ k = 1 ∨ k = 2) with h | h | h
      · subst h
        have hix1 : ∀ W : World, (Instr.index 9 (.string s) (.int .i64 0)).run Try.prog W = .ok (.int .u8 (b : Int)) W := hix
        have hsl1 : ∀ W : World, (Instr.slice 9 (.string s) (some (.int .i64 1)) none none).run Try.prog W = .ok (.string (s.extract 1 s.size)) W := hsl
        have hN1 : decide ((0 : Int) < (M : Int)) = true := hN
        have hnb : n < 1 := hn
        have hP : (128 : Nat) ^ 0 = 1 := rfl
        have hn0 : n = 0 := by omega
        subst hn0
        have hor : bits BinOp.or IntKind.i64 0 (r : Int) = ((r : Nat) : Int) := by
          have := or_i64 0 0 r (by omega) (by omega) (by omega)
          rw [Nat.zero_add] at this
          exact this
        clear hix hsl hN hn
        by_cases hb : b < 128
        · have hL : decide ((b : Int) < 128) = true := by simp; omega
          have hRb : (0 + b * 1, s.extract 1 s.size, !(decide (b = 0) && decide (0 > 0))) = R := by have := HC.out; rwa [if_pos hb] at this
          have hrb' := hrb hb
          clear HC HRR hrb
          subst hrb'
          subst hRb
          by_cases hz : r = 0
          · have hz1 : ((r : Int) == 0) = true := by simp; omega
            go_wp2
            go_region
            go_wp2
            go_ret3
            refine ⟨?_, hbw.drew⟩
            simp
            rw [i64_and127, show wrap64 ((0 : Int) % 128) = 0 from by unfold wrap64; omega]; exact or_i64 0 0 0 (by omega) (by omega) (by omega)
          · have hz1 : ((r : Int) == 0) = false := by simp; omega
            go_wp2
            go_region
            go_wp2
            go_ret3
            exact ⟨by simp, hbw.drew⟩
        · have hL : decide ((b : Int) < 128) = false := by simp; omega
          have hRb : csF s (3 - (0 + 1)) (0 + 1) (0 + r * 1) = R := by have := HC.out; rwa [if_neg hb] at this
          clear HC
          have HB := Lib.hid hRb
          clear hRb
          go_wp2
          go_roundw
          case rel => exact ⟨1, 0 + r * 1, rfl, by first | rfl | go_num, by omega, by omega, HB.out, hbw⟩
          case measure => simp [RowKit.intOf]; omega
      · subst h
        have hix1 : ∀ W : World, (Instr.index 9 (.string s) (.int .i64 1)).run Try.prog W = .ok (.int .u8 (b : Int)) W := hix
        have hsl1 : ∀ W : World, (Instr.slice 9 (.string s) (some (.int .i64 2)) none none).run Try.prog W = .ok (.string (s.extract 2 s.size)) W := hsl
        have hN1 : decide ((1 : Int) < (M : Int)) = true := hN
        have hnb : n < 128 := hn
        have hP : (128 : Nat) ^ 1 = 128 := rfl
        have hor : bits BinOp.or IntKind.i64 (n : Int) ((r : Int) * 128) = ((n + r * 128 : Nat) : Int) := by
          have := or_i64 7 n (r * 128) (by omega) (by omega) (by omega)
          rwa [show ((r * 128 : Nat) : Int) = (r : Int) * 128 by omega] at this
        clear hix hsl hN hn
        by_cases hb : b < 128
        · have hL : decide ((b : Int) < 128) = true := by simp; omega
          have hRb : (n + b * 128, s.extract 2 s.size, !(decide (b = 0) && decide (1 > 0))) = R := by have := HC.out; rwa [if_pos hb] at this
          have hrb' := hrb hb
          clear HC HRR hrb
          subst hrb'
          subst hRb
          by_cases hz : r = 0
          · have hz1 : ((r : Int) == 0) = true := by simp; omega
            go_wp2
            go_region
            go_wp2
            go_ret3
            refine ⟨?_, hbw.drew⟩
            simp
            rw [i64_and127, show wrap64 ((0 : Int) % 128 * 128) = 0 from by unfold wrap64; omega]; exact or_i64 7 n 0 (by omega) (by omega) (by omega)
          · have hz1 : ((r : Int) == 0) = false := by simp; omega
            go_wp2
            go_region
            go_wp2
            go_ret3
            exact ⟨by simp, hbw.drew⟩
        · have hL : decide ((b : Int) < 128) = false := by simp; omega
          have hRb : csF s (3 - (1 + 1)) (1 + 1) (n + r * 128) = R := by have := HC.out; rwa [if_neg hb] at this
          clear HC
          have HB := Lib.hid hRb
          clear hRb
          go_wp2
          go_roundw
          case rel => exact ⟨2, n + r * 128, rfl, by first | rfl | go_num, by omega, by omega, HB.out, hbw⟩
          case measure => simp [RowKit.intOf]; omega
      · subst h
        have hix1 : ∀ W : World, (Instr.index 9 (.string s) (.int .i64 2)).run Try.prog W = .ok (.int .u8 (b : Int)) W := hix
        have hsl1 : ∀ W : World, (Instr.slice 9 (.string s) (some (.int .i64 3)) none none).run Try.prog W = .ok (.string (s.extract 3 s.size)) W := hsl
        have hN1 : decide ((2 : Int) < (M : Int)) = true := hN
        have hnb : n < 16384 := hn
        have hP : (128 : Nat) ^ 2 = 16384 := rfl
        have hor : bits BinOp.or IntKind.i64 (n : Int) ((r : Int) * 16384) = ((n + r * 16384 : Nat) : Int) := by
          have := or_i64 14 n (r * 16384) (by omega) (by omega) (by omega)
          rwa [show ((r * 16384 : Nat) : Int) = (r : Int) * 16384 by omega] at this
        clear hix hsl hN hn
        by_cases hb : b < 128
        · have hL : decide ((b : Int) < 128) = true := by simp; omega
          have hRb : (n + b * 16384, s.extract 3 s.size, !(decide (b = 0) && decide (2 > 0))) = R := by have := HC.out; rwa [if_pos hb] at this
          have hrb' := hrb hb
          clear HC HRR hrb
          subst hrb'
          subst hRb
          by_cases hz : r = 0
          · have hz1 : ((r : Int) == 0) = true := by simp; omega
            go_wp2
            go_region
            go_wp2
            go_ret3
            refine ⟨?_, hbw.drew⟩
            simp
            rw [i64_and127, show wrap64 ((0 : Int) % 128 * 16384) = 0 from by unfold wrap64; omega]; exact or_i64 14 n 0 (by omega) (by omega) (by omega)
          · have hz1 : ((r : Int) == 0) = false := by simp; omega
            go_wp2
            go_region
            go_wp2
            go_ret3
            exact ⟨by simp, hbw.drew⟩
        · have hL : decide ((b : Int) < 128) = false := by simp; omega
          have hRb : csF s (3 - (2 + 1)) (2 + 1) (n + r * 16384) = R := by have := HC.out; rwa [if_neg hb] at this
          clear HC
          have HB := Lib.hid hRb
          clear hRb
          go_wp2
          go_roundw
          case rel => exact ⟨3, n + r * 16384, rfl, by first | rfl | go_num, by omega, by omega, HB.out, hbw⟩
          case measure => simp [RowKit.intOf]; omega
    · have hkM : k = M := by omega
      subst hkM
      have hN : decide ((k : Int) < (k : Int)) = false := by simp
      have hRe : R = (0, ⟨#[]⟩, false) := by
        rw [← hcs]
        rcases hM3 with h | h
        · generalize 3 - k = f
          cases f with
          | zero => rfl
          | succ f => rw [csF, if_neg (by omega)]
        · rw [h]; rfl
      subst hRe
      go_wp2
      go_ret3
      exact ⟨rfl, hbw⟩
end Go.Proofs.Ytbldeiejlebbiaa.T
