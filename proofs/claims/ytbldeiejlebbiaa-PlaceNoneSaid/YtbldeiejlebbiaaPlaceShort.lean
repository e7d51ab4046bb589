/-
  place.appendShort: a number behind a row of bytes, seven bits a byte.
-/
import Derived.Lib.AppendStr
import Derived.Lib.UnsafeStr
import Derived.Lib.QuoteBits
import Derived.Laws.IdiomStrings
import Derived.Laws.BitsAllLaws
import Derived.Laws.Bits128
import Derived.Test.YtbldeiejlebbiaaPlaceCopies
set_option linter.unusedVariables false
namespace Go.Proofs.Ytbldeiejlebbiaa.T
open Go Go.Lib Go.RowKit

theorem infoByteS : (Try.prog.info? 5).map (fun i => (i.zero, i.size, i.bytes)) = some (some (.int .u8 0), 1, 1) := by kernel_rfl
/-- v is a slice of just these bytes, in memory from block B on -/
def BytesRow (B : Nat) (w : World) (v : Value) (l : List UInt8) : Prop := w.ownsRow B 5 1 v l.length (Go.Lib.byteCells l)
/-- a number as a short one, of up to f bytes and one more -/
def shF : Nat → Nat → List UInt8
  | 0, n => [UInt8.ofNat n]
  | f + 1, n => if n > 127 then UInt8.ofNat (n % 128 + 128) :: shF f (n / 128) else [UInt8.ofNat n]
def shN (n : Nat) : List UInt8 := shF 2 n
theorem shF_length : ∀ f n, (shF f n).length ≤ f + 1
  | 0, n => Nat.le_refl _
  | f + 1, n => by
    have := shF_length f (n / 128)
    unfold shF
    split
    · simp; omega
    · simp
/-- all but blocks of bytes lie as they lay -/
structure KeepB (w w' : World) : Prop where
  os : w'.os = w.os
  tape : w'.tape = w.tape
  output : w'.output = w.output
  size : w.heap.size ≤ w'.heap.size
  blk : ∀ (b : Nat) (o : Obj), w.heap[b]? = some o → (∀ cs fr, o ≠ .cells cs 5 fr) → w'.heap[b]? = some o
theorem KeepB.refl (w : World) : KeepB w w := ⟨rfl, rfl, rfl, Nat.le_refl _, fun _ _ h _ => h⟩
theorem KeepB.trans {a b c : World} (h : KeepB a b) (k : KeepB b c) : KeepB a c :=
  ⟨k.os.trans h.os, k.tape.trans h.tape, k.output.trans h.output, Nat.le_trans h.size k.size, fun i o hi h3 => k.blk i o (h.blk i o hi h3) h3⟩
theorem KeepB.of_below {w w' : World} (h : Below w.heap.size w w') : KeepB w w' :=
  ⟨h.os, h.tape, h.output, h.size, fun b o hb _ => (h.block b (Array.getElem?_eq_some_iff.1 hb).1).trans hb⟩
theorem KeepB.of_grown {B size n : Nat} {w w' : World} {v : Value} {xs : List Value} (hrow : w.ownsRow B 5 size v n xs) (hg : w.grownBy w' v.ownBlock) : KeepB w w' := by
  refine ⟨hg.os, hg.tape, hg.output, hg.size, fun b o hb hno => ?_⟩
  rw [hg.block b (Array.getElem?_eq_some_iff.1 hb).1 (fun e => ?_)]
  · exact hb
  · obtain ⟨hl, ⟨rfl, _⟩ | ⟨g, cap, cur, rfl, _, hcur, _⟩⟩ := hrow
    · cases e
    · cases e
      rw [hcur] at hb
      exact hno cur (0, 0) (Option.some.inj hb).symm
def ByPost (B : Nat) (w : World) (l : List UInt8) (e : Ending) (w' : World) : Prop := ∃ v', e = .returned v' ∧ BytesRow B w' v' l ∧ Below B w w' ∧ KeepB w w'
theorem cell1_new (W : World) (a : Value) (t : TypeId) : ∀ j u, [a][j]? = some u → (W.alloc (.cells #[a] t)).cell? ((⟨W.heap.size, 0, none⟩ : Addr).add j) = some u := by
  intro j u hj
  have : ((⟨W.heap.size, 0, none⟩ : Addr).add j) = ⟨W.heap.size, j, none⟩ := by unfold Addr.add; split <;> simp_all
  rw [this, World.cell?_alloc_at _ _ _ _ rfl]
  simpa using hj
theorem or128 (k : Nat) (hk : k < 128) : bits BinOp.or IntKind.u8 (k : Int) 128 = (k : Int) + 128 := by
  have h := u8_or_nat k 128 (by omega) (by omega)
  rw [show ((128 : Nat) : Int) = 128 from rfl] at h
  rw [h, Nat.or_comm, nat_join 7 128 k (by decide) (by omega), Nat.add_comm]; rfl
set_option maxRecDepth 100000 in
set_option maxHeartbeats 4000000 in
theorem appendShort_in (n : Nat) (hn : n < 2097152) (B : Nat) (v : Value) (l : List UInt8) (w : World) (h : BytesRow B w v l) (hB : B ≤ w.heap.size) (hl : l.length ≤ 268435456) :
    Calls Try.prog 19 #[v, .int .i64 (n : Int)] w (ByPost B w (l ++ shN n)) := by
  obtain ⟨i0, hi, hz0, hz1, hz2⟩ := info_parts infoByteS
  have hR0 : l ++ shF 2 n = l ++ shN n := rfl
  generalize l ++ shN n = R at *
  have HR := Lib.hid hR0
  clear hR0
  go_enter Try.func19, Try.ntmps19
  go_wp2
  go_loopw [0, 1] (fun u i wr => ∃ (f k : Nat) (acc : List UInt8), i = .int .i64 (k : Int) ∧ k < 128 ^ (f + 1) ∧ k < 2097152 ∧ acc.length ≤ l.length + 2 - f ∧ f ≤ 2 ∧ acc ++ shF f k = R ∧ BytesRow B wr u acc ∧ Below B w wr ∧ KeepB w wr)
    (fun _ i _ => (RowKit.intOf i).toNat)
  case atStart => exact ⟨2, n, l, rfl, by omega, hn, by omega, Nat.le_refl _, HR.out, h, Below.refl _ _, KeepB.refl _⟩
  case round =>
    obtain ⟨f, k, acc, rfl, hk, hk2, hal, hf, hacc, hrow, hbw, hkw⟩ := hrel
    have hszr := hbw.size
    have HA := Lib.hid hacc
    clear hacc
    by_cases hg : k > 127
    · obtain ⟨f, rfl⟩ : ∃ f', f = f' + 1 := by
        cases f with
        | zero => simp at hk; omega
        | succ f => exact ⟨f, rfl⟩
      have hkd : k / 128 < 128 ^ (f + 1) := by
        rw [Nat.div_lt_iff_lt_mul (by omega)]
        rw [Nat.pow_succ] at hk
        exact hk
      have hN : decide ((k : Int) > 127) = true := by simp; omega
      have hand : bits BinOp.and IntKind.i64 (k : Int) 127 = ((k % 128 : Nat) : Int) := by rw [i64_and127]; omega
      have hor := or128 (k % 128) (Nat.mod_lt _ (by omega))
      have hdv : ((k : Int) / 128) = ((k / 128 : Nat) : Int) := by omega
      have hmod : k % 128 < 128 := Nat.mod_lt _ (by omega)
      have hmk : k / 128 < k := Nat.div_lt_self (by omega) (by omega)
      have HK := Lib.hid hk
      have HD := Lib.hid hkd
      clear hk hkd
      generalize hdq : k / 128 = d at *
      generalize hmq : k % 128 = r at *
      have HDQ := Lib.hid hdq
      have HMQ := Lib.hid hmq
      clear hdq hmq
      go_wp2_with (at_builtin; refine wpList_append_own _ rfl _ _ 38 rfl B 5 i0 (.int .u8 0) 1 1 Try.underlying38 hi hz0 hz1 hz2 rfl (by decide) _ acc.length _ rfl (World.ownsRow.alloc hrow _) ⟨wr.heap.size, 0, none⟩ 1 1 [.int .u8 ((r : Int) + 128)] rfl rfl (cell1_new _ _ _) (by simp [Value.oneCell']) (by unfold maxLen; omega) (by omega) (by simp; omega) ?_; intro v' w2 hown' hgrow _; have hb3 := hbw.grown (grown_of_alloc' hgrow) (Nat.le_trans hB hszr) (fun j hj => (World.ownsRow.lt hrow j hj).1); have hk3 := hkw.trans (KeepB.of_grown hrow (grown_of_alloc' hgrow)))
      go_roundw
      case rel =>
        refine ⟨f, d, acc ++ [UInt8.ofNat (r + 128)], rfl, HD.out, by omega, by simp; omega, by omega, ?_, ?_, hb3, hk3⟩
        · rw [← HA.out]
          rw [shF, if_pos hg, HDQ.out, HMQ.out, List.append_assoc]; rfl
        · unfold BytesRow
          rw [List.length_append]
          have e : Go.Lib.byteCells (acc ++ [UInt8.ofNat (r + 128)]) = Go.Lib.byteCells acc ++ [.int .u8 ((r : Int) + 128)] := by
            simp [Go.Lib.byteCells, UInt8.toNat_ofNat']; omega
          rw [e]
          exact hown'
      case measure => simp [RowKit.intOf]; omega
    · have hN : decide ((k : Int) > 127) = false := by simp; omega
      have hsf : shF f k = [UInt8.ofNat k] := by
        cases f with
        | zero => rfl
        | succ f => unfold shF; rw [if_neg hg]
      go_wp2_with (at_builtin; refine wpList_append_own _ rfl _ _ 38 rfl B 5 i0 (.int .u8 0) 1 1 Try.underlying38 hi hz0 hz1 hz2 rfl (by decide) _ acc.length _ rfl (World.ownsRow.alloc hrow _) ⟨wr.heap.size, 0, none⟩ 1 1 [.int .u8 (k : Int)] rfl rfl (cell1_new _ _ _) (by simp [Value.oneCell']) (by unfold maxLen; omega) (by omega) (by simp; omega) ?_; intro v' w2 hown' hgrow _; have hb3 := hbw.grown (grown_of_alloc' hgrow) (Nat.le_trans hB hszr) (fun j hj => (World.ownsRow.lt hrow j hj).1); have hk3 := hkw.trans (KeepB.of_grown hrow (grown_of_alloc' hgrow)))
      go_ret
      refine ⟨v', rfl, ?_, hb3, hk3⟩
      rw [← HA.out, hsf]
      unfold BytesRow
      rw [List.length_append]
      have e : Go.Lib.byteCells (acc ++ [UInt8.ofNat k]) = Go.Lib.byteCells acc ++ [.int .u8 (k : Int)] := by
        simp [Go.Lib.byteCells, UInt8.toNat_ofNat']; omega
      rw [e]
      exact hown'
end Go.Proofs.Ytbldeiejlebbiaa.T
