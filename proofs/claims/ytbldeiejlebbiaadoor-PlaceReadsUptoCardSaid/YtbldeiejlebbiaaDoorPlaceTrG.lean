import Derived.Test.YtbldeiejlebbiaaDoorPlaceTrC
import Derived.Test.YtbldeiejlebbiaaDoorPlaceTrD

/-
  PLAIN: what is read as a short number was written as one; bounds.
-/
set_option linter.unusedVariables false
namespace Go.Proofs.YtbldeiejlebbiaaDoor.T
open Go Go.Lib Go.RowKit

theorem cs_back {l : List UInt8} {n : Nat} {r : ByteArray} (h : csN ⟨l.toArray⟩ = (n, r, true)) : n < 2097152 ∧ ∃ t : List UInt8, r = ⟨t.toArray⟩ ∧ l = shN n ++ t := by
  have hsz : ∀ l : List UInt8, (⟨l.toArray⟩ : ByteArray).size = l.length := fun l => rfl
  unfold csN at h
  rw [csF, hsz] at h
  split at h
  · rename_i h0
    obtain ⟨x0, t0, rfl⟩ : ∃ x t, l = x :: t := by cases l with
      | nil => simp at h0
      | cons x t => exact ⟨x, t, rfl⟩
    have b0 : bt ⟨(x0 :: t0).toArray⟩ 0 = x0.toNat := bt_list rfl
    have k0 : x0.toNat < 256 := x0.toNat_lt
    have u0 : UInt8.ofNat x0.toNat = x0 := UInt8.ofNat_toNat
    rw [b0] at h
    split at h
    · rename_i g0
      simp only [Nat.pow_zero, Nat.mul_one, Nat.zero_add, Prod.mk.injEq] at h
      obtain ⟨rfl, rfl, _⟩ := h
      refine ⟨by omega, t0, ext_list (x0 :: t0) 1, ?_⟩
      unfold shN
      rw [shF, if_neg (by omega), u0]
      rfl
    · rename_i g0
      rw [csF, hsz] at h
      split at h
      · rename_i h1
        obtain ⟨x1, t1, rfl⟩ : ∃ x t, t0 = x :: t := by cases t0 with
          | nil => simp at h1
          | cons x t => exact ⟨x, t, rfl⟩
        have b1 : bt ⟨(x0 :: x1 :: t1).toArray⟩ (0 + 1) = x1.toNat := bt_list rfl
        have k1 : x1.toNat < 256 := x1.toNat_lt
        have u1 : UInt8.ofNat x1.toNat = x1 := UInt8.ofNat_toNat
        rw [b1] at h
        split at h
        · rename_i g1
          simp only [Nat.pow_zero, Nat.mul_one, Nat.zero_add, Nat.pow_one, Prod.mk.injEq] at h
          obtain ⟨rfl, rfl, hz⟩ := h
          have hnz : x1.toNat ≠ 0 := fun e => by rw [e] at hz; simp at hz
          refine ⟨by omega, t1, ext_list (x0 :: x1 :: t1) 2, ?_⟩
          unfold shN
          rw [shF, if_pos (by omega), shF, if_neg (by omega), show (x0.toNat % 128 + x1.toNat * 128) % 128 + 128 = x0.toNat by omega, show (x0.toNat % 128 + x1.toNat * 128) / 128 = x1.toNat by omega, u0, u1]
          rfl
        · rename_i g1
          rw [csF, hsz] at h
          split at h
          · rename_i h2
            obtain ⟨x2, t2, rfl⟩ : ∃ x t, t1 = x :: t := by cases t1 with
              | nil => simp at h2
              | cons x t => exact ⟨x, t, rfl⟩
            have b2 : bt ⟨(x0 :: x1 :: x2 :: t2).toArray⟩ (0 + 1 + 1) = x2.toNat := bt_list rfl
            have k2 : x2.toNat < 256 := x2.toNat_lt
            have u2 : UInt8.ofNat x2.toNat = x2 := UInt8.ofNat_toNat
            rw [b2] at h
            split at h
            · rename_i g2
              simp only [Nat.pow_zero, Nat.mul_one, Nat.zero_add, Nat.pow_one, Prod.mk.injEq, Nat.reduceAdd, Nat.reducePow] at h
              obtain ⟨rfl, rfl, hz⟩ := h
              have hnz : x2.toNat ≠ 0 := fun e => by rw [e] at hz; simp at hz
              refine ⟨by omega, t2, ext_list (x0 :: x1 :: x2 :: t2) 3, ?_⟩
              unfold shN
              rw [shF, if_pos (by omega), shF, if_pos (by omega), shF, show (x0.toNat % 128 + x1.toNat % 128 * 128 + x2.toNat * 16384) % 128 + 128 = x0.toNat by omega,
                show (x0.toNat % 128 + x1.toNat % 128 * 128 + x2.toNat * 16384) / 128 % 128 + 128 = x1.toNat by omega, show (x0.toNat % 128 + x1.toNat % 128 * 128 + x2.toNat * 16384) / 128 / 128 = x2.toNat by omega, u0, u1, u2]
              rfl
            · rw [csF] at h; simp at h
          · simp at h
      · simp at h
  · simp at h
theorem ext_size (s : ByteArray) (p : Nat) : (s.extract p s.size).size ≤ s.size := by
  rw [ByteArray.size_extract]; omega
theorem csF_lt (s : ByteArray) : ∀ f i n, f + i = 3 → n < 128 ^ i → (csF s f i n).1 < 2097152 ∧ (csF s f i n).2.1.size ≤ s.size
  | 0, i, n, _, _ => ⟨by show 0 < 2097152; decide, Nat.zero_le _⟩
  | f + 1, i, n, hi, hn => by
    have hb := bt_lt s i
    have hp : 128 ^ (i + 1) = 128 ^ i * 128 := Nat.pow_succ ..
    have hle : 128 ^ (i + 1) ≤ 2097152 := by
      rcases (by omega : i = 0 ∨ i = 1 ∨ i = 2) with h | h | h <;> subst h <;> decide
    rw [csF]
    split
    · split
      · rename_i h1
        have : bt s i * 128 ^ i ≤ 127 * 128 ^ i := Nat.mul_le_mul_right _ (by omega)
        exact ⟨by show n + bt s i * 128 ^ i < 2097152; omega, ext_size s (i + 1)⟩
      · have h2 := Nat.mod_lt (bt s i) (show 0 < 128 by omega)
        have : bt s i % 128 * 128 ^ i ≤ 127 * 128 ^ i := Nat.mul_le_mul_right _ (by omega)
        exact csF_lt s f (i + 1) _ (by omega) (by omega)
    · exact ⟨by show 0 < 2097152; decide, Nat.zero_le _⟩
theorem csN_lt (s : ByteArray) : (csN s).1 < 2097152 ∧ (csN s).2.1.size ≤ s.size := csF_lt s 3 0 0 rfl (by decide)
end Go.Proofs.YtbldeiejlebbiaaDoor.T

/-
  PLAIN: a push that makes a node; a tree's bytes, one node more.
-/
set_option linter.unusedVariables false
namespace Go.Proofs.YtbldeiejlebbiaaDoor.T
open Go Go.Lib Go.RowKit

theorem pushF_new {ns : List Nd} (hw : Wf ns) (h4 : ns.length ≤ 4095) {k : Int} {x : Pl} (hc : (pushF ns k x).1 = 0) (hn : (pushF ns k x).2.1 = ns.length + 1) :
    ∃ q : Nd, (pushF ns k x).2.2 = ns ++ [q] ∧ q.x = x ∧ (q.p : Int) = k ∧ q.p ≤ ns.length ∧ mayB x = true ∧ Wf (ns ++ [q]) ∧ (ns ++ [q]).length ≤ 4095 := by
  obtain ⟨w1, _, _, w4⟩ := pushF_wf hw k x
  have w4 := w4 h4
  unfold pushF at hc hn w1 w4 ⊢
  split at hc
  · simp at hc
  · rename_i h1
    rw [if_neg h1] at hn w1 w4 ⊢
    split at hc
    · simp at hc
    · rename_i h2
      rw [if_neg h2] at hn w1 w4 ⊢
      split at hc
      · simp at hc
      · rename_i h3
        rw [if_neg h3] at hn w1 w4 ⊢
        have hb : hasB ns.length k = true := by simpa using h1
        unfold hasB at hb
        simp only [Bool.and_eq_true, decide_eq_true_eq] at hb
        cases hf : findS ns k.toNat x with
        | some i =>
          rw [hf] at hn
          have := (List.getElem?_eq_some_iff.1 (findS_some hf)).1
          simp only [List.length_map] at this
          simp only at hn
          omega
        | none =>
          rw [hf] at hn w1 w4 hc
          simp only at hn w1 w4 hc ⊢
          split at hc
          · simp at hc
          · rename_i h5
            rw [if_neg h5] at hn w1 w4 ⊢
            exact ⟨_, rfl, rfl, by show ((k.toNat : Nat) : Int) = k; omega, by show k.toNat ≤ _; omega, by simpa using h2, w1, w4⟩
theorem pushF_read {ns : List Nd} (hw : Wf ns) {k : Nat} {q : Nd} (hq : ns[k]? = some q) (hk : k < 4095) : pushF (ns.take k) (q.p : Int) q.x = (0, k + 1, ns.take (k + 1)) := by
  obtain ⟨a1, ⟨r, a2, a3⟩, a5, a6⟩ := hw.up k q hq
  have hkl : k < ns.length := (List.getElem?_eq_some_iff.1 hq).1
  have htl : (ns.take k).length = k := by rw [List.length_take]; omega
  have hr : nodeAt (ns.take k) q.p = some r := by rw [nodeAt_take a1]; exact a2
  have hd : depthOf (ns.take k) (q.p : Int) = r.d := depthOf_node hr
  have hb : hasB (ns.take k).length (q.p : Int) = true := by unfold hasB; rw [htl]; simp; omega
  have hf : findS (ns.take k) q.p q.x = none := by
    cases hf : findS (ns.take k) q.p q.x with
    | none => rfl
    | some i => exact (take_new hw hq (List.mem_of_getElem? (findS_some hf))).elim
  unfold pushF
  rw [hb, if_neg (by simp), if_neg (by simp [a6]), hd, if_neg (by omega), Int.toNat_natCast, hf, htl, List.take_add_one, hq]
  simp only
  rw [if_neg (by omega)]
  have : (⟨q.p, q.x, r.d + 1⟩ : Nd) = q := by cases q; simp only at a3; subst a3; rfl
  rw [this]
  rfl
theorem ndsB_snoc : ∀ (l : List Nd) (k : Nat) (q : Nd), ndsB k (l ++ [q]) = ndsB k l ++ ndB (k + l.length) q
  | [], k, q => by simp [ndsB]
  | a :: l, k, q => by
    have := ndsB_snoc l (k + 1) q
    simp only [List.cons_append, ndsB, this, List.append_assoc, List.length_cons]
    rw [show k + 1 + l.length = k + (l.length + 1) by omega]
end Go.Proofs.YtbldeiejlebbiaaDoor.T

/-
  errataref03.taken: the number with which a text seems to begin.
-/
set_option linter.unusedVariables false
namespace Go.Proofs.YtbldeiejlebbiaaDoor.T
open Go Go.Lib Go.RowKit

theorem w64_in (x : Int) (h0 : -9223372036854775808 ≤ x) (h1 : x ≤ 9223372036854775807) : wrap64 x = x := by unfold wrap64; omega
theorem w64_a (p : Nat) (h : p ≤ 16384) : wrap64 (128 * (p : Int)) = 128 * (p : Int) := w64_in _ (by omega) (by omega)
theorem w64_b (r p rp b : Nat) (hb : b % 128 = r) (hp : p ≤ 16384) (hr : r < 128) (h : r * p = rp) : wrap64 ((b : Int) % 128 * (p : Int)) = (rp : Int) := by
  have h1 : (b : Int) % 128 * (p : Int) = (rp : Int) := by
    rw [show (b : Int) % 128 = (r : Int) by omega, ← h]; exact (Int.natCast_mul r p).symm
  have h2 : r * p ≤ 127 * p := Nat.mul_le_mul_right _ (by omega)
  rw [h1, w64_in _ (by omega) (by omega)]
theorem w64_c (n rp : Nat) (h : n < 16384) (h2 : rp ≤ 2080768) : wrap64 ((n : Int) + (rp : Int)) = (n : Int) + (rp : Int) := w64_in _ (by omega) (by omega)
set_option maxRecDepth 100000 in
set_option maxHeartbeats 4000000 in
theorem taken_in (s : ByteArray) (hs : s.size ≤ 140737488351232) (w : World) :
    Calls Tryd.prog 60 #[.string s] w fun e w' => e = .returned (.tuple #[.int .i64 ((csN s).1 : Int), .string (csN s).2.1]) ∧ Below w.heap.size w w' := by
  have hR0 : csF s 3 0 0 = csN s := rfl
  generalize csN s = R at *
  have HR := Lib.hid hR0
  clear hR0
  go_enter Tryd.func60, Tryd.ntmps60
  go_wp2
  go_loopw [4, 5, 6] (fun u x i wr => ∃ (k n : Nat), i = .int .i64 (k : Int) ∧ u = .int .i64 (n : Int) ∧ x = .int .i64 ((128 ^ k : Nat) : Int) ∧ k ≤ 3 ∧ n < 128 ^ k ∧ csF s (3 - k) k n = R ∧ Below w.heap.size w wr)
    (fun _ _ i _ => 3 - (RowKit.intOf i).toNat)
  case atStart => exact ⟨0, 0, rfl, rfl, rfl, by omega, by omega, HR.out, Below.refl _ _⟩
  case round =>
    obtain ⟨k, n, rfl, rfl, rfl, hk, hn, hcs, hbw⟩ := hrel
    by_cases hgo : k < s.size ∧ k < 3
    · obtain ⟨hlt, hk3⟩ := hgo
      have hN : decide ((k : Int) < (s.size : Int)) = true := decide_eq_true (by omega)
      have hN2 : decide ((k : Int) < 3) = true := decide_eq_true (by omega)
      have hb0 : bt s k < 256 := bt_lt s k
      have hix := fun W => idx_bt s k (by omega) W
      have hcs2 : (if bt s k < 128 then (n + bt s k * 128 ^ k, s.extract (k + 1) s.size, !(decide (bt s k = 0) && decide (k > 0))) else csF s (3 - (k + 1)) (k + 1) (n + bt s k % 128 * 128 ^ k)) = R := by
        rw [← hcs, show 3 - k = (3 - (k + 1)) + 1 by omega, csF, if_pos hlt]
      clear hcs
      have hsl : ∀ W : World, (Instr.slice 9 (.string s) (some (.int .i64 ((k : Int) + 1))) none none).run Tryd.prog W = .ok (.string (s.extract (k + 1) s.size)) W := fun W => by
        rw [run_slice_string_from_if (P := Tryd.prog) W 9 s .i64 ((k : Int) + 1) Tryd.underlying9, if_pos (by omega), show ((k : Int) + 1).toNat = k + 1 by omega]
      generalize bt s k = b at *
      have hr : b % 128 < 128 := Nat.mod_lt _ (by omega)
      have hrb : b < 128 → b % 128 = b := fun h => Nat.mod_eq_of_lt h
      have HC := Lib.hid hcs2
      clear hcs2
      have hpk : 128 ^ k ≤ 16384 ∧ 128 ^ (k + 1) = 128 ^ k * 128 := ⟨by rcases (by omega : k = 0 ∨ k = 1 ∨ k = 2) with h | h | h <;> subst h <;> decide, Nat.pow_succ ..⟩
      have HPK := Lib.hid hpk
      generalize hp : 128 ^ k = p at *
      have hp16 : p ≤ 16384 := HPK.out.1
      clear hp hpk
      generalize hrr : b % 128 = r at *
      have hmul : r * p ≤ 127 * p := Nat.mul_le_mul_right _ (by omega)
      generalize hrp : r * p = rp at *
      have hw1 : wrap64 ((b : Int) % 128 * (p : Int)) = (rp : Int) := w64_b r p rp b hrr hp16 hr hrp
      have hw2 : wrap64 ((n : Int) + (rp : Int)) = (n : Int) + (rp : Int) := w64_c n rp (Nat.lt_of_lt_of_le hn hp16) (Nat.le_trans hmul (Nat.mul_le_mul_left 127 hp16))
      have hw3 : wrap64 (128 * (p : Int)) = 128 * (p : Int) := w64_a p hp16
      have hk1 : IntKind.i64.wrap ((k : Int) + 1) = (k : Int) + 1 := IntWalk.i64_in _ (by omega)
      by_cases hb : b < 128
      · have hL : decide ((b : Int) < 128) = true := decide_eq_true (by omega)
        have hRb : (n + rp, s.extract (k + 1) s.size, !(decide (b = 0) && decide (k > 0))) = R := by
          have := HC.out
          rw [if_pos hb] at this
          rw [← hrp, hrb hb]
          exact this
        have HRB := Lib.hid hRb
        clear hRb HC hrb hrr hrp hmul
        go_wp2
        go_region
        go_wp2
        go_ret2
        rw [← HRB.out]
        exact ⟨by go_num, hbw.drew⟩
      · have hL : decide ((b : Int) < 128) = false := decide_eq_false (by omega)
        have hRb : csF s (3 - (k + 1)) (k + 1) (n + rp) = R := by
          have := HC.out
          rw [if_neg hb] at this
          exact this
        have HRB := Lib.hid hRb
        clear hRb HC hrb hrr hrp
        go_wp2
        go_roundw
        case rel => exact ⟨k + 1, n + rp, by go_num, by go_num, by rw [HPK.out.2]; go_num, hk3, by rw [HPK.out.2]; omega, HRB.out, hbw⟩
        case measure => simp [RowKit.intOf]; omega
    · have hRe : R = (0, ⟨#[]⟩, false) := by
        rw [← hcs]
        rcases (by omega : ¬ k < s.size ∨ k = 3) with h | h
        · generalize 3 - k = f
          cases f with
          | zero => rfl
          | succ f => rw [csF, if_neg h]
        · rw [h]; rfl
      have hNN : (¬ k < s.size ∧ decide ((k : Int) < (s.size : Int)) = false) ∨ (k < s.size ∧ ¬ k < 3 ∧ decide ((k : Int) < (s.size : Int)) = true ∧ decide ((k : Int) < 3) = false) := by
        rcases Nat.lt_or_ge k s.size with h | h
        · exact .inr ⟨h, by omega, decide_eq_true (by omega), decide_eq_false (by omega)⟩
        · exact .inl ⟨by omega, decide_eq_false (by omega)⟩
      subst hRe
      clear hgo hcs
      rcases hNN with ⟨hM1, hN1⟩ | ⟨hM1, hM2, hN1, hN2⟩
      all_goals
        go_wp2
        go_ret2
        exact ⟨rfl, hbw⟩
end Go.Proofs.YtbldeiejlebbiaaDoor.T

/-
  place.readNode of any bytes.
-/
set_option linter.unusedVariables false
namespace Go.Proofs.YtbldeiejlebbiaaDoor.T
open Go Go.Lib Go.RowKit

def CutAny (l : List UInt8) (w : World) (e : Ending) (w' : World) : Prop :=
  ((∃ (n : Nat) (r : ByteArray), e = .returned (.tuple #[.int .i64 (n : Int), .string r, .bool false])) ∨ (∃ (n : Nat) (t : List UInt8), e = .returned (.tuple #[.int .i64 (n : Int), .string ⟨t.toArray⟩, .bool true]) ∧ n < 2097152 ∧ l = shN n ++ t)) ∧ Below w.heap.size w w'
theorem cutShort_any (l : List UInt8) (hl : l.length ≤ 268435456) (w : World) : Calls Tryd.prog 58 #[.string ⟨l.toArray⟩] w (CutAny l w) := by
  refine (cutShort_in ⟨l.toArray⟩ hl w).mono ?_
  rintro e w' ⟨rfl, hb⟩
  refine ⟨?_, hb⟩
  rcases hR : csN ⟨l.toArray⟩ with ⟨n, r, o⟩
  cases o with
  | false => exact .inl ⟨n, r, rfl⟩
  | true =>
    obtain ⟨h1, t, rfl, h2⟩ := cs_back hR
    exact .inr ⟨n, t, rfl, h1, h2⟩
def NodeAny (B T m : Nat) (ns : List Nd) (l : List UInt8) (w : World) (e : Ending) (w' : World) : Prop :=
  Below B w w' ∧ ((∃ r, e = .returned (.tuple #[.string r, .bool false])) ∨ ∃ q t v', e = .returned (.tuple #[.string ⟨t.toArray⟩, .bool true]) ∧ l = ndB (ns.length + 1) q ++ t ∧ Wf (ns ++ [q]) ∧ (ns ++ [q]).length ≤ 4095 ∧ TreeAt B w' T v' m (ns ++ [q]))
theorem ndB_of {ns : List Nd} {q : Nd} {n1 n3 : Nat} {l : List UInt8} {x : Pl} (hx : x = ⟨⟨l.toArray⟩, (n3 : Int)⟩) (hqx : q.x = x) (hp : (q.p : Int) = (ns.length : Int) + 1 - (n1 : Int)) : ndB (ns.length + 1) q = shN n1 ++ shN l.length ++ l ++ shN n3 := by
  unfold ndB
  rw [hqx, hx, show ns.length + 1 - q.p = n1 by omega]
  rfl
set_option maxRecDepth 100000 in
set_option maxHeartbeats 8000000 in
theorem readNode_any {B : Nat} {T : Nat} {v : Value} {m : Nat} {ns : List Nd} (l : List UInt8) (hl : l.length ≤ 268435456) (w : World) (h : TreeAt B w T v m ns) (hw : Wf ns) (h4 : ns.length ≤ 4095) :
    Calls Tryd.prog 59 #[.pointer (some ⟨T, 0, none⟩), .string ⟨l.toArray⟩] w (NodeAny B T m ns l w) := by
  have HW := Lib.hid hw
  have HT := Lib.hid h
  have hBw := h.base
  have C1 := Lib.hid (cutShort_any l hl w)
  clear h hw
  generalize hS0 : (⟨l.toArray⟩ : ByteArray) = S0 at *
  clear hS0
  go_enter Tryd.func59, Tryd.ntmps59
  go_wp2_with fail
  refine C1.out.mono ?_
  unfold CutAny
  rintro e w1 ⟨⟨n1, r1, rfl⟩ | ⟨n1, t1, rfl, hn1, rfl⟩, hb1⟩
  · go_wp2
    go_ret2
    exact ⟨hb1.mono hBw, .inl ⟨_, rfl⟩⟩
  have HT1 := Lib.hid (HT.out.below hb1)
  have HB1 := Lib.hid hb1
  rw [List.length_append] at hl
  have C2 := Lib.hid (cutShort_any t1 (by omega) w1)
  clear hb1 C1 HT
  generalize hS1 : (⟨t1.toArray⟩ : ByteArray) = S1 at *
  clear hS1
  go_wp2_with fail
  refine C2.out.mono ?_
  unfold CutAny
  rintro e w2 ⟨⟨n2, r2, rfl⟩ | ⟨n2, t2, rfl, hn2, rfl⟩, hb2⟩
  · go_wp2
    go_ret2
    exact ⟨(moreB HB1.out HB1.out.size hb2).mono hBw, .inl ⟨_, rfl⟩⟩
  have HT2 := Lib.hid (HT1.out.below hb2)
  have HB2 := Lib.hid (moreB HB1.out HB1.out.size hb2)
  have hsz2 : (⟨t2.toArray⟩ : ByteArray).size = t2.length := rfl
  rw [List.length_append] at hl
  clear hb2 C2 HT1 HB1
  by_cases hlong : t2.length < n2
  · have hN : decide ((n2 : Int) > ((⟨t2.toArray⟩ : ByteArray).size : Int)) = true := decide_eq_true (by rw [hsz2]; omega)
    generalize (⟨t2.toArray⟩ : ByteArray) = S2 at *
    go_wp2
    go_ret2
    exact ⟨HB2.out.mono hBw, .inl ⟨_, rfl⟩⟩
  have hN : decide ((n2 : Int) > ((⟨t2.toArray⟩ : ByteArray).size : Int)) = false := decide_eq_false (by rw [hsz2]; omega)
  have hN2 : ¬ (⟨t2.toArray⟩ : ByteArray).size < n2 := by rw [hsz2]; exact hlong
  have hsl1 : ∀ W : World, (Instr.slice 9 (.string ⟨t2.toArray⟩) none (some (.int .i64 (n2 : Int))) none).run Tryd.prog W = .ok (.string ⟨(t2.take n2).toArray⟩) W := fun W => by
    rw [run_slice_string_to_if (P := Tryd.prog) W 9 _ .i64 (n2 : Int) Tryd.underlying9, if_pos (by rw [hsz2]; omega), Int.toNat_natCast]
    have : (⟨t2.toArray⟩ : ByteArray).extract 0 n2 = ⟨(t2.take n2).toArray⟩ := by
      apply ByteArray.ext; apply Array.ext'; rw [ext_take', Nat.sub_zero, List.drop_zero]
    rw [this]
  have hsl2 : ∀ W : World, (Instr.slice 9 (.string ⟨t2.toArray⟩) (some (.int .i64 (n2 : Int))) none none).run Tryd.prog W = .ok (.string ⟨(t2.drop n2).toArray⟩) W := fun W => by
    rw [run_slice_string_from_if (P := Tryd.prog) W 9 _ .i64 (n2 : Int) Tryd.underlying9, if_pos (by rw [hsz2]; omega), Int.toNat_natCast, ext_list]
  have H1 := Lib.hid hsl1
  have H2 := Lib.hid hsl2
  have htl : (t2.take n2).length = n2 := by rw [List.length_take]; omega
  have htd : t2.take n2 ++ t2.drop n2 = t2 := List.take_append_drop _ _
  have hdl : (t2.drop n2).length ≤ 268435456 := by rw [List.length_drop]; omega
  clear hsl1 hsl2
  generalize hS2 : (⟨t2.toArray⟩ : ByteArray) = S2 at *
  clear hS2
  generalize t2.take n2 = ta at *
  generalize t2.drop n2 = tb at *
  have C3 := fun W => Lib.hid (cutShort_any tb hdl W)
  go_wp2_with fail
  have hsl1 := H1.out
  have hsl2 := H2.out
  go_region
  have hd : Below w2.heap.size w2 w2.drew := (Below.refl _ _).drew
  have HT3 := Lib.hid (HT2.out.below hd)
  have HB3 := Lib.hid (moreB HB2.out HB2.out.size hd)
  have C4 := C3 w2.drew
  clear hd C3 HT2 HB2 hsl1 hsl2 H1 H2 hN hN2 hsz2
  generalize w2.drew = w3 at *
  clear w2
  generalize hS3 : (⟨tb.toArray⟩ : ByteArray) = S3 at *
  clear hS3
  go_wp2_with fail
  refine C4.out.mono ?_
  unfold CutAny
  rintro e w4 ⟨⟨n3, r3, rfl⟩ | ⟨n3, t3, rfl, hn3, htb⟩, hb4⟩
  · go_wp2
    go_ret2
    exact ⟨(moreB HB3.out HB3.out.size hb4).mono hBw, .inl ⟨_, rfl⟩⟩
  have HT4 := Lib.hid (HT3.out.below hb4)
  have HB4 := Lib.hid ((moreB HB3.out HB3.out.size hb4).mono hBw)
  have C5 := Lib.hid (Len_in w4 HT4.out)
  have hts : (⟨ta.toArray⟩ : ByteArray).size = n2 := htl
  have C6 := Lib.hid (Push_any ((ns.length : Int) + 1 - (n1 : Int)) ⟨⟨ta.toArray⟩, (n3 : Int)⟩ (by rw [hts]; omega) w4 HT4.out HW.out h4)
  have hNew := pushF_new HW.out h4 (k := (ns.length : Int) + 1 - (n1 : Int)) (x := ⟨⟨ta.toArray⟩, (n3 : Int)⟩)
  unfold PushAPost at C6
  have HTB := Lib.hid htb
  have HTD := Lib.hid htd
  have HTL := Lib.hid htl
  clear hb4 C4 HT3 HB3 htb htd htl hts
  generalize pushF ns ((ns.length : Int) + 1 - (n1 : Int)) ⟨⟨ta.toArray⟩, (n3 : Int)⟩ = F at *
  have HNEW := Lib.hid hNew
  clear hNew
  have hla : (ns.length : Int) + 1 ≤ 4096 := by omega
  have HLL := Lib.hid (show (ns.length : Int) + 1 = (ns.length : Int) + 1 from rfl)
  go_wp2_with fail
  refine C5.out.mono ?_
  rintro e w5 ⟨rfl, rfl⟩
  go_wp2_with fail
  refine C6.out.mono ?_
  rintro e w6 ⟨rfl, v6, hT6, hk6, hb6⟩
  have HT6 := Lib.hid hT6
  have HB6 := Lib.hid (HB4.out.trans hb6)
  clear hT6 hk6 hb6 C5 C6 HT4 HB4
  by_cases hc : F.1 = 0
  · by_cases hn : F.2.1 = ns.length + 1
    · obtain ⟨q, hF, hqx, hqp, hqn, hm, hwf, h45⟩ := HNEW.out hc hn
      have hcc : ((F.1 : Int) == 0) = true := by rw [hc]; rfl
      have hnn : ((F.2.1 : Int) == (ns.length : Int) + 1) = true := by rw [hn]; simp
      rw [hF] at HT6
      have HX := Lib.hid (And.intro hqx (And.intro hqp (And.intro hwf h45)))
      have HE := Lib.hid (ndB_of (ns := ns) (q := q) (n1 := n1) (n3 := n3) (l := ta) rfl hqx hqp)
      clear hc hn hF hqx hqp hqn hm hwf h45 HNEW
      go_wp2
      go_ret2
      refine ⟨HB6.out, .inr ⟨q, t3, v6, rfl, ?_, HX.out.2.2.1, HX.out.2.2.2, HT6.out⟩⟩
      rw [HE.out, HTL.out, ← HTD.out, HTB.out]
      simp only [List.append_assoc]
    · have hcc : ((F.1 : Int) == 0) = true := by rw [hc]; rfl
      have hnn : ((F.2.1 : Int) == (ns.length : Int) + 1) = false := by
        rw [beq_eq_false_iff_ne]; omega
      clear hc hn HNEW
      go_wp2
      go_ret2
      exact ⟨HB6.out, .inl ⟨_, rfl⟩⟩
  · have hcc : ((F.1 : Int) == 0) = false := by
      rw [beq_eq_false_iff_ne]; omega
    clear hc HNEW
    go_wp2
    go_ret2
    exact ⟨HB6.out, .inl ⟨_, rfl⟩⟩
end Go.Proofs.YtbldeiejlebbiaaDoor.T

/-
  place.From of bytes that are no tree's.
-/
set_option linter.unusedVariables false
namespace Go.Proofs.YtbldeiejlebbiaaDoor.T
open Go Go.Lib Go.RowKit

def NoTree (l : List UInt8) : Prop := ∀ ns : List Nd, Wf ns → ns.length ≤ 4095 → l ≠ toldB ns
set_option maxRecDepth 100000 in
set_option maxHeartbeats 8000000 in
theorem From_no (l : List UInt8) (hl : l.length ≤ 268435456) (hno : NoTree l) (w : World) :
    Calls Tryd.prog 28 #[.string ⟨l.toArray⟩] w fun e w' => e = .returned (.tuple #[.pointer none, .int .i64 4]) ∧ Below w.heap.size w w' := by
  have HNO := Lib.hid hno
  have C1 := Lib.hid (cutShort_any l hl w)
  clear hno
  generalize hS0 : (⟨l.toArray⟩ : ByteArray) = S0 at *
  clear hS0
  go_enter Tryd.func28, Tryd.ntmps28
  go_wp2_with fail
  refine C1.out.mono ?_
  unfold CutAny
  rintro e w1 ⟨⟨n, r1, rfl⟩ | ⟨n, t1, rfl, hn1, hlt⟩, hb1⟩
  · go_wp2
    go_ret2
    exact ⟨rfl, hb1⟩
  have HB1 := Lib.hid hb1
  have HLT := Lib.hid hlt
  have hl1 : t1.length ≤ 268435456 := by rw [hlt, List.length_append] at hl; omega
  clear hb1 C1 hlt hl
  by_cases hbig : 4096 ≤ n
  · have hN : decide ((n : Int) ≥ 4096) = true := decide_eq_true (by omega)
    go_wp2
    go_ret2
    exact ⟨rfl, HB1.out⟩
  have hN : decide ((n : Int) ≥ 4096) = false := decide_eq_false (by omega)
  generalize hS1 : (⟨t1.toArray⟩ : ByteArray) = S1 at *
  have HS1 := Lib.hid hS1
  clear hS1
  go_wp2_with fail
  refine (New_in w1).mono ?_
  rintro e w2 ⟨T, v, m, rfl, hT2, hb2⟩
  have HT2 : Hid (TreeAt w.heap.size w2 T v m []) := Lib.hid (⟨hT2.blk, row_base hT2.row HB1.out.size, hT2.map, ⟨Nat.le_trans HB1.out.size hT2.lo.1, Nat.le_trans HB1.out.size hT2.lo.2⟩, hT2.ok, hT2.few⟩)
  have HB2 := Lib.hid (HB1.out.trans (hb2.mono HB1.out.size))
  clear hT2 hb2 HB1 hN
  go_wp2_with fail
  go_loopw [0, 5, 21] (fun u b i wr => ∃ (k : Nat) (ns : List Nd) (t : List UInt8) (v' : Value), i = .int .i64 (k : Int) ∧ b = .bool true ∧ u = .string ⟨t.toArray⟩ ∧ k ≤ n ∧ ns.length = k ∧ t.length ≤ 268435456 ∧ Wf ns ∧ l = shN n ++ (ndsB 1 ns ++ t) ∧ TreeAt w.heap.size wr T v' m ns ∧ Below w.heap.size w wr)
    (fun _ _ i _ => n - (RowKit.intOf i).toNat)
  case atStart => exact ⟨0, [], t1, v, rfl, rfl, by rw [HS1.out], Nat.zero_le _, rfl, hl1, Wf.nil, HLT.out, HT2.out, HB2.out⟩
  case round =>
    clear HT2 HB2
    obtain ⟨k, ns, t, v', rfl, rfl, rfl, hk, hkl, htl, hwf, hlt, htr, hbw⟩ := hrel
    have HT := Lib.hid htr
    have HB := Lib.hid hbw
    have HW := Lib.hid hwf
    have HL := Lib.hid hlt
    clear htr hbw hwf hlt
    by_cases hlt : k < n
    · have hN : decide ((k : Int) < (n : Int)) = true := decide_eq_true (by omega)
      have C := Lib.hid (readNode_any t htl wr HT.out HW.out (by omega))
      generalize (⟨t.toArray⟩ : ByteArray) = S at *
      go_wp2_with fail
      refine C.out.mono ?_
      unfold NodeAny
      rintro e w3 ⟨hb3, ⟨r, rfl⟩ | ⟨q, t3, v3, rfl, htq, hwq, h45, hT3⟩⟩
      · go_wp2
        go_ret2
        exact ⟨rfl, HB.out.trans hb3⟩
      have HT3 := Lib.hid hT3
      have HB3 := Lib.hid (HB.out.trans hb3)
      have HWQ := Lib.hid hwq
      have HTQ := Lib.hid htq
      have ht3 : t3.length ≤ 268435456 := by rw [htq, List.length_append] at htl; omega
      clear hT3 hb3 hwq htq C HT HB
      generalize hS3 : (⟨t3.toArray⟩ : ByteArray) = S3 at *
      have HS3 := Lib.hid hS3
      clear hS3
      go_wp2
      go_roundw
      case rel => exact ⟨k + 1, ns ++ [q], t3, v3, by go_num, rfl, by rw [HS3.out], hlt, by simp; omega, ht3, HWQ.out, by rw [HL.out, HTQ.out, ndsB_snoc, Nat.add_comm 1 ns.length]; simp only [List.append_assoc], HT3.out, HB3.out⟩
      case measure => simp [RowKit.intOf]; omega
    · have hkn : k = n := by omega
      subst hkn
      have hN : decide ((k : Int) < (k : Int)) = false := by simp
      have hne : t ≠ [] := fun e => by
        refine HNO.out ns HW.out (by omega) ?_
        rw [HL.out, e]
        unfold toldB
        rw [hkl, List.append_nil]
      have hemp : (⟨t.toArray⟩ : ByteArray).toList.isEmpty = false := by
        rw [Lib.toList_data]
        show t.isEmpty = false
        cases t with
        | nil => exact (hne rfl).elim
        | cons x t => rfl
      generalize (⟨t.toArray⟩ : ByteArray) = S at *
      go_wp2
      go_ret2
      exact ⟨rfl, HB.out⟩
end Go.Proofs.YtbldeiejlebbiaaDoor.T

/-
  PLAIN: what the document's From takes for a node; where it stands, where the bytes are a tree's.
-/
set_option linter.unusedVariables false
namespace Go.Proofs.YtbldeiejlebbiaaDoor.T
open Go Go.Lib Go.RowKit

/-- what the document's From takes for a node: how far back, the name, the line, the rest -/
def rdG (s : ByteArray) : Nat := Min.min (csN (csN s).2.1).1 (csN (csN s).2.1).2.1.size
def rdB (s : ByteArray) : ByteArray := (csN (csN s).2.1).2.1
def rdN (s : ByteArray) : ByteArray := (rdB s).extract 0 (rdG s)
def rdC (s : ByteArray) : Nat × ByteArray × Bool := csN ((rdB s).extract (rdG s) (rdB s).size)
theorem rd_bounds (s : ByteArray) : (csN s).1 < 2097152 ∧ (rdN s).size ≤ s.size ∧ (rdC s).1 < 2097152 ∧ (rdC s).2.1.size ≤ s.size ∧ rdG s ≤ (rdB s).size ∧ (rdB s).size ≤ s.size ∧ (csN s).2.1.size ≤ s.size ∧ ((rdB s).extract (rdG s) (rdB s).size).size ≤ s.size := by
  have h1 := csN_lt s
  have h7 : (rdB s).size ≤ (csN s).2.1.size := by unfold rdB; exact (csN_lt (csN s).2.1).2
  have h3 := csN_lt ((rdB s).extract (rdG s) (rdB s).size)
  have h3a : (rdC s).1 < 2097152 := by unfold rdC; exact h3.1
  have h3b : (rdC s).2.1.size ≤ ((rdB s).extract (rdG s) (rdB s).size).size := by unfold rdC; exact h3.2
  have h4 := ext_size (rdB s) (rdG s)
  have h5 : (rdN s).size ≤ (rdB s).size := by unfold rdN; rw [ByteArray.size_extract]; exact Nat.le_trans (Nat.sub_le _ _) (Nat.min_le_right _ _)
  have h6 : rdG s ≤ (rdB s).size := by unfold rdG rdB; exact Nat.min_le_right _ _
  have h8 := Nat.le_trans h7 h1.2
  have h9 := Nat.le_trans h4 h8
  have h10 := Nat.le_trans h5 h8
  have h11 := Nat.le_trans h3b h9
  clear h3 h3b h4 h5 h7
  generalize (rdB s).extract (rdG s) (rdB s).size = X at *
  generalize rdN s = Y at *
  generalize rdC s = Z at *
  generalize rdG s = G at *
  generalize rdB s = V at *
  generalize csN s = U at *
  exact ⟨h1.1, h10, h3a, h11, h6, h8, h1.2, h9⟩
theorem rd_node {k : Nat} {q : Nd} (hk : k < 4096) (hm : mayB q.x = true) (t : List UInt8) :
    (csN ⟨(ndB (k + 1) q ++ t).toArray⟩).1 = k + 1 - q.p ∧ rdN ⟨(ndB (k + 1) q ++ t).toArray⟩ = q.x.n ∧ ((rdC ⟨(ndB (k + 1) q ++ t).toArray⟩).1 : Int) = q.x.k ∧ (rdC ⟨(ndB (k + 1) q ++ t).toArray⟩).2.1 = ⟨t.toArray⟩ := by
  have hmb := mayB_bd hm
  have hnl : q.x.n.data.toList.length = q.x.n.size := rfl
  have hE : ndB (k + 1) q ++ t = shN (k + 1 - q.p) ++ (shN q.x.n.size ++ (q.x.n.data.toList ++ (shN q.x.k.toNat ++ t))) := by
    unfold ndB; simp only [List.append_assoc]
  have c1 := cs_read (k + 1 - q.p) (by omega) (shN q.x.n.size ++ (q.x.n.data.toList ++ (shN q.x.k.toNat ++ t)))
  have c2 := cs_read q.x.n.size (by omega) (q.x.n.data.toList ++ (shN q.x.k.toNat ++ t))
  have c3 := cs_read q.x.k.toNat (by omega) t
  have hS2 : (⟨(q.x.n.data.toList ++ (shN q.x.k.toNat ++ t)).toArray⟩ : ByteArray).size = q.x.n.size + (shN q.x.k.toNat ++ t).length := by
    show (q.x.n.data.toList ++ (shN q.x.k.toNat ++ t)).length = _
    rw [List.length_append, hnl]
  have hext1 : (⟨(q.x.n.data.toList ++ (shN q.x.k.toNat ++ t)).toArray⟩ : ByteArray).extract 0 q.x.n.size = q.x.n := by
    apply ByteArray.ext
    apply Array.ext'
    rw [ext_take', Nat.sub_zero, List.drop_zero, ← hnl]
    show List.take _ (q.x.n.data.toList ++ (shN q.x.k.toNat ++ t)) = _
    exact List.take_left
  have hext2 : (⟨(q.x.n.data.toList ++ (shN q.x.k.toNat ++ t)).toArray⟩ : ByteArray).extract q.x.n.size (⟨(q.x.n.data.toList ++ (shN q.x.k.toNat ++ t)).toArray⟩ : ByteArray).size = ⟨(shN q.x.k.toNat ++ t).toArray⟩ := by
    rw [ext_list, ← hnl, List.drop_left]
  have hB : rdB ⟨(ndB (k + 1) q ++ t).toArray⟩ = ⟨(q.x.n.data.toList ++ (shN q.x.k.toNat ++ t)).toArray⟩ := by
    unfold rdB; rw [hE, c1]; show (csN _).2.1 = _; rw [c2]
  have hG : rdG ⟨(ndB (k + 1) q ++ t).toArray⟩ = q.x.n.size := by
    unfold rdG; rw [hE, c1]; show Min.min (csN _).1 (csN _).2.1.size = _; rw [c2]
    show Min.min q.x.n.size (⟨(q.x.n.data.toList ++ (shN q.x.k.toNat ++ t)).toArray⟩ : ByteArray).size = _
    rw [hS2]; omega
  have hC : rdC ⟨(ndB (k + 1) q ++ t).toArray⟩ = (q.x.k.toNat, ⟨t.toArray⟩, true) := by
    unfold rdC; rw [hB, hG, hext2, c3]
  refine ⟨by rw [hE, c1], by unfold rdN; rw [hB, hG, hext1], by rw [hC]; show ((q.x.k.toNat : Nat) : Int) = _; omega, by rw [hC]⟩
/-- the document's From is on the way, where the bytes are a tree's -/
def OnWay (l : List UInt8) (n k : Nat) (ns : List Nd) (s : ByteArray) : Prop := ∀ ms : List Nd, Wf ms → ms.length ≤ 4095 → l = toldB ms → n = ms.length ∧ k ≤ ms.length ∧ ns = ms.take k ∧ s = ⟨(ndsB (k + 1) (ms.drop k)).toArray⟩
theorem OnWay.step {l : List UInt8} {n k : Nat} {ns : List Nd} {s : ByteArray} (h : OnWay l n k ns s) (hk : k < n) {ms : List Nd} (hw : Wf ms) (h4 : ms.length ≤ 4095) (hl : l = toldB ms) :
    pushF ns ((k : Int) + 1 - ((csN s).1 : Int)) ⟨rdN s, ((rdC s).1 : Int)⟩ = (0, k + 1, ms.take (k + 1)) ∧ (rdC s).2.1 = ⟨(ndsB (k + 1 + 1) (ms.drop (k + 1))).toArray⟩ := by
  obtain ⟨rfl, h1, rfl, rfl⟩ := h ms hw h4 hl
  have hq : ms[k]? = some (ms[k]'hk) := List.getElem?_eq_getElem hk
  have hdr : ms.drop k = ms[k]'hk :: ms.drop (k + 1) := List.drop_eq_getElem_cons hk
  generalize ms[k]'hk = q at *
  obtain ⟨a1, _, _, a6⟩ := hw.up k q hq
  rw [hdr, show ndsB (k + 1) (q :: ms.drop (k + 1)) = ndB (k + 1) q ++ ndsB (k + 1 + 1) (ms.drop (k + 1)) from rfl]
  obtain ⟨e1, e2, e3, e4⟩ := rd_node (k := k) (q := q) (by omega) a6 (ndsB (k + 1 + 1) (ms.drop (k + 1)))
  rw [e1, e2, e3, e4, show (k : Int) + 1 - ((k + 1 - q.p : Nat) : Int) = (q.p : Int) by omega]
  exact ⟨pushF_read hw hq (by omega), rfl⟩
theorem OnWay.stop {l : List UInt8} {n k : Nat} {ns : List Nd} {s : ByteArray} (h : OnWay l n k ns s) (hk : n ≤ k ∨ 4095 ≤ k ∨ s = ⟨#[]⟩) {ms : List Nd} (hw : Wf ms) (h4 : ms.length ≤ 4095) (hl : l = toldB ms) : ns = ms := by
  obtain ⟨rfl, h1, rfl, rfl⟩ := h ms hw h4 hl
  rcases Nat.lt_or_ge k ms.length with hlt | hge
  · exfalso
    rcases hk with hk | hk | hk
    · omega
    · omega
    · have hdr : ms.drop k = ms[k]'hlt :: ms.drop (k + 1) := List.drop_eq_getElem_cons hlt
      rw [hdr] at hk
      have := congrArg (fun b : ByteArray => b.data.toList) hk
      have h2 : ndsB (k + 1) (ms[k]'hlt :: ms.drop (k + 1)) = [] := this
      have h3 := congrArg List.length h2
      unfold ndsB ndB shN shF at h3
      simp only [List.length_append] at h3
      split at h3 <;> simp at h3
  · rw [List.take_of_length_le hge]
end Go.Proofs.YtbldeiejlebbiaaDoor.T
