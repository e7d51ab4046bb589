import Derived.Test.YtbldeiejlebbiaaDoorPlaceTrE
import Derived.Deep.RegionHeld3
import Derived.Test.YtbldeiejlebbiaaDoorPlaceLent

/-
  Stack and Meet of both trees, whatever they are asked.
-/
set_option linter.unusedVariables false
namespace Go.Proofs.YtbldeiejlebbiaaDoor.T
open Go Go.Lib Go.RowKit

def stackF (ns : List Nd) (k : Int) : List Pl := if hasB ns.length k then path ns k.toNat else []
def askC (b : Bool) : Nat := if b then 0 else 1
def meetFF (ns : List Nd) (a b : Int) : Nat := if hasB ns.length a && hasB ns.length b then meetN ns a.toNat b.toNat else 0
def StackAPost (e0 : TypeId) (ns : List Nd) (k : Int) (w : World) (e : Ending) (w' : World) : Prop :=
  ∃ v, e = .returned (.tuple #[v, .int .i64 ((askC (hasB ns.length k) : Nat) : Int)]) ∧ PRow e0 w.heap.size w' v (stackF ns k) ∧ Below w.heap.size w w'
theorem Stack_any {B : Nat} {T : Nat} {v : Value} {m : Nat} {ns : List Nd} (k : Int) (w : World) (h : TreeAt B w T v m ns) (hw : Wf ns) :
    Calls Tryd.prog 36 #[.pointer (some ⟨T, 0, none⟩), .int .i64 k] w (StackAPost 39 ns k w) := by
  unfold StackAPost stackF
  cases hb : hasB ns.length k with
  | true =>
    obtain ⟨j, q, rfl, hq⟩ := nodeAt_has hb
    refine (Stack_in j q w h hw hq).mono ?_
    rintro e w' ⟨u, rfl, h1, h2⟩
    exact ⟨u, rfl, by simpa using h1, h2⟩
  | false =>
    have cH := has_in k w h
    rw [hb] at cH
    go_enter Tryd.func36, Tryd.ntmps36
    go_wp2_with (go_at_call 69; refine cH.mono ?_; rintro e w' ⟨rfl, rfl⟩)
    go_ret2
    exact ⟨_, rfl, by simpa using PRow.nil _ _ _, Below.refl _ _⟩
theorem RStack_any {B : Nat} {R : Nat} {v : Value} {ns : List Nd} (k : Int) (w : World) (h : RefAt B w R v ns) (hw : Wf ns) :
    Calls Tryd.prog 54 #[.pointer (some ⟨R, 0, none⟩), .int .i64 k] w (StackAPost 96 ns k w) := by
  unfold StackAPost stackF
  cases hb : hasB ns.length k with
  | true =>
    obtain ⟨j, q, rfl, hq⟩ := nodeAt_has hb
    refine (RStack_in j q w h hw hq).mono ?_
    rintro e w' ⟨u, rfl, h1, h2⟩
    exact ⟨u, rfl, by simpa using h1, h2⟩
  | false =>
    have cH := there_in k w h
    rw [hb] at cH
    go_enter Tryd.func54, Tryd.ntmps54
    go_wp2_with (go_at_call 74; refine cH.mono ?_; rintro e w' ⟨rfl, hd⟩)
    go_ret2
    exact ⟨_, rfl, by simpa using PRow.nil _ _ _, hd.below _⟩
def MeetAPost (ns : List Nd) (a b : Int) (w : World) (e : Ending) (w' : World) : Prop :=
  e = .returned (.tuple #[.int .i64 ((meetFF ns a b : Nat) : Int), .int .i64 ((askC (hasB ns.length a && hasB ns.length b) : Nat) : Int)]) ∧ Below w.heap.size w w'
theorem Meet_any {B : Nat} {T : Nat} {v : Value} {m : Nat} {ns : List Nd} (a b : Int) (w : World) (h : TreeAt B w T v m ns) (hw : Wf ns) :
    Calls Tryd.prog 37 #[.pointer (some ⟨T, 0, none⟩), .int .i64 a, .int .i64 b] w (MeetAPost ns a b w) := by
  unfold MeetAPost meetFF
  cases ha : hasB ns.length a with
  | true =>
    cases hb : hasB ns.length b with
    | true =>
      obtain ⟨i, rfl, hi⟩ := hasB_nat ha
      obtain ⟨j, rfl, hj⟩ := hasB_nat hb
      refine (Meet_in i j w h hw (by omega) (by omega)).mono ?_
      rintro e w' ⟨rfl, rfl⟩
      exact ⟨by simp [askC], Below.refl _ _⟩
    | false =>
      have cA := has_in a w h
      have cB := has_in b w h
      rw [ha] at cA
      rw [hb] at cB
      go_enter Tryd.func37, Tryd.ntmps37
      go_wp2_with fail
      refine cA.mono ?_
      rintro e w' ⟨rfl, rfl⟩
      go_wp2_with fail
      refine cB.mono ?_
      rintro e w' ⟨rfl, rfl⟩
      go_wp2
      go_ret2
      exact ⟨rfl, Below.refl _ _⟩
  | false =>
    have cA := has_in a w h
    rw [ha] at cA
    go_enter Tryd.func37, Tryd.ntmps37
    go_wp2_with fail
    refine cA.mono ?_
    rintro e w' ⟨rfl, rfl⟩
    go_wp2
    go_ret2
    exact ⟨rfl, Below.refl _ _⟩
theorem parentOf_node {ns : List Nd} {j : Nat} {q : Nd} (hq : ns[j]? = some q) : parentOf ns ((j + 1 : Nat) : Int) = (q.p, true) := by
  have hl : j < ns.length := (List.getElem?_eq_some_iff.1 hq).1
  have hb : hasB ns.length ((j + 1 : Nat) : Int) = true := hasB_true (by omega)
  have hk : ((((j + 1 : Nat) : Int)) != 0) = true := by simp; omega
  unfold parentOf
  rw [hb, hk, Int.toNat_natCast, List.getElem?_cons_succ, hq]
  rfl
set_option maxRecDepth 100000 in
set_option maxHeartbeats 4000000 in
theorem RMeet_any {B : Nat} {R : Nat} {v : Value} {ns : List Nd} (a b : Int) (w : World) (h : RefAt B w R v ns) (hw : Wf ns) :
    Calls Tryd.prog 51 #[.pointer (some ⟨R, 0, none⟩), .int .i64 a, .int .i64 b] w (MeetAPost ns a b w) := by
  have cA := RStack_any a w h hw
  unfold StackAPost at cA
  have H := Lib.hid h
  have HW := Lib.hid hw
  clear h hw
  cases ha : hasB ns.length a with
  | false =>
    unfold MeetAPost meetFF
    rw [ha] at cA ⊢
    go_enter Tryd.func51, Tryd.ntmps51
    go_wp2_with fail
    refine cA.mono ?_
    rintro e w1 ⟨u, rfl, h1, h2⟩
    have hN : (((askC false : Nat) : Int) != 0) = true := rfl
    go_wp2
    go_ret2
    exact ⟨rfl, h2⟩
  | true =>
    rw [ha] at cA
    go_enter Tryd.func51, Tryd.ntmps51
    go_wp2_with fail
    refine cA.mono ?_
    rintro e w1 ⟨u, rfl, h1, h2⟩
    have HR1 := Lib.hid (H.out.below h2)
    have HX1 := Lib.hid h1
    have HB1 := Lib.hid h2
    have cB := RStack_any b w1 HR1.out HW.out
    unfold StackAPost at cB
    have hN0 : (((askC true : Nat) : Int) != 0) = false := rfl
    clear h1 h2 cA
    cases hb : hasB ns.length b with
    | false =>
      rw [hb] at cB
      go_wp2_with fail
      refine cB.mono ?_
      rintro e w2 ⟨u2, rfl, h1, h2⟩
      have hN : (((askC false : Nat) : Int) != 0) = true := rfl
      have hbl := moreB HB1.out HB1.out.size h2
      go_wp2
      go_ret2
      unfold MeetAPost meetFF
      rw [ha, hb]
      exact ⟨rfl, hbl⟩
    | true =>
      rw [hb] at cB
      obtain ⟨i, q, rfl, hi⟩ := nodeAt_has ha
      obtain ⟨j, q', rfl, hj⟩ := nodeAt_has hb
      have hsa : stackF ns (i : Int) = path ns i := by unfold stackF; rw [ha]; simp
      have hsb : stackF ns (j : Int) = path ns j := by unfold stackF; rw [hb]; simp
      have hmf : meetFF ns (i : Int) (j : Int) = meetN ns i j := by unfold meetFF; rw [ha, hb]; simp
      obtain ⟨e1, s, e2⟩ := meetF_path HW.out (i + j) i j q q' (Nat.le_refl _) hi hj
      have hpl : (path ns i).length ≤ 64 := by
        rw [path_depth HW.out i i q (Nat.le_refl _) hi]
        cases i with
        | zero => cases hi; exact Nat.zero_le _
        | succ n => exact (HW.out.up n q hi).2.2.1
      have hcl := comM_le (path ns i) (path ns j)
      rw [hsb] at cB
      rw [hsa] at HX1
      go_wp2_with fail
      refine cB.mono ?_
      rintro e w2 ⟨u2, rfl, h1, h2⟩
      have HX2 := Lib.hid (HX1.out.below h2)
      have HY2 := Lib.hid h1
      have HR2 := Lib.hid (HR1.out.below h2)
      have HB2 := Lib.hid (moreB HB1.out HB1.out.size h2)
      obtain ⟨xa, xc, rfl⟩ := HX2.out.isSl
      obtain ⟨ya, yc, rfl⟩ := HY2.out.isSl
      have cC := comQ_in (path ns i) (path ns j) w2.heap.size _ _ w2 HX2.out.sl HY2.out.sl
      clear cB h1 h2 HX1 HR1 HB1
      generalize hcom : com (path ns i) (path ns j) = C at *
      have HE1 := Lib.hid e1
      have HE2 := Lib.hid e2
      have HI := Lib.hid hi
      generalize hlen : (path ns i).length = L at *
      have HLEN := Lib.hid hlen
      clear hcom e1 e2 hi hj hlen hsa hsb
      go_wp2_with fail
      refine cC.mono ?_
      rintro e w3 ⟨rfl, hd⟩
      have HR3 := Lib.hid (HR2.out.below (hd.below w2.heap.size))
      have HB3 := Lib.hid (moreB HB2.out HB2.out.size (hd.below w2.heap.size))
      have hLC : (L : Int) - (C : Int) = ((L - C : Nat) : Int) := by omega
      clear hd cC HX2 HY2 HR2 HB2
      go_wp2_with fail
      go_loopw [1, 11] (fun x y wr => ∃ (n k : Nat) (r : Nd), x = .int .i64 (n : Int) ∧ y = .int .i64 (k : Int) ∧ nodeAt ns n = some r ∧ k ≤ (path ns n).length ∧ k ≤ 64 ∧ (path ns n).take ((path ns n).length - k) = (path ns i).take C ∧ Dr w3 wr) (fun _ y _ => (RowKit.intOf y).toNat)
      case atStart => exact ⟨i, L - C, q, rfl, by rw [← hLC], HI.out, by rw [HLEN.out]; omega, by omega, by rw [HLEN.out]; congr 1; omega, Dr.refl _⟩
      case round =>
        obtain ⟨n, k, r, rfl, rfl, hn, hkl, hk64, htk, hdr⟩ := hrel
        cases k with
        | zero =>
          have hN : decide (((0 : Nat) : Int) > 0) = false := rfl
          have hnm : n = meetN ns i j := by
            rw [Nat.sub_zero, List.take_length] at htk
            exact path_inj HW.out n n (meetN ns i j) r s (Nat.le_refl _) hn HE2.out (by rw [htk, ← HE1.out]; rfl)
          subst hnm
          have hbl := moreB HB3.out HB3.out.size (hdr.below w3.heap.size)
          go_wp2
          go_ret2
          unfold MeetAPost
          rw [hmf, ha, hb]
          exact ⟨rfl, hbl⟩
        | succ k =>
          cases n with
          | zero => rw [path_zero] at hkl; simp at hkl
          | succ n =>
            rw [nodeAt_succ] at hn
            have hps := path_succ HW.out hn
            obtain ⟨a1, ⟨r2, a2, a3⟩, a5, a6⟩ := HW.out.up n r hn
            have cP := RParent_in ((n + 1 : Nat) : Int) wr (HR3.out.below (hdr.below w3.heap.size))
            rw [parentOf_node hn] at cP
            have hpl2 : (path ns (n + 1)).length = (path ns r.p).length + 1 := by rw [hps]; simp
            have htk2 : (path ns r.p).take ((path ns r.p).length - k) = (path ns i).take C := by
              rw [← htk, hpl2, hps, show (path ns r.p).length + 1 - (k + 1) = (path ns r.p).length - k by omega, List.take_append_of_le_length (by omega)]
            have hN : decide ((((k + 1 : Nat) : Int)) > 0) = true := decide_eq_true (by omega)
            have hk3 : (((k + 1 : Nat) : Int)) - 1 = (k : Int) := by omega
            have HA2 := Lib.hid a2
            have HT2 := Lib.hid htk2
            have CP := Lib.hid cP
            have hkk : k ≤ (path ns r.p).length := by omega
            have HKK := Lib.hid hkk
            clear a2 htk2 htk hps hpl2 hn cP hkl hkk
            generalize hm : n + 1 = m at *
            generalize hk1 : k + 1 = k1 at *
            go_wp2_with fail
            refine CP.out.mono ?_
            rintro e w4 ⟨rfl, hd4⟩
            go_wp2
            go_roundw
            case rel => exact ⟨r.p, k, r2, rfl, rfl, HA2.out, HKK.out, by omega, HT2.out, by obtain ⟨x1, rfl⟩ := hdr; obtain ⟨x2, rfl⟩ := hd4; exact ⟨x1 + x2, by simp⟩⟩
            case measure => simp [RowKit.intOf]; omega
end Go.Proofs.YtbldeiejlebbiaaDoor.T

/-
  errataref03.short.
-/
set_option linter.unusedVariables false
namespace Go.Proofs.YtbldeiejlebbiaaDoor.T
open Go Go.Lib Go.RowKit

def sB (l : List UInt8) : ByteArray := ⟨l.toArray⟩
theorem sB_size (l : List UInt8) : (sB l).size = l.length := by show l.toArray.size = _; simp
theorem sB_app (l m : List UInt8) : sB l ++ sB m = sB (l ++ m) := by
  apply ByteArray.ext
  rw [ByteArray.data_append]
  unfold sB
  simp
theorem sB_of (s : ByteArray) : s = sB s.data.toList := by
  apply ByteArray.ext
  unfold sB
  simp
theorem byteRow_snoc {B : Nat} {w : World} {v : Value} {l : List UInt8} {k : Nat} (hk : k < 256) (h : w.ownsRow B 5 1 v (l.length + 1) (Go.Lib.byteCells l ++ [.int .u8 (k : Int)])) : BytesRow B w v (l ++ [UInt8.ofNat k]) := by
  unfold BytesRow
  rw [List.length_append]
  have e : Go.Lib.byteCells (l ++ [UInt8.ofNat k]) = Go.Lib.byteCells l ++ [.int .u8 (k : Int)] := by
    simp [Go.Lib.byteCells, UInt8.toNat_ofNat']; omega
  rw [e]
  exact h
set_option maxRecDepth 100000 in
set_option maxHeartbeats 4000000 in
theorem rshort_in (n : Nat) (hn : n < 2097152) (w : World) :
    Calls Tryd.prog 57 #[.int .i64 (n : Int)] w fun e w' => e = .returned (.string (sB (shN n))) ∧ Below w.heap.size w w' := by
  obtain ⟨i0, hi, hz0, hz1, hz2⟩ := info_parts infoByteS
  have hR0 : [] ++ shF 2 n = shN n := rfl
  generalize shN n = R at *
  have HR := Lib.hid hR0
  clear hR0
  go_enter Tryd.func57, Tryd.ntmps57
  go_wp2
  go_loopw [0, 3] (fun i u wr => ∃ (f k : Nat) (acc : List UInt8), i = .int .i64 (k : Int) ∧ k < 128 ^ (f + 1) ∧ k < 2097152 ∧ acc.length ≤ 2 - f ∧ f ≤ 2 ∧ acc ++ shF f k = R ∧ BytesRow w.heap.size wr u acc ∧ Below w.heap.size w wr)
    (fun i _ _ => (RowKit.intOf i).toNat)
  case atStart => exact ⟨2, n, [], rfl, by omega, hn, by simp, Nat.le_refl _, HR.out, World.ownsRow_nil _ _ _ _, Below.refl _ _⟩
  case round =>
    obtain ⟨f, k, acc, rfl, hk, hk2, hal, hf, hacc, hrow, hbw⟩ := hrel
    have hszr := hbw.size
    have HA := Lib.hid hacc
    clear hacc
    by_cases hg : k > 127
    · obtain ⟨f, rfl⟩ : ∃ f', f = f' + 1 := by
        cases f with
        | zero => simp at hk; omega
        | succ f => exact ⟨f, rfl⟩
      have hkd : k / 128 < 128 ^ (f + 1) := by
        rw [Nat.div_lt_iff_lt_mul (by omega)]
        rw [Nat.pow_succ] at hk
        exact hk
      have hN : decide ((k : Int) ≥ 128) = true := decide_eq_true (by omega)
      have hdv : ((k : Int) / 128) = ((k / 128 : Nat) : Int) := by omega
      have hdt : (k : Int).tdiv 128 = ((k / 128 : Nat) : Int) := by rw [Int.tdiv_eq_ediv_of_nonneg (by omega)]; omega
      have hmt : (k : Int).tmod 128 = ((k % 128 : Nat) : Int) := by rw [Int.tmod_eq_emod_of_nonneg (by omega)]; omega
      have hmod : k % 128 < 128 := Nat.mod_lt _ (by omega)
      have hmk : k / 128 < k := Nat.div_lt_self (by omega) (by omega)
      have HK := Lib.hid hk
      have HD := Lib.hid hkd
      clear hk hkd
      generalize hdq : k / 128 = d at *
      generalize hmq : k % 128 = r at *
      have HDQ := Lib.hid hdq
      have HMQ := Lib.hid hmq
      clear hdq hmq
      go_wp2_with (at_builtin; refine wpList_append_own _ rfl _ _ 117 rfl w.heap.size 5 i0 (.int .u8 0) 1 1 Tryd.underlying117 hi hz0 hz1 hz2 rfl (by decide) _ acc.length _ rfl (World.ownsRow.alloc hrow _) ⟨wr.heap.size, 0, none⟩ 1 1 [.int .u8 ((r : Int) + 128)] rfl rfl (cell1_new _ _ _) (by simp [Value.oneCell']) (by unfold maxLen; omega) (by omega) (by simp; omega) ?_; intro v' w2 hown' hgrow _; have hb3 := hbw.grown (grown_of_alloc' hgrow) hszr (fun j hj => (World.ownsRow.lt hrow j hj).1))
      go_roundw
      case rel =>
        refine ⟨f, d, acc ++ [UInt8.ofNat (r + 128)], rfl, HD.out, by omega, by simp; omega, by omega, ?_, byteRow_snoc (by omega) (by simpa using hown'), hb3⟩
        rw [← HA.out, shF, if_pos hg, HDQ.out, HMQ.out, List.append_assoc]; rfl
      case measure => simp [RowKit.intOf]; omega
    · have hN : decide ((k : Int) ≥ 128) = false := decide_eq_false (by omega)
      have hsf : shF f k = [UInt8.ofNat k] := by
        cases f with
        | zero => rfl
        | succ f => unfold shF; rw [if_neg hg]
      go_wp2_with (at_builtin; refine wpList_append_own _ rfl _ _ 117 rfl w.heap.size 5 i0 (.int .u8 0) 1 1 Tryd.underlying117 hi hz0 hz1 hz2 rfl (by decide) _ acc.length _ rfl (World.ownsRow.alloc hrow _) ⟨wr.heap.size, 0, none⟩ 1 1 [.int .u8 (k : Int)] rfl rfl (cell1_new _ _ _) (by simp [Value.oneCell']) (by unfold maxLen; omega) (by omega) (by simp; omega) ?_; intro v' w2 hown' hgrow _; have hb3 := hbw.grown (grown_of_alloc' hgrow) hszr (fun j hj => (World.ownsRow.lt hrow j hj).1); have hbr := byteRow_snoc (l := acc) (k := k) (by omega) hown'; have hcv := bytes_string hbr)
      go_ret
      refine ⟨?_, hb3⟩
      rw [← HA.out, hsf]
      rfl
end Go.Proofs.YtbldeiejlebbiaaDoor.T

/-
  The document's tree: Told.
-/
set_option linter.unusedVariables false
namespace Go.Proofs.YtbldeiejlebbiaaDoor.T
open Go Go.Lib Go.RowKit

theorem add_sB (a b : List UInt8) (h : a.length + b.length ≤ 1000000) (W : World) : (binOp .add 9 (.string (sB a)) (.string (sB b))).run Tryd.prog W = .ok (.string (sB (a ++ b))) W := by
  have h1 := sB_size a
  have h2 := sB_size b
  rw [binOp_string_add]
  simp [Op.stringOp, go_sem, sB_app]
  omega
theorem shortQ (V : World) (n : Nat) (hn : n < 2097152) (k : Int) (hk : k = (n : Int)) (W : World) (hb : Below V.heap.size V W) : Calls Tryd.prog 57 #[.int .i64 k] W fun e w' => e = .returned (.string (sB (shN n))) ∧ Below V.heap.size V w' := by
  subst hk
  refine (rshort_in n hn W).mono ?_
  rintro e w' ⟨rfl, h⟩
  exact ⟨rfl, moreB hb hb.size h⟩
set_option maxRecDepth 100000 in
set_option maxHeartbeats 8000000 in
theorem RTold_in {B : Nat} {R : Nat} {v : Value} {ns : List Nd} (w : World) (h : RefAt B w R v ns) (hw : Wf ns) :
    Calls Tryd.prog 27 #[.pointer (some ⟨R, 0, none⟩)] w fun e w' => e = .returned (.string (sB (toldB ns))) ∧ Below w.heap.size w w' := by
  have hfew := h.few
  have cS0 := rshort_in ns.length (by omega) w
  have hl0 := shN_length ns.length
  have hR0 : shN ns.length ++ ndsB 1 ns = toldB ns := rfl
  generalize toldB ns = Rr at *
  have HR := Lib.hid hR0
  have H := Lib.hid h
  have HW := Lib.hid hw
  have hlt := h.lt
  have c0 := h.c0
  obtain ⟨a, c, rfl, _⟩ := h.sl
  clear hR0 h hw
  go_enter Tryd.func27, Tryd.ntmps27
  go_wp2_with (go_at_call 57; refine cS0.mono ?_; rintro e w1 ⟨rfl, hb1⟩)
  go_loopw [3, 4] (fun u i wr => ∃ (j : Nat) (acc : List UInt8), u = .string (sB acc) ∧ i = .int .i64 (j : Int) ∧ j ≤ ns.length ∧ acc.length ≤ 3 + 129 * j ∧ acc ++ ndsB (j + 1) (ns.drop j) = Rr ∧ Below w.heap.size w wr)
    (fun _ i _ => ns.length - (RowKit.intOf i).toNat)
  case atStart => exact ⟨0, shN ns.length, rfl, rfl, Nat.zero_le _, by omega, HR.out, hb1⟩
  case round =>
    obtain ⟨j, acc, rfl, rfl, hj, hal, hacc, hbw⟩ := hrel
    have f0 := (hbw.cell (p := ⟨R, 0, none⟩) hlt).trans c0
    by_cases hlt2 : j < ns.length
    · have hq : ns[j]? = some ns[j] := List.getElem?_eq_getElem hlt2
      have hdp : ns.drop j = ns[j] :: ns.drop (j + 1) := List.drop_eq_getElem_cons hlt2
      generalize ns[j] = q at *
      obtain ⟨g, cap, he, hg, e1, e2, e3⟩ := H.out.node hq
      simp only [Value.slice.injEq] at he
      obtain ⟨rfl, _, rfl⟩ := he
      obtain ⟨a1, _, a5, a6⟩ := HW.out.up j q hq
      have hmb := mayB_bd a6
      have hszr := hbw.size
      have d1 := (hbw.cell (p := ⟨g, j * 3, none⟩) hg).trans e1
      have d2 := (hbw.cell (p := ⟨g, j * 3 + 1, none⟩) hg).trans e2
      have d3 := (hbw.cell (p := ⟨g, j * 3 + 2, none⟩) hg).trans e3
      have hbV : Below w.heap.size w (wr.alloc (.cells #[.int .i64 (q.p : Int), .string q.x.n, .int .i64 q.x.k] 121)) := hbw.alloc hszr _
      have x0 : (wr.alloc (.cells #[.int .i64 (q.p : Int), .string q.x.n, .int .i64 q.x.k] 121)).cell? ⟨wr.heap.size, 0, none⟩ = some (.int .i64 (q.p : Int)) := by simp
      have x1 : (wr.alloc (.cells #[.int .i64 (q.p : Int), .string q.x.n, .int .i64 q.x.k] 121)).cell? ⟨wr.heap.size, 1, none⟩ = some (.string q.x.n) := by simp
      have x2 : (wr.alloc (.cells #[.int .i64 (q.p : Int), .string q.x.n, .int .i64 q.x.k] 121)).cell? ⟨wr.heap.size, 2, none⟩ = some (.int .i64 q.x.k) := by simp
      have hbl : wr.heap.size < (wr.alloc (.cells #[.int .i64 (q.p : Int), .string q.x.n, .int .i64 q.x.k] 121)).heap.size := by simp
      have HA := Lib.hid hacc
      have HDP := Lib.hid hdp
      clear hacc hdp e1 e2 e3 hq
      have s1 := shN_length (j + 1 - q.p)
      have s2 := shN_length q.x.n.size
      have s3 := shN_length q.x.k.toNat
      generalize hz : ns.length = z at *
      have hN : decide ((j : Int) < (z : Int)) = true := decide_eq_true (by omega)
      go_wp2_with fail
      generalize hV : wr.alloc (.cells #[.int .i64 (q.p : Int), .string q.x.n, .int .i64 q.x.k] 121) = V at *
      have CS1 := Lib.hid (shortQ V (j + 1 - q.p) (by omega) ((j : Int) + 1 - (q.p : Int)) (by omega))
      have CS2 := Lib.hid (shortQ V q.x.n.size (by omega) (q.x.n.size : Int) rfl)
      have CS3 := Lib.hid (shortQ V q.x.k.toNat (by omega) q.x.k (by omega))
      have KC : Hid (∀ W, Below V.heap.size V W → W.cell? ⟨wr.heap.size, 0, none⟩ = some (.int .i64 (q.p : Int)) ∧ W.cell? ⟨wr.heap.size, 1, none⟩ = some (.string q.x.n) ∧ W.cell? ⟨wr.heap.size, 2, none⟩ = some (.int .i64 q.x.k)) := fun W hb =>
        ⟨(hb.cell (p := ⟨wr.heap.size, 0, none⟩) hbl).trans x0, (hb.cell (p := ⟨wr.heap.size, 1, none⟩) hbl).trans x1, (hb.cell (p := ⟨wr.heap.size, 2, none⟩) hbl).trans x2⟩
      have hw1 : IntKind.i64.wrap ((j : Int) + 1) = (j : Int) + 1 := IntWalk.i64_in _ (by omega)
      have hw2 : IntKind.i64.wrap ((j : Int) + 1 - (q.p : Int)) = (j : Int) + 1 - (q.p : Int) := IntWalk.i64_in _ (by omega)
      have hVV : Below V.heap.size V V.drew := (Below.refl _ V).drew
      have za := sB_size acc
      have z1 := sB_size (shN (j + 1 - q.p))
      have z2 := sB_size (shN q.x.n.size)
      have z3 := sB_size (shN q.x.k.toNat)
      generalize hs1 : shN (j + 1 - q.p) = S1 at *
      generalize hs2 : shN q.x.n.size = S2 at *
      generalize hs3 : shN q.x.k.toNat = S3 at *
      have hnl : q.x.n.size ≤ 120 := by omega
      have o1 : ¬ 9223372036854775807 < (sB acc).size + (sB S1).size := by omega
      have o2 : ¬ 9223372036854775807 < (sB acc).size + (sB S1).size + (sB S2).size := by omega
      have o3 : ¬ 9223372036854775807 < (sB acc).size + (sB S1).size + (sB S2).size + q.x.n.size := by omega
      have o4 : ¬ 9223372036854775807 < (sB acc).size + (sB S1).size + (sB S2).size + q.x.n.size + (sB S3).size := by omega
      have HZ := Lib.hid (And.intro za (And.intro z1 (And.intro z2 z3)))
      clear za z1 z2 z3
      go_region_held3 (fun w' => Below V.heap.size V w' ∧ w'.cell? ⟨wr.heap.size, 0, none⟩ = some (.int .i64 (q.p : Int)) ∧ w'.cell? ⟨wr.heap.size, 1, none⟩ = some (.string q.x.n) ∧ w'.cell? ⟨wr.heap.size, 2, none⟩ = some (.int .i64 q.x.k))
        (first | exact ⟨hVV, x0, x1, x2⟩ | exact ⟨hv1, d1', d2', d3'⟩ | go_keep)
        (first
          | (go_at_call 57; with_reducible refine (CS1.out _ (by first | assumption | exact (‹Below V.heap.size V _ ∧ _›).1)).mono ?_; rintro e v1 ⟨rfl, hv1⟩; obtain ⟨d1', d2', d3'⟩ := KC.out _ hv1)
          | (go_at_call 57; with_reducible refine (CS2.out _ (by first | assumption | exact (‹Below V.heap.size V _ ∧ _›).1)).mono ?_; rintro e v1 ⟨rfl, hv1⟩; obtain ⟨d1', d2', d3'⟩ := KC.out _ hv1)
          | (go_at_call 57; with_reducible refine (CS3.out _ (by first | assumption | exact (‹Below V.heap.size V _ ∧ _›).1)).mono ?_; rintro e v1 ⟨rfl, hv1⟩; obtain ⟨d1', d2', d3'⟩ := KC.out _ hv1))
      have hcat : sB acc ++ sB S1 ++ sB S2 ++ q.x.n ++ sB S3 = sB (acc ++ ndB (j + 1) q) := by
        unfold ndB
        rw [hs1, hs2, hs3]
        rw [sB_of q.x.n, sB_app, sB_app, sB_app, sB_app]
        simp only [List.append_assoc]
        unfold sB
        simp
      have hndl := ndB_length (j + 1) q
      have HV1 := Lib.hid (hbV.trans (hv1.mono hbV.size))
      have HCAT := Lib.hid hcat
      clear hcat o1 o2 o3 o4 hw2
      go_wp2
      go_roundw
      case rel =>
        refine ⟨j + 1, acc ++ ndB (j + 1) q, by rw [← HCAT.out], by go_num, by omega, by rw [List.length_append]; omega, ?_, HV1.out⟩
        rw [← HA.out, HDP.out, ndsB, List.append_assoc]
      case measure => simp [RowKit.intOf]; omega
    · have : j = ns.length := by omega
      subst this
      have hN : decide ((ns.length : Int) < (ns.length : Int)) = false := by simp
      rw [List.drop_length] at hacc
      have hRe : acc = Rr := by rw [← hacc]; simp [ndsB]
      subst hRe
      go_wp2
      go_ret
      exact ⟨rfl, hbw⟩
end Go.Proofs.YtbldeiejlebbiaaDoor.T

/-
  erratalaw03.looks: what two trees tell of a node; Depth of any number.
-/
set_option linter.unusedVariables false
namespace Go.Proofs.YtbldeiejlebbiaaDoor.T
open Go Go.Lib Go.RowKit

/-- the document's tree outlives the growth of a row of another type -/
theorem RefAt.kept {B B' R size n : Nat} {e : TypeId} {w w' : World} {u v : Value} {xs : List Value} {ns : List Nd} (hn : 121 ≠ e) (ht0 : e ≠ 109) (h : RefAt B w R v ns) (hr : w.ownsRow B' e size u n xs) (hg : w.grownBy w' u.ownBlock) : RefAt B w' R v ns := by
  have hT : some R ≠ u.ownBlock := fun q => by
    obtain ⟨_, ⟨rfl, _⟩ | ⟨g, cap, cur, rfl, _, hcur, _⟩⟩ := hr
    · cases q
    · simp only [Value.ownBlock, Option.some.injEq] at q
      subst q
      rw [h.blk] at hcur
      simp only [Option.some.injEq, Obj.cells.injEq] at hcur
      exact ht0 hcur.2.1.symm
  exact ⟨(hg.block R h.lt hT).trans h.blk, h.row.kept hg (apart_ty hn h.row hr), h.lo, h.few⟩
set_option maxRecDepth 1000000 in
set_option maxHeartbeats 8000000 in
theorem looks_in {B B' T m R : Nat} {v u : Value} {ns : List Nd} (k : Int) (w : World) (hT : TreeAt B w T v m ns) (hR : RefAt B' w R u ns) (hw : Wf ns) :
    Calls Tryd.prog 25 #[.pointer (some ⟨T, 0, none⟩), .pointer (some ⟨R, 0, none⟩), .int .i64 k] w fun e w' => e = .returned (.bool true) ∧ Below w.heap.size w w' := by
  have c1 := Lib.hid (Parent_in k w hT)
  have c2 := Lib.hid (RParent_in k w hR)
  have HT := Lib.hid hT
  have HR := Lib.hid hR
  have HW := Lib.hid hw
  have hst : (stackF ns k).length ≤ 64 := by
    unfold stackF
    split
    · rename_i hb
      obtain ⟨j, q, rfl, hq⟩ := nodeAt_has hb
      rw [Int.toNat_natCast, path_depth hw j j q (Nat.le_refl _) hq]
      cases j with
      | zero => cases hq; exact Nat.zero_le _
      | succ n => exact (hw.up n q hq).2.2.1
    · simp
  clear hT hR hw
  generalize hP : parentOf ns k = P at *
  obtain ⟨p1, p2⟩ := P
  have hn1 : ((p1 : Int) != (p1 : Int)) = false := by simp
  have hn2 : (p2 != p2) = false := by simp
  go_enter Tryd.func25, Tryd.ntmps25
  go_wp2_with fail
  refine c1.out.mono ?_
  rintro e w1 ⟨rfl, rfl⟩
  go_wp2_with fail
  refine c2.out.mono ?_
  rintro e w2 ⟨rfl, hd2⟩
  have HB2 := Lib.hid (hd2.below w.heap.size)
  have HT2 := Lib.hid (HT.out.below HB2.out)
  have HR2 := Lib.hid (HR.out.below HB2.out)
  have C3 := Lib.hid (Stack_any k w2 HT2.out HW.out)
  clear hd2 c1 c2 HT HR
  go_wp2_with fail
  refine C3.out.mono ?_
  rintro e w3 ⟨xv, rfl, hx3, hb3⟩
  have HX3 := Lib.hid (hx3.base HB2.out.size)
  have HB3 := Lib.hid (moreB HB2.out HB2.out.size hb3)
  have HT3 := Lib.hid (HT2.out.below hb3)
  have HR3 := Lib.hid (HR2.out.below hb3)
  have C4 := Lib.hid (RStack_any k w3 HR3.out HW.out)
  clear hx3 hb3 C3 HT2 HR2 HB2
  go_wp2_with fail
  refine C4.out.mono ?_
  rintro e w4 ⟨yv, rfl, hy4, hb4⟩
  have HX4 := Lib.hid (HX3.out.below hb4)
  have HY4 := Lib.hid (hy4.base HB3.out.size)
  have HB4 := Lib.hid (moreB HB3.out HB3.out.size hb4)
  have HT4 := Lib.hid (HT3.out.below hb4)
  have HR4 := Lib.hid (HR3.out.below hb4)
  have C5 := Lib.hid (Depth_in k w4 HT4.out)
  clear hy4 hb4 C4 HX3 HT3 HR3 HB3
  generalize hc : askC (hasB ns.length k) = cc at *
  have hn3 : ((cc : Int) != (cc : Int)) = false := by simp
  generalize hS : stackF ns k = S at *
  have HC := Lib.hid hc
  have HS := Lib.hid hS
  clear hc hS
  go_wp2_with fail
  refine C5.out.mono ?_
  rintro e w5 ⟨rfl, rfl⟩
  have C6 := Lib.hid (RDepth_in k w4 HR4.out HW.out)
  generalize depthOf ns k = dd at *
  have hn4 : ((dd : Int) != (dd : Int)) = false := by simp
  clear C5
  go_wp2_with fail
  refine C6.out.mono ?_
  rintro e w6 ⟨rfl, hd6⟩
  have hb6 := hd6.below w4.heap.size
  have HX6 := Lib.hid (HX4.out.below hb6)
  have HY6 := Lib.hid (HY4.out.below hb6)
  have HB6 := Lib.hid (moreB HB4.out HB4.out.size hb6)
  have HT6 := Lib.hid (HT4.out.below hb6)
  have HR6 := Lib.hid (HR4.out.below hb6)
  have C7 := Lib.hid (same_yes S w6.heap.size xv yv w6 HX6.out.sl HY6.out.sl)
  clear hd6 hb6 C6 HX4 HY4 HB4 HT4 HR4
  go_wp2_with fail
  refine C7.out.mono ?_
  rintro e w7 ⟨rfl, hb7⟩
  have HX7 := Lib.hid (HX6.out.below hb7)
  have HY7 := Lib.hid (HY6.out.below hb7)
  have HB7 := Lib.hid (moreB HB6.out HB6.out.size hb7)
  have HT7 := Lib.hid (HT6.out.below hb7)
  have HR7 := Lib.hid (HR6.out.below hb7)
  have C8 := Lib.hid (spoil_in w.heap.size S.length (by omega) xv w7 ⟨_, HX7.out⟩ HB7.out.size)
  clear hb7 C7 HX6 HY6 HB6 HT6 HR6
  go_wp2_with fail
  refine C8.out.mono ?_
  rintro e w8 ⟨rfl, hg8⟩
  have HY8 := Lib.hid (PRow.kept' HY7.out hg8 (apart_ty (by decide) (show World.ownsRow _ _ _ _ _ _ _ from HY7.out) HX7.out))
  have HB8 := Lib.hid (HX7.out.grown HB7.out hg8 HB7.out.size)
  have HT8 := Lib.hid (HT7.out.kept (by decide) (by decide) HX7.out hg8)
  have HR8 := Lib.hid (HR7.out.kept (by decide) (by decide) HX7.out hg8)
  have c9 := Stack_any k w8 HT8.out HW.out
  unfold StackAPost at c9
  rw [HS.out, HC.out] at c9
  have C9 := Lib.hid c9
  clear hg8 c9 C8 HX7 HY7 HB7 HT7 HR7
  go_wp2_with fail
  refine C9.out.mono ?_
  rintro e w9 ⟨zv, rfl, hz9, hb9⟩
  have HY9 := Lib.hid (HY8.out.below hb9)
  have HB9 := Lib.hid (moreB HB8.out HB8.out.size hb9)
  have C10 := Lib.hid (same_yes S w9.heap.size zv yv w9 hz9.sl HY9.out.sl)
  clear hz9 hb9 C9 HY8 HB8 HT8 HR8
  go_wp2_with fail
  refine C10.out.mono ?_
  rintro e w10 ⟨rfl, hb10⟩
  have HB10 := Lib.hid (moreB HB9.out HB9.out.size hb10)
  clear hb10 C10 HY9 HB9
  go_wp2
  go_ret
  exact ⟨rfl, HB10.out⟩
end Go.Proofs.YtbldeiejlebbiaaDoor.T
