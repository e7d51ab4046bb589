import Derived.Lib.AppendStr
import Derived.Lib.UnsafeStr
import Derived.Lib.QuoteBits
import Derived.Laws.IdiomStrings
import Derived.Laws.BitsAllLaws
import Derived.Laws.Bits128
import Derived.Test.YtbldeiejlebbiaaDoorPlaceCopies
import Derived.Test.YtbldeiejlebbiaaDoorPlaceTrB

/-
  place.appendShort: a number behind a row of bytes, seven bits a byte.
-/
set_option linter.unusedVariables false
namespace Go.Proofs.YtbldeiejlebbiaaDoor.T
open Go Go.Lib Go.RowKit

theorem infoByteS : (Tryd.prog.info? 5).map (fun i => (i.zero, i.size, i.bytes)) = some (some (.int .u8 0), 1, 1) := by kernel_rfl
/-- v is a slice of just these bytes, in memory from block B on -/
def BytesRow (B : Nat) (w : World) (v : Value) (l : List UInt8) : Prop := w.ownsRow B 5 1 v l.length (Go.Lib.byteCells l)
/-- a number as a short one, of up to f bytes and one more -/
def shF : Nat → Nat → List UInt8
  | 0, n => [UInt8.ofNat n]
  | f + 1, n => if n > 127 then UInt8.ofNat (n % 128 + 128) :: shF f (n / 128) else [UInt8.ofNat n]
def shN (n : Nat) : List UInt8 := shF 2 n
theorem shF_length : ∀ f n, (shF f n).length ≤ f + 1
  | 0, n => Nat.le_refl _
  | f + 1, n => by
    have := shF_length f (n / 128)
    unfold shF
    split
    · simp; omega
    · simp
/-- all but blocks of bytes lie as they lay -/
structure KeepB (w w' : World) : Prop where
  os : w'.os = w.os
  tape : w'.tape = w.tape
  output : w'.output = w.output
  size : w.heap.size ≤ w'.heap.size
  blk : ∀ (b : Nat) (o : Obj), w.heap[b]? = some o → (∀ cs fr, o ≠ .cells cs 5 fr) → w'.heap[b]? = some o
theorem KeepB.refl (w : World) : KeepB w w := ⟨rfl, rfl, rfl, Nat.le_refl _, fun _ _ h _ => h⟩
theorem KeepB.trans {a b c : World} (h : KeepB a b) (k : KeepB b c) : KeepB a c :=
  ⟨k.os.trans h.os, k.tape.trans h.tape, k.output.trans h.output, Nat.le_trans h.size k.size, fun i o hi h3 => k.blk i o (h.blk i o hi h3) h3⟩
theorem KeepB.of_below {w w' : World} (h : Below w.heap.size w w') : KeepB w w' :=
  ⟨h.os, h.tape, h.output, h.size, fun b o hb _ => (h.block b (Array.getElem?_eq_some_iff.1 hb).1).trans hb⟩
theorem KeepB.of_grown {B size n : Nat} {w w' : World} {v : Value} {xs : List Value} (hrow : w.ownsRow B 5 size v n xs) (hg : w.grownBy w' v.ownBlock) : KeepB w w' := by
  refine ⟨hg.os, hg.tape, hg.output, hg.size, fun b o hb hno => ?_⟩
  rw [hg.block b (Array.getElem?_eq_some_iff.1 hb).1 (fun e => ?_)]
  · exact hb
  · obtain ⟨hl, ⟨rfl, _⟩ | ⟨g, cap, cur, rfl, _, hcur, _⟩⟩ := hrow
    · cases e
    · cases e
      rw [hcur] at hb
      exact hno cur (0, 0) (Option.some.inj hb).symm
def ByPost (B : Nat) (w : World) (l : List UInt8) (e : Ending) (w' : World) : Prop := ∃ v', e = .returned v' ∧ BytesRow B w' v' l ∧ Below B w w' ∧ KeepB w w'
theorem cell1_new (W : World) (a : Value) (t : TypeId) : ∀ j u, [a][j]? = some u → (W.alloc (.cells #[a] t)).cell? ((⟨W.heap.size, 0, none⟩ : Addr).add j) = some u := by
  intro j u hj
  have : ((⟨W.heap.size, 0, none⟩ : Addr).add j) = ⟨W.heap.size, j, none⟩ := by unfold Addr.add; split <;> simp_all
  rw [this, World.cell?_alloc_at _ _ _ _ rfl]
  simpa using hj
theorem or128 (k : Nat) (hk : k < 128) : bits BinOp.or IntKind.u8 (k : Int) 128 = (k : Int) + 128 := by
  have h := u8_or_nat k 128 (by omega) (by omega)
  rw [show ((128 : Nat) : Int) = 128 from rfl] at h
  rw [h, Nat.or_comm, nat_join 7 128 k (by decide) (by omega), Nat.add_comm]; rfl
set_option maxRecDepth 100000 in
set_option maxHeartbeats 4000000 in
theorem appendShort_in (n : Nat) (hn : n < 2097152) (B : Nat) (v : Value) (l : List UInt8) (w : World) (h : BytesRow B w v l) (hB : B ≤ w.heap.size) (hl : l.length ≤ 268435456) :
    Calls Tryd.prog 56 #[v, .int .i64 (n : Int)] w (ByPost B w (l ++ shN n)) := by
  obtain ⟨i0, hi, hz0, hz1, hz2⟩ := info_parts infoByteS
  have hR0 : l ++ shF 2 n = l ++ shN n := rfl
  generalize l ++ shN n = R at *
  have HR := Lib.hid hR0
  clear hR0
  go_enter Tryd.func56, Tryd.ntmps56
  go_wp2
  go_loopw [0, 1] (fun u i wr => ∃ (f k : Nat) (acc : List UInt8), i = .int .i64 (k : Int) ∧ k < 128 ^ (f + 1) ∧ k < 2097152 ∧ acc.length ≤ l.length + 2 - f ∧ f ≤ 2 ∧ acc ++ shF f k = R ∧ BytesRow B wr u acc ∧ Below B w wr ∧ KeepB w wr)
    (fun _ i _ => (RowKit.intOf i).toNat)
  case atStart => exact ⟨2, n, l, rfl, by omega, hn, by omega, Nat.le_refl _, HR.out, h, Below.refl _ _, KeepB.refl _⟩
  case round =>
    obtain ⟨f, k, acc, rfl, hk, hk2, hal, hf, hacc, hrow, hbw, hkw⟩ := hrel
    have hszr := hbw.size
    have HA := Lib.hid hacc
    clear hacc
    by_cases hg : k > 127
    · obtain ⟨f, rfl⟩ : ∃ f', f = f' + 1 := by
        cases f with
        | zero => simp at hk; omega
        | succ f => exact ⟨f, rfl⟩
      have hkd : k / 128 < 128 ^ (f + 1) := by
        rw [Nat.div_lt_iff_lt_mul (by omega)]
        rw [Nat.pow_succ] at hk
        exact hk
      have hN : decide ((k : Int) > 127) = true := by simp; omega
      have hand : bits BinOp.and IntKind.i64 (k : Int) 127 = ((k % 128 : Nat) : Int) := by rw [i64_and127]; omega
      have hor := or128 (k % 128) (Nat.mod_lt _ (by omega))
      have hdv : ((k : Int) / 128) = ((k / 128 : Nat) : Int) := by omega
      have hmod : k % 128 < 128 := Nat.mod_lt _ (by omega)
      have hmk : k / 128 < k := Nat.div_lt_self (by omega) (by omega)
      have HK := Lib.hid hk
      have HD := Lib.hid hkd
      clear hk hkd
      generalize hdq : k / 128 = d at *
      generalize hmq : k % 128 = r at *
      have HDQ := Lib.hid hdq
      have HMQ := Lib.hid hmq
      clear hdq hmq
      go_wp2_with (at_builtin; refine wpList_append_own _ rfl _ _ 117 rfl B 5 i0 (.int .u8 0) 1 1 Tryd.underlying117 hi hz0 hz1 hz2 rfl (by decide) _ acc.length _ rfl (World.ownsRow.alloc hrow _) ⟨wr.heap.size, 0, none⟩ 1 1 [.int .u8 ((r : Int) + 128)] rfl rfl (cell1_new _ _ _) (by simp [Value.oneCell']) (by unfold maxLen; omega) (by omega) (by simp; omega) ?_; intro v' w2 hown' hgrow _; have hb3 := hbw.grown (grown_of_alloc' hgrow) (Nat.le_trans hB hszr) (fun j hj => (World.ownsRow.lt hrow j hj).1); have hk3 := hkw.trans (KeepB.of_grown hrow (grown_of_alloc' hgrow)))
      go_roundw
      case rel =>
        refine ⟨f, d, acc ++ [UInt8.ofNat (r + 128)], rfl, HD.out, by omega, by simp; omega, by omega, ?_, ?_, hb3, hk3⟩
        · rw [← HA.out]
          rw [shF, if_pos hg, HDQ.out, HMQ.out, List.append_assoc]; rfl
        · unfold BytesRow
          rw [List.length_append]
          have e : Go.Lib.byteCells (acc ++ [UInt8.ofNat (r + 128)]) = Go.Lib.byteCells acc ++ [.int .u8 ((r : Int) + 128)] := by
            simp [Go.Lib.byteCells, UInt8.toNat_ofNat']; omega
          rw [e]
          exact hown'
      case measure => simp [RowKit.intOf]; omega
    · have hN : decide ((k : Int) > 127) = false := by simp; omega
      have hsf : shF f k = [UInt8.ofNat k] := by
        cases f with
        | zero => rfl
        | succ f => unfold shF; rw [if_neg hg]
      go_wp2_with (at_builtin; refine wpList_append_own _ rfl _ _ 117 rfl B 5 i0 (.int .u8 0) 1 1 Tryd.underlying117 hi hz0 hz1 hz2 rfl (by decide) _ acc.length _ rfl (World.ownsRow.alloc hrow _) ⟨wr.heap.size, 0, none⟩ 1 1 [.int .u8 (k : Int)] rfl rfl (cell1_new _ _ _) (by simp [Value.oneCell']) (by unfold maxLen; omega) (by omega) (by simp; omega) ?_; intro v' w2 hown' hgrow _; have hb3 := hbw.grown (grown_of_alloc' hgrow) (Nat.le_trans hB hszr) (fun j hj => (World.ownsRow.lt hrow j hj).1); have hk3 := hkw.trans (KeepB.of_grown hrow (grown_of_alloc' hgrow)))
      go_ret
      refine ⟨v', rfl, ?_, hb3, hk3⟩
      rw [← HA.out, hsf]
      unfold BytesRow
      rw [List.length_append]
      have e : Go.Lib.byteCells (acc ++ [UInt8.ofNat k]) = Go.Lib.byteCells acc ++ [.int .u8 (k : Int)] := by
        simp [Go.Lib.byteCells, UInt8.toNat_ofNat']; omega
      rw [e]
      exact hown'
end Go.Proofs.YtbldeiejlebbiaaDoor.T

/-
  Told of a tree.
-/
set_option linter.unusedVariables false
namespace Go.Proofs.YtbldeiejlebbiaaDoor.T
open Go Go.Lib Go.RowKit

theorem bytes_string {B : Nat} {w : World} {v : Value} {l : List UInt8} (h : BytesRow B w v l) : (convert 117 9 v).run Tryd.prog w = .ok (.string ⟨l.toArray⟩) w := by
  have h' := h
  obtain ⟨hl, ⟨rfl, h0⟩ | ⟨g, cap, cur, rfl, _⟩⟩ := h
  · obtain rfl : l = [] := List.eq_nil_of_length_eq_zero h0
    have := run_convert_bytes_nil (P := Tryd.prog) w 117 5 Tryd.underlying117 Tryd.underlying5 0 0 9 Tryd.underlying9
    exact this
  · refine run_convert_bytes_back w 117 9 5 ⟨g, 0, none⟩ cap l Tryd.underlying117 Tryd.underlying5 Tryd.underlying9 (fun j hj => ?_)
    have ha : ((⟨g, 0, none⟩ : Addr).add j) = ⟨g, j, none⟩ := by unfold Addr.add; split <;> simp_all
    rw [ha, World.ownsRow.cellAt h' j (by omega)]
    simp [Go.Lib.byteCells, hj]
/-- a node as bytes -/
def ndB (k : Nat) (q : Nd) : List UInt8 := shN (k - q.p) ++ shN q.x.n.size ++ q.x.n.data.toList ++ shN q.x.k.toNat
def ndsB : Nat → List Nd → List UInt8
  | _, [] => []
  | k, q :: l => ndB k q ++ ndsB (k + 1) l
/-- a tree as bytes -/
def toldB (ns : List Nd) : List UInt8 := shN ns.length ++ ndsB 1 ns
theorem shN_length (n : Nat) : (shN n).length ≤ 3 := shF_length 2 n
theorem ndB_length (k : Nat) (q : Nd) : (ndB k q).length ≤ 9 + q.x.n.size := by
  have h1 := shN_length (k - q.p)
  have h2 := shN_length q.x.n.size
  have h3 := shN_length q.x.k.toNat
  have h4 : q.x.n.data.toList.length = q.x.n.size := rfl
  unfold ndB
  simp only [List.length_append]
  omega
theorem box_cells {w : World} {b : Nat} {x y z : Value} {t : TypeId} (h : w.heap[b]? = some (.cells #[x, y, z] t (0, 0))) : w.cell? ⟨b, 0, none⟩ = some x ∧ w.cell? ⟨b, 1, none⟩ = some y ∧ w.cell? ⟨b, 2, none⟩ = some z := by
  simp [World.cell?, h]
theorem BytesRow.more {B : Nat} {w : World} {v : Value} {l : List UInt8} {s : ByteArray} (h : w.ownsRow B 5 1 v (l.length + s.size) (Go.Lib.byteCells l ++ strCells s)) : BytesRow B w v (l ++ s.data.toList) := by
  unfold BytesRow
  rw [List.length_append]
  have e : Go.Lib.byteCells (l ++ s.data.toList) = Go.Lib.byteCells l ++ strCells s := by
    unfold Go.Lib.byteCells strCells
    rw [List.map_append]
  rw [e]
  exact h
def TreeB (w : World) (s : List UInt8) (e : Ending) (w' : World) : Prop := e = .returned (.string ⟨s.toArray⟩) ∧ Below w.heap.size w w'
set_option maxRecDepth 100000 in
set_option maxHeartbeats 8000000 in
theorem Told_in {B : Nat} {T : Nat} {v : Value} {m : Nat} {ns : List Nd} (w : World) (h : TreeAt B w T v m ns) (hw : Wf ns) :
    Calls Tryd.prog 26 #[.pointer (some ⟨T, 0, none⟩)] w (TreeB w (toldB ns)) := by
  have cL := Len_in w h
  have hfew := h.few
  have hT := h.lt
  obtain ⟨i0, hi, hz0, hz1, hz2⟩ := info_parts infoByteS
  obtain ⟨g, cap, rfl, _, hg, hat⟩ := h.nodes
  have c0 := h.c0
  have cS0 := appendShort_in ns.length (by omega) w.heap.size (.slice none 0 0) [] w (World.ownsRow_nil _ _ _ _) (Nat.le_refl _) (by simp)
  rw [List.nil_append] at cS0
  have hl0 := shN_length ns.length
  have hR0 : shN ns.length ++ ndsB 1 ns = toldB ns := rfl
  generalize toldB ns = R at *
  have HR := Lib.hid hR0
  clear hR0 h
  have hN0 : ((ns.length : Int) + 1 == 0) = false := by simp; omega
  go_enter Tryd.func26, Tryd.ntmps26
  go_wp2_with (first | (go_at_call 23; refine cL.mono ?_; rintro e w' ⟨rfl, rfl⟩) | (go_at_call 56; refine cS0.mono ?_; rintro e w1 ⟨v1, rfl, hr1, hb1, hk1⟩))
  go_loopw [3, 4] (fun u i wr => ∃ (j : Nat) (acc : List UInt8), i = .int .i64 (j : Int) ∧ 1 ≤ j ∧ j ≤ ns.length + 1 ∧ acc.length ≤ 3 + 129 * j ∧ acc ++ ndsB j (ns.drop (j - 1)) = R ∧ BytesRow w.heap.size wr u acc ∧ Below w.heap.size w wr)
    (fun _ i _ => ns.length + 1 - (RowKit.intOf i).toNat)
  case atStart => exact ⟨1, shN ns.length, rfl, Nat.le_refl _, by omega, by omega, HR.out, hr1, hb1⟩
  case round =>
    obtain ⟨j, acc, rfl, hj1, hj2, hal, hacc, hrow, hbw⟩ := hrel
    have hszr := hbw.size
    have f0 := (hbw.cell (p := ⟨T, 0, none⟩) hT).trans c0
    have HA := Lib.hid hacc
    clear hacc
    by_cases hlt : j < ns.length + 1
    · have hq : ns[j - 1]? = some (ns[j - 1]'(by omega)) := List.getElem?_eq_getElem (by omega)
      generalize (ns[j - 1]'(by omega)) = q at *
      have hq1 : (zeroNd :: ns)[j]? = some q := by
        obtain ⟨i, rfl⟩ : ∃ i, j = i + 1 := ⟨j - 1, by omega⟩
        exact hq
      obtain ⟨e1, e2, e3, e4⟩ := hat j q hq1
      obtain ⟨a1, _, a5, a6⟩ := hw.up (j - 1) q hq
      have hmb := mayB_bd a6
      have d1 := (hbw.cell (p := ⟨g, j * 4, none⟩) hg).trans e1
      have d2 := (hbw.cell (p := ⟨g, j * 4 + 1, none⟩) hg).trans e2
      have d3 := (hbw.cell (p := ⟨g, j * 4 + 2, none⟩) hg).trans e3
      have hdr : ns.drop (j - 1) = q :: ns.drop j := by
        rw [List.drop_eq_getElem_cons (by omega)]
        have e : ns[j - 1]'(by omega) = q := by
          have := hq
          rw [List.getElem?_eq_getElem (by omega)] at this
          exact Option.some.inj this
        rw [e, show j - 1 + 1 = j by omega]
      have hndl := ndB_length j q
      have s1 := shN_length (j - q.p)
      have s2 := shN_length q.x.n.size
      have hbx : Below w.heap.size w (wr.alloc (.cells #[.int .i64 (q.p : Int), .string q.x.n, .int .i64 q.x.k] 100)) := hbw.alloc hszr _
      have bx0 : (wr.alloc (.cells #[.int .i64 (q.p : Int), .string q.x.n, .int .i64 q.x.k] 100)).heap[wr.heap.size]? = some (.cells #[.int .i64 (q.p : Int), .string q.x.n, .int .i64 q.x.k] 100 (0, 0)) := by
        have := World.alloc_heap_new wr (.cells #[.int .i64 (q.p : Int), .string q.x.n, .int .i64 q.x.k] 100)
        simpa using this
      have hne : ∀ (cs : Array Value) (fr : Nat × Nat), Obj.cells #[.int .i64 (q.p : Int), .string q.x.n, .int .i64 q.x.k] 100 (0, 0) ≠ .cells cs 5 fr := fun cs fr e => by simp at e
      have cS1 := appendShort_in (j - q.p) (by omega) w.heap.size u3 acc _ (World.ownsRow.alloc hrow (.cells #[.int .i64 (q.p : Int), .string q.x.n, .int .i64 q.x.k] 100)) (by simp; omega) (by omega)
      rw [show ((j - q.p : Nat) : Int) = (j : Int) - (q.p : Int) by omega] at cS1
      have hkn : ((q.x.k.toNat : Nat) : Int) = q.x.k := by omega
      have HD := Lib.hid hdr
      have HNE := Lib.hid hne
      have HI := Lib.hid hi
      clear hdr hat e1 e2 e3 e4 hq hq1 hne cL cS0
      generalize hl : ns.length = z at *
      have hN : decide ((j : Int) < (z : Int) + 1) = true := by simp; omega
      go_wp2_with (first | (go_at_call 56; refine cS4.mono ?_; rintro e w4 ⟨v4, rfl, hr4, hb4, hk4⟩) | (go_at_call 56; refine cS2.mono ?_; rintro e w2 ⟨v2, rfl, hr2, hb2, hk2⟩; have bx2 := hk2.blk _ _ bx1 HNE.out; have p2 := box_cells bx2; obtain ⟨x21, x22, x23⟩ := p2) | (go_at_call 56; refine cS1.mono ?_; rintro e w1 ⟨v1, rfl, hr1, hb1, hk1⟩; have bx1 := hk1.blk _ _ bx0 HNE.out; have p1 := box_cells bx1; obtain ⟨x11, x12, x13⟩ := p1; have cS2 := appendShort_in q.x.n.size (by omega) w.heap.size v1 _ w1 hr1 (Nat.le_trans hbx.size hb1.size) (by simp only [List.length_append]; omega)) | (at_builtin; refine wpList_append_own_string _ rfl _ _ 117 9 rfl w.heap.size 5 i0 Tryd.underlying117 Tryd.underlying9 hi hz0 hz1 hz2 _ _ _ rfl hr2 q.x.n rfl (by simp only [List.length_append]; unfold maxLen; omega) (by simp only [List.length_append]; omega) (Nat.le_trans (Nat.le_trans hbx.size hb1.size) hb2.size) ?_; intro v3 w3 hown3 hg3 _; have hk3 := KeepB.of_grown hr2 hg3; have hb3 := ((hbx.trans hb1).trans hb2).grown hg3 (Nat.le_trans (Nat.le_trans hbx.size hb1.size) hb2.size) (fun k hk => (World.ownsRow.lt hr2 k hk).1); have hr3 := BytesRow.more hown3; have bx3 := hk3.blk _ _ bx2 HNE.out; have p3 := box_cells bx3; obtain ⟨x31, x32, x33⟩ := p3; have cS4 := appendShort_in q.x.k.toNat (by omega) w.heap.size v3 _ w3 hr3 hb3.size (by simp only [List.length_append]; show _ + q.x.n.size ≤ _; omega); rw [hkn] at cS4))
      go_roundw
      case rel =>
        refine ⟨j + 1, _, by go_num, by omega, by omega, ?_, ?_, hr4, hb3.trans hb4⟩
        · have h3 := shN_length q.x.k.toNat
          have h4 : q.x.n.data.toList.length = q.x.n.size := rfl
          simp only [List.length_append]
          omega
        · rw [← HA.out, HD.out, ndsB, show j + 1 - 1 = j by omega]
          unfold ndB
          simp only [List.append_assoc]
      case measure => simp [RowKit.intOf]; omega
    · have : j = ns.length + 1 := by omega
      subst this
      have hRe : acc = R := by
        rw [← HA.out, show ns.length + 1 - 1 = ns.length by omega, List.drop_length]; simp [ndsB]
      have hcv := bytes_string hrow
      have hN : decide (((ns.length + 1 : Nat) : Int) < (ns.length : Int) + 1) = false := by simp
      subst hRe
      go_wp2
      go_ret
      exact ⟨rfl, hbw⟩
end Go.Proofs.YtbldeiejlebbiaaDoor.T

/-
  place.cutShort: the short number with which a text begins.
-/
set_option linter.unusedVariables false
namespace Go.Proofs.YtbldeiejlebbiaaDoor.T
open Go Go.Lib Go.RowKit

def csF (s : ByteArray) : Nat → Nat → Nat → Nat × ByteArray × Bool
  | 0, _, _ => (0, ⟨#[]⟩, false)
  | f + 1, i, n => if i < s.size then (if bt s i < 128 then (n + bt s i * 128 ^ i, s.extract (i + 1) s.size, !(decide (bt s i = 0) && decide (i > 0))) else csF s f (i + 1) (n + bt s i % 128 * 128 ^ i)) else (0, ⟨#[]⟩, false)
/-- the number, what is behind it, and is it one? -/
def csN (s : ByteArray) : Nat × ByteArray × Bool := csF s 3 0 0
theorem or_i64 (i a b : Nat) (ha : a < 2 ^ i) (hb : b % 2 ^ i = 0) (h : a + b < 9223372036854775807) : bits BinOp.or IntKind.i64 (a : Int) (b : Int) = ((a + b : Nat) : Int) := by
  show IntKind.i64.wrap ((BitVec.ofInt 64 (a : Int) ||| BitVec.ofInt 64 (b : Int)).toNat : Int) = _
  rw [BitVec.toNat_or, ofInt_u64 a (by omega), ofInt_u64 b (by omega), Nat.or_comm, nat_join i b a hb ha, Nat.add_comm]
  exact wrap_i64_small _ (by omega)
set_option maxRecDepth 100000 in
set_option maxHeartbeats 4000000 in
theorem cutShort_in (s : ByteArray) (hs : s.size ≤ 268435456) (w : World) :
    Calls Tryd.prog 58 #[.string s] w fun e w' => e = .returned (.tuple #[.int .i64 ((csN s).1 : Int), .string (csN s).2.1, .bool (csN s).2.2]) ∧ Below w.heap.size w w' := by
  have hR0 : csF s 3 0 0 = csN s := rfl
  generalize csN s = R at *
  have HR := Lib.hid hR0
  clear hR0
  obtain ⟨M, hM⟩ : ∃ M : Nat, M = Min.min s.size 3 := ⟨_, rfl⟩
  have hM1 : M ≤ s.size := by omega
  have hM2 : M ≤ 3 := by omega
  have hmin : Min.min s.size 3 = M := hM.symm
  have hM3 : M = s.size ∨ M = 3 := by omega
  clear hM
  go_enter Tryd.func58, Tryd.ntmps58
  go_wp2
  go_loopw [2, 11] (fun u i wr => ∃ (k n : Nat), i = .int .i64 (k : Int) ∧ u = .int .i64 (n : Int) ∧ k ≤ M ∧ n < 128 ^ k ∧ csF s (3 - k) k n = R ∧ Below w.heap.size w wr)
    (fun _ i _ => M - (RowKit.intOf i).toNat)
  case atStart => exact ⟨0, 0, rfl, rfl, Nat.zero_le _, by omega, HR.out, Below.refl _ _⟩
  case round =>
    obtain ⟨k, n, rfl, rfl, hk, hn, hcs, hbw⟩ := hrel
    by_cases hlt : k < M
    · have hb0 : bt s k < 256 := bt_lt s k
      have hix := fun W => idx_bt s k (by omega) W
      have hN : decide ((k : Int) < (M : Int)) = true := by simp; omega
      have hcs2 : (if bt s k < 128 then (n + bt s k * 128 ^ k, s.extract (k + 1) s.size, !(decide (bt s k = 0) && decide (k > 0))) else csF s (3 - (k + 1)) (k + 1) (n + bt s k % 128 * 128 ^ k)) = R := by
        rw [← hcs, show 3 - k = (3 - (k + 1)) + 1 by omega, csF, if_pos (show k < s.size by omega)]
      clear hcs
      have hsl : ∀ W : World, (Instr.slice 9 (.string s) (some (.int .i64 ((k : Int) + 1))) none none).run Tryd.prog W = .ok (.string (s.extract (k + 1) s.size)) W := fun W => by
        rw [run_slice_string_from_if (P := Tryd.prog) W 9 s .i64 ((k : Int) + 1) Tryd.underlying9, if_pos (by omega), show ((k : Int) + 1).toNat = k + 1 by omega]
      generalize bt s k = b at *
      have hand : bits BinOp.and IntKind.i64 (b : Int) 127 = ((b % 128 : Nat) : Int) := by rw [i64_and127]; omega
      have hr : b % 128 < 128 := Nat.mod_lt _ (by omega)
      have hrb : b < 128 → b % 128 = b := fun h => Nat.mod_eq_of_lt h
      generalize hrr : b % 128 = r at *
      have HRR := Lib.hid hrr
      clear hrr
      have HC := Lib.hid hcs2
      clear hcs2
      have hk3 : k < 3 := by omega
      rcases (by omega : k = 0 ∨ k = 1 ∨ k = 2) with h | h | h
      · subst h
        have hix1 : ∀ W : World, (Instr.index 9 (.string s) (.int .i64 0)).run Tryd.prog W = .ok (.int .u8 (b : Int)) W := hix
        have hsl1 : ∀ W : World, (Instr.slice 9 (.string s) (some (.int .i64 1)) none none).run Tryd.prog W = .ok (.string (s.extract 1 s.size)) W := hsl
        have hN1 : decide ((0 : Int) < (M : Int)) = true := hN
        have hnb : n < 1 := hn
        have hP : (128 : Nat) ^ 0 = 1 := rfl
        have hn0 : n = 0 := by omega
        subst hn0
        have hor : bits BinOp.or IntKind.i64 0 (r : Int) = ((r : Nat) : Int) := by
          have := or_i64 0 0 r (by omega) (by omega) (by omega)
          rw [Nat.zero_add] at this
          exact this
        clear hix hsl hN hn
        by_cases hb : b < 128
        · have hL : decide ((b : Int) < 128) = true := by simp; omega
          have hRb : (0 + b * 1, s.extract 1 s.size, !(decide (b = 0) && decide (0 > 0))) = R := by have := HC.out; rwa [if_pos hb] at this
          have hrb' := hrb hb
          clear HC HRR hrb
          subst hrb'
          subst hRb
          by_cases hz : r = 0
          · have hz1 : ((r : Int) == 0) = true := by simp; omega
            go_wp2
            go_region
            go_wp2
            go_ret3
            refine ⟨?_, hbw.drew⟩
            simp
            rw [i64_and127, show wrap64 ((0 : Int) % 128) = 0 from by unfold wrap64; omega]; exact or_i64 0 0 0 (by omega) (by omega) (by omega)
          · have hz1 : ((r : Int) == 0) = false := by simp; omega
            go_wp2
            go_region
            go_wp2
            go_ret3
            exact ⟨by simp, hbw.drew⟩
        · have hL : decide ((b : Int) < 128) = false := by simp; omega
          have hRb : csF s (3 - (0 + 1)) (0 + 1) (0 + r * 1) = R := by have := HC.out; rwa [if_neg hb] at this
          clear HC
          have HB := Lib.hid hRb
          clear hRb
          go_wp2
          go_roundw
          case rel => exact ⟨1, 0 + r * 1, rfl, by first | rfl | go_num, by omega, by omega, HB.out, hbw⟩
          case measure => simp [RowKit.intOf]; omega
      · subst h
        have hix1 : ∀ W : World, (Instr.index 9 (.string s) (.int .i64 1)).run Tryd.prog W = .ok (.int .u8 (b : Int)) W := hix
        have hsl1 : ∀ W : World, (Instr.slice 9 (.string s) (some (.int .i64 2)) none none).run Tryd.prog W = .ok (.string (s.extract 2 s.size)) W := hsl
        have hN1 : decide ((1 : Int) < (M : Int)) = true := hN
        have hnb : n < 128 := hn
        have hP : (128 : Nat) ^ 1 = 128 := rfl
        have hor : bits BinOp.or IntKind.i64 (n : Int) ((r : Int) * 128) = ((n + r * 128 : Nat) : Int) := by
          have := or_i64 7 n (r * 128) (by omega) (by omega) (by omega)
          rwa [show ((r * 128 : Nat) : Int) = (r : Int) * 128 by omega] at this
        clear hix hsl hN hn
        by_cases hb : b < 128
        · have hL : decide ((b : Int) < 128) = true := by simp; omega
          have hRb : (n + b * 128, s.extract 2 s.size, !(decide (b = 0) && decide (1 > 0))) = R := by have := HC.out; rwa [if_pos hb] at this
          have hrb' := hrb hb
          clear HC HRR hrb
          subst hrb'
          subst hRb
          by_cases hz : r = 0
          · have hz1 : ((r : Int) == 0) = true := by simp; omega
            go_wp2
            go_region
            go_wp2
            go_ret3
            refine ⟨?_, hbw.drew⟩
            simp
            rw [i64_and127, show wrap64 ((0 : Int) % 128 * 128) = 0 from by unfold wrap64; omega]; exact or_i64 7 n 0 (by omega) (by omega) (by omega)
          · have hz1 : ((r : Int) == 0) = false := by simp; omega
            go_wp2
            go_region
            go_wp2
            go_ret3
            exact ⟨by simp, hbw.drew⟩
        · have hL : decide ((b : Int) < 128) = false := by simp; omega
          have hRb : csF s (3 - (1 + 1)) (1 + 1) (n + r * 128) = R := by have := HC.out; rwa [if_neg hb] at this
          clear HC
          have HB := Lib.hid hRb
          clear hRb
          go_wp2
          go_roundw
          case rel => exact ⟨2, n + r * 128, rfl, by first | rfl | go_num, by omega, by omega, HB.out, hbw⟩
          case measure => simp [RowKit.intOf]; omega
      · subst h
        have hix1 : ∀ W : World, (Instr.index 9 (.string s) (.int .i64 2)).run Tryd.prog W = .ok (.int .u8 (b : Int)) W := hix
        have hsl1 : ∀ W : World, (Instr.slice 9 (.string s) (some (.int .i64 3)) none none).run Tryd.prog W = .ok (.string (s.extract 3 s.size)) W := hsl
        have hN1 : decide ((2 : Int) < (M : Int)) = true := hN
        have hnb : n < 16384 := hn
        have hP : (128 : Nat) ^ 2 = 16384 := rfl
        have hor : bits BinOp.or IntKind.i64 (n : Int) ((r : Int) * 16384) = ((n + r * 16384 : Nat) : Int) := by
          have := or_i64 14 n (r * 16384) (by omega) (by omega) (by omega)
          rwa [show ((r * 16384 : Nat) : Int) = (r : Int) * 16384 by omega] at this
        clear hix hsl hN hn
        by_cases hb : b < 128
        · have hL : decide ((b : Int) < 128) = true := by simp; omega
          have hRb : (n + b * 16384, s.extract 3 s.size, !(decide (b = 0) && decide (2 > 0))) = R := by have := HC.out; rwa [if_pos hb] at this
          have hrb' := hrb hb
          clear HC HRR hrb
          subst hrb'
          subst hRb
          by_cases hz : r = 0
          · have hz1 : ((r : Int) == 0) = true := by simp; omega
            go_wp2
            go_region
            go_wp2
            go_ret3
            refine ⟨?_, hbw.drew⟩
            simp
            rw [i64_and127, show wrap64 ((0 : Int) % 128 * 16384) = 0 from by unfold wrap64; omega]; exact or_i64 14 n 0 (by omega) (by omega) (by omega)
          · have hz1 : ((r : Int) == 0) = false := by simp; omega
            go_wp2
            go_region
            go_wp2
            go_ret3
            exact ⟨by simp, hbw.drew⟩
        · have hL : decide ((b : Int) < 128) = false := by simp; omega
          have hRb : csF s (3 - (2 + 1)) (2 + 1) (n + r * 16384) = R := by have := HC.out; rwa [if_neg hb] at this
          clear HC
          have HB := Lib.hid hRb
          clear hRb
          go_wp2
          go_roundw
          case rel => exact ⟨3, n + r * 16384, rfl, by first | rfl | go_num, by omega, by omega, HB.out, hbw⟩
          case measure => simp [RowKit.intOf]; omega
    · have hkM : k = M := by omega
      subst hkM
      have hN : decide ((k : Int) < (k : Int)) = false := by simp
      have hRe : R = (0, ⟨#[]⟩, false) := by
        rw [← hcs]
        rcases hM3 with h | h
        · generalize 3 - k = f
          cases f with
          | zero => rfl
          | succ f => rw [csF, if_neg (by omega)]
        · rw [h]; rfl
      subst hRe
      go_wp2
      go_ret3
      exact ⟨rfl, hbw⟩
end Go.Proofs.YtbldeiejlebbiaaDoor.T

/-
  PLAIN: a short number is read back as it was written; so is a tree's node.
-/
set_option linter.unusedVariables false
namespace Go.Proofs.YtbldeiejlebbiaaDoor.T
open Go Go.Lib Go.RowKit

theorem bt_list {l : List UInt8} {i : Nat} {x : UInt8} (h : l[i]? = some x) : bt ⟨l.toArray⟩ i = x.toNat := by
  have hl : i < (⟨l.toArray⟩ : ByteArray).size := by
    have := (List.getElem?_eq_some_iff.1 h).1
    exact this
  rw [bt_get _ _ hl]
  obtain ⟨h1, h2⟩ := List.getElem?_eq_some_iff.1 h
  show ((l.toArray)[i]'hl).toNat = x.toNat
  rw [List.getElem_toArray, h2]
theorem ext_list (l : List UInt8) (k : Nat) : (⟨l.toArray⟩ : ByteArray).extract k (⟨l.toArray⟩ : ByteArray).size = ⟨(l.drop k).toArray⟩ := by
  apply ByteArray.ext
  show ((⟨l.toArray⟩ : ByteArray).extract k (⟨l.toArray⟩ : ByteArray).size).data = _
  rw [ByteArray.data_extract]
  apply Array.ext'
  simp [ByteArray.size]
  exact List.take_of_length_le (by simp)
theorem cs_read (n : Nat) (hn : n < 2097152) (rest : List UInt8) : csN ⟨(shN n ++ rest).toArray⟩ = (n, ⟨rest.toArray⟩, true) := by
  have hsz : ∀ l : List UInt8, (⟨l.toArray⟩ : ByteArray).size = l.length := fun l => rfl
  unfold csN
  by_cases h1 : n > 127
  · by_cases h2 : n / 128 > 127
    · have e : shN n = [UInt8.ofNat (n % 128 + 128), UInt8.ofNat (n / 128 % 128 + 128), UInt8.ofNat (n / 128 / 128)] := by
        unfold shN; rw [shF, if_pos h1, shF, if_pos h2, shF]
      rw [e]
      have b0 : bt ⟨([UInt8.ofNat (n % 128 + 128), UInt8.ofNat (n / 128 % 128 + 128), UInt8.ofNat (n / 128 / 128)] ++ rest).toArray⟩ 0 = n % 128 + 128 := by
        rw [bt_list (x := UInt8.ofNat (n % 128 + 128)) (by simp), UInt8.toNat_ofNat']; omega
      have b1 : bt ⟨([UInt8.ofNat (n % 128 + 128), UInt8.ofNat (n / 128 % 128 + 128), UInt8.ofNat (n / 128 / 128)] ++ rest).toArray⟩ 1 = n / 128 % 128 + 128 := by
        rw [bt_list (x := UInt8.ofNat (n / 128 % 128 + 128)) (by simp), UInt8.toNat_ofNat']; omega
      have b2 : bt ⟨([UInt8.ofNat (n % 128 + 128), UInt8.ofNat (n / 128 % 128 + 128), UInt8.ofNat (n / 128 / 128)] ++ rest).toArray⟩ 2 = n / 128 / 128 := by
        rw [bt_list (x := UInt8.ofNat (n / 128 / 128)) (by simp), UInt8.toNat_ofNat']; omega
      rw [csF, if_pos (by rw [hsz]; simp), b0, if_neg (by omega), csF, if_pos (by rw [hsz]; simp), b1, if_neg (by omega), csF, if_pos (by rw [hsz]; simp), b2, if_pos (by omega), ext_list]
      have : 0 < n / 128 / 128 := by omega
      simp only [Prod.mk.injEq]
      refine ⟨by omega, by simp, by simp; omega⟩
    · have e : shN n = [UInt8.ofNat (n % 128 + 128), UInt8.ofNat (n / 128)] := by
        unfold shN; rw [shF, if_pos h1, shF, if_neg h2]
      rw [e]
      have b0 : bt ⟨([UInt8.ofNat (n % 128 + 128), UInt8.ofNat (n / 128)] ++ rest).toArray⟩ 0 = n % 128 + 128 := by
        rw [bt_list (x := UInt8.ofNat (n % 128 + 128)) (by simp), UInt8.toNat_ofNat']; omega
      have b1 : bt ⟨([UInt8.ofNat (n % 128 + 128), UInt8.ofNat (n / 128)] ++ rest).toArray⟩ 1 = n / 128 := by
        rw [bt_list (x := UInt8.ofNat (n / 128)) (by simp), UInt8.toNat_ofNat']; omega
      rw [csF, if_pos (by rw [hsz]; simp), b0, if_neg (by omega), csF, if_pos (by rw [hsz]; simp), b1, if_pos (by omega), ext_list]
      have : 0 < n / 128 := by omega
      simp only [Prod.mk.injEq]
      refine ⟨by omega, by simp, by simp; omega⟩
  · have e : shN n = [UInt8.ofNat n] := by unfold shN; rw [shF, if_neg h1]
    rw [e]
    have b0 : bt ⟨([UInt8.ofNat n] ++ rest).toArray⟩ 0 = n := by
      rw [bt_list (x := UInt8.ofNat n) (by simp), UInt8.toNat_ofNat']; omega
    rw [csF, if_pos (by rw [hsz]; simp), b0, if_pos (by omega), ext_list]
    simp only [Prod.mk.injEq]
    refine ⟨by omega, by simp, by simp⟩
end Go.Proofs.YtbldeiejlebbiaaDoor.T

/-
  readNode of what Told has written.
-/
set_option linter.unusedVariables false
namespace Go.Proofs.YtbldeiejlebbiaaDoor.T
open Go Go.Lib Go.RowKit

theorem ext_take' (s : ByteArray) (p q : Nat) : (s.extract p q).data.toList = (s.data.toList.drop p).take (q - p) := by simp [List.extract]
theorem cutShort_read (n : Nat) (hn : n < 2097152) (rest : List UInt8) (hr : rest.length ≤ 268435000) (w : World) :
    Calls Tryd.prog 58 #[.string ⟨(shN n ++ rest).toArray⟩] w fun e w' => e = .returned (.tuple #[.int .i64 (n : Int), .string ⟨rest.toArray⟩, .bool true]) ∧ Below w.heap.size w w' := by
  have h3 := shN_length n
  have hsz : (⟨(shN n ++ rest).toArray⟩ : ByteArray).size = (shN n ++ rest).length := rfl
  have := cutShort_in ⟨(shN n ++ rest).toArray⟩ (by rw [hsz, List.length_append]; omega) w
  rw [cs_read n hn rest] at this
  exact this
def NodePost (B T m : Nat) (ns : List Nd) (q : Nd) (rest : List UInt8) (w : World) (e : Ending) (w' : World) : Prop :=
  ∃ ms v', e = .returned (.tuple #[.string ⟨rest.toArray⟩, .bool true]) ∧ Pushed ns q.p q.x ms (ns.length + 1) ∧ ms.length = ns.length + 1 ∧ TreeAt B w' T v' m ms ∧ KeepT T m w w' ∧ Below B w w'
theorem Pushed.new {ns ms : List Nd} {j n : Nat} {x : Pl} (h : Pushed ns j x ms n) (hi : (j, x) ∉ ns.map stepOf) : n = ns.length + 1 ∧ ms.length = ns.length + 1 := by
  obtain ⟨_, ⟨t, rfl⟩, h3, ⟨q, h4, rfl, rfl, h6⟩, _⟩ := h
  obtain ⟨n, rfl⟩ : ∃ k, n = k + 1 := ⟨n - 1, by omega⟩
  rw [nodeAt_succ] at h4
  have hlt := (List.getElem?_eq_some_iff.1 h4).1
  have hge : ns.length ≤ n := by
    rcases Nat.lt_or_ge n ns.length with h | h
    · rw [List.getElem?_append_left h] at h4
      exact (hi (List.mem_map.2 ⟨q, List.mem_of_getElem? h4, rfl⟩)).elim
    · exact h
  simp only [List.length_append] at h3 hlt ⊢
  omega
set_option maxRecDepth 100000 in
set_option maxHeartbeats 4000000 in
theorem readNode_in {B : Nat} {T : Nat} {v : Value} {m : Nat} {ns : List Nd} (q r : Nd) (rest : List UInt8) (w : World) (h : TreeAt B w T v m ns) (hw : Wf ns) (hq : nodeAt ns q.p = some r) (hd : r.d < 64) (hm : mayB q.x = true) (hroom : ns.length < 4095) (hi : (q.p, q.x) ∉ ns.map stepOf) (hr : rest.length ≤ 268400000) :
    Calls Tryd.prog 59 #[.pointer (some ⟨T, 0, none⟩), .string ⟨(ndB (ns.length + 1) q ++ rest).toArray⟩] w (NodePost B T m ns q rest w) := by
  have hmb := mayB_bd hm
  have hp : q.p ≤ ns.length := by have := (List.getElem?_eq_some_iff.1 hq).1; simp at this; omega
  have hnl : q.x.n.data.toList.length = q.x.n.size := rfl
  have s3 := shN_length q.x.k.toNat
  have s2 := shN_length q.x.n.size
  have C1 := fun W => cutShort_read (ns.length + 1 - q.p) (by omega) (shN q.x.n.size ++ (q.x.n.data.toList ++ (shN q.x.k.toNat ++ rest))) (by simp only [List.length_append]; omega) W
  have C2 := fun W => cutShort_read q.x.n.size (by omega) (q.x.n.data.toList ++ (shN q.x.k.toNat ++ rest)) (by simp only [List.length_append]; omega) W
  have C3 := fun W => cutShort_read q.x.k.toNat (by omega) rest (by omega) W
  have hkn : ((q.x.k.toNat : Nat) : Int) = q.x.k := by omega
  rw [hkn] at C3
  have hE : ndB (ns.length + 1) q ++ rest = shN (ns.length + 1 - q.p) ++ (shN q.x.n.size ++ (q.x.n.data.toList ++ (shN q.x.k.toNat ++ rest))) := by
    unfold ndB; simp only [List.append_assoc]
  rw [hE]
  have hS2 : (⟨(q.x.n.data.toList ++ (shN q.x.k.toNat ++ rest)).toArray⟩ : ByteArray).size = q.x.n.size + (shN q.x.k.toNat ++ rest).length := by
    show (q.x.n.data.toList ++ (shN q.x.k.toNat ++ rest)).length = _
    rw [List.length_append, hnl]
  have hext1 : (⟨(q.x.n.data.toList ++ (shN q.x.k.toNat ++ rest)).toArray⟩ : ByteArray).extract 0 q.x.n.size = q.x.n := by
    apply ByteArray.ext
    apply Array.ext'
    rw [ext_take', Nat.sub_zero, List.drop_zero, ← hnl]
    show List.take _ (q.x.n.data.toList ++ (shN q.x.k.toNat ++ rest)) = _
    exact List.take_left
  have hext2 : (⟨(q.x.n.data.toList ++ (shN q.x.k.toNat ++ rest)).toArray⟩ : ByteArray).extract q.x.n.size (⟨(q.x.n.data.toList ++ (shN q.x.k.toNat ++ rest)).toArray⟩ : ByteArray).size = ⟨(shN q.x.k.toNat ++ rest).toArray⟩ := by
    rw [ext_list, ← hnl, List.drop_left]
  generalize (⟨(shN (ns.length + 1 - q.p) ++ (shN q.x.n.size ++ (q.x.n.data.toList ++ (shN q.x.k.toNat ++ rest)))).toArray⟩ : ByteArray) = S0 at *
  generalize (⟨(shN q.x.n.size ++ (q.x.n.data.toList ++ (shN q.x.k.toNat ++ rest))).toArray⟩ : ByteArray) = S1 at *
  generalize (⟨(q.x.n.data.toList ++ (shN q.x.k.toNat ++ rest)).toArray⟩ : ByteArray) = S2 at *
  generalize (⟨(shN q.x.k.toNat ++ rest).toArray⟩ : ByteArray) = S3 at *
  have hge : q.x.n.size ≤ S2.size := by omega
  have hsl1 : ∀ W : World, (Instr.slice 9 (.string S2) none (some (.int .i64 (q.x.n.size : Int))) none).run Tryd.prog W = .ok (.string q.x.n) W := fun W => by
    rw [run_slice_string_to_if (P := Tryd.prog) W 9 S2 .i64 (q.x.n.size : Int) Tryd.underlying9, if_pos (by omega), Int.toNat_natCast, hext1]
  have hsl2 : ∀ W : World, (Instr.slice 9 (.string S2) (some (.int .i64 (q.x.n.size : Int))) none none).run Tryd.prog W = .ok (.string S3) W := fun W => by
    rw [run_slice_string_from_if (P := Tryd.prog) W 9 S2 .i64 (q.x.n.size : Int) Tryd.underlying9, if_pos (by omega), Int.toNat_natCast, hext2]
  have hN : decide ((q.x.n.size : Int) > (S2.size : Int)) = false := by simp; omega
  have hbk : (ns.length : Int) + 1 - ((ns.length + 1 - q.p : Nat) : Int) = (q.p : Int) := by omega
  generalize hb : ns.length + 1 - q.p = bk at *
  have hfew := h.few
  clear hE hS2 hext1 hext2 hnl s3 s2 hkn
  have HI := Lib.hid hi
  have HQ := Lib.hid hq
  clear hi hq
  go_enter Tryd.func59, Tryd.ntmps59
  have HBK := Lib.hid hbk
  have HBB := Lib.hid hb
  have HGE := Lib.hid hge
  have hN2 : decide (S2.size < q.x.n.size) = false := by simp; omega
  have HC2 := Lib.hid C2
  have HC3 := Lib.hid C3
  have H1 := Lib.hid hsl1
  have H2 := Lib.hid hsl2
  have HT := Lib.hid h
  have HW := Lib.hid hw
  clear C2 C3 hsl1 hsl2 hw hbk hb hN h
  go_wp2_with (go_at_call 58; first | (refine (C2' _).mono ?_; rintro e w2 ⟨rfl, hb2⟩; clear C2') | (refine (C1 _).mono ?_; rintro e w1 ⟨rfl, hb1⟩; clear C1; have C2' := HC2.out))
  have hsl1 := H1.out
  have hsl2 := H2.out
  have hb12 : Below w.heap.size w w2 := hb1.trans (hb2.mono hb1.size)
  go_region
  have C3' := HC3.out
  go_wp2_with (first | (go_at_call 48; refine cP.mono ?_; rintro e w4 ⟨ms, n4, v4, rfl, hP, ht4, hk4, hb4⟩; obtain ⟨rfl, hms⟩ := hP.new HI.out) | (go_at_call 23; refine cL.mono ?_; rintro e w' ⟨rfl, rfl⟩; have hbk := HBK.out) | (go_at_call 58; refine (C3' _).mono ?_; rintro e w3 ⟨rfl, hb3⟩; have hb13 := hb12.trans (Below.mono (Below.drew' hb3) hb12.size); have ht3 := HT.out.below hb13; have cL := Len_in w3 ht3; have cP := Push_ok q.p r q.x w3 ht3 HW.out HQ.out hm hd hroom))
  go_ret2
  exact ⟨ms, v4, rfl, hP, hms, ht4, (KeepT.of_below hb13).trans hk4, (hb13.mono HT.out.base).trans hb4⟩
end Go.Proofs.YtbldeiejlebbiaaDoor.T

/-
  From of what Told has written: the same tree, anew.
-/
set_option linter.unusedVariables false
namespace Go.Proofs.YtbldeiejlebbiaaDoor.T
open Go Go.Lib Go.RowKit

theorem row_base {B B' size n : Nat} {e : TypeId} {w : World} {v : Value} {xs : List Value} (h : w.ownsRow B e size v n xs) (hB : B' ≤ B) : w.ownsRow B' e size v n xs := by
  refine ⟨h.1, ?_⟩
  rcases h.2 with h' | ⟨g, cap, cur, h1, h2, h3⟩
  · exact .inl h'
  · exact .inr ⟨g, cap, cur, h1, by omega, h3⟩
theorem nodeAt_take {ns : List Nd} {k j : Nat} (h : j ≤ k) : nodeAt (ns.take k) j = nodeAt ns j := by
  cases j with
  | zero => rfl
  | succ j => rw [nodeAt_succ, nodeAt_succ, List.getElem?_take, if_pos (by omega)]
theorem Pushed.same {ns ms : List Nd} {k : Nat} {q : Nd} (hw : Wf ns) (hq : ns[k]? = some q) (hP : Pushed (ns.take k) q.p q.x ms (k + 1)) (hl : ms.length = k + 1) : ms = ns.take (k + 1) := by
  have hk : k < ns.length := (List.getElem?_eq_some_iff.1 hq).1
  obtain ⟨h1, ⟨t, rfl⟩, _, ⟨r, h4, h5, h6, _⟩, _⟩ := hP
  have htl : (ns.take k).length = k := by rw [List.length_take]; omega
  rw [List.length_append, htl] at hl
  obtain ⟨r', rfl⟩ : ∃ r', t = [r'] := List.length_eq_one_iff.1 (by omega)
  have hr : r' = r := by
    rw [nodeAt_succ, List.getElem?_append_right (by omega), htl, Nat.sub_self] at h4
    simpa using h4
  subst hr
  obtain ⟨a1, ⟨s1, a2, a3⟩, _⟩ := h1.up k r' h4
  obtain ⟨b1, ⟨s2, b2, b3⟩, _⟩ := hw.up k q hq
  have e1 : nodeAt (ns.take k ++ [r']) q.p = some s2 := nodeAt_pre (List.prefix_append _ _) (by rw [nodeAt_take b1]; exact b2)
  rw [h5, e1] at a2
  cases a2
  have : r' = q := by
    cases r'; cases q
    simp only at h5 h6 a3 b3
    subst h5 h6 a3 b3
    rfl
  subst this
  rw [List.take_add_one, hq]
  rfl
theorem take_new {ns : List Nd} {k : Nat} {q : Nd} (hw : Wf ns) (hq : ns[k]? = some q) : (q.p, q.x) ∉ (ns.take k).map stepOf := fun h => by
  obtain ⟨r, hr, he⟩ := List.mem_map.1 h
  obtain ⟨i, hi, hie⟩ := List.mem_iff_getElem.1 hr
  have hik : i < k := by rw [List.length_take] at hi; omega
  have : ns[i]? = some r := by
    rw [← hie, List.getElem_take]; exact List.getElem?_eq_getElem _
  unfold stepOf at he
  simp only [Prod.mk.injEq] at he
  have := hw.one i k r q this hq he.1 he.2
  omega
theorem ndsB_length : ∀ (l : List Nd) (k : Nat), (∀ q ∈ l, q.x.n.size ≤ 120) → (ndsB k l).length ≤ 129 * l.length
  | [], _, _ => Nat.le_refl _
  | q :: l, k, h => by
    have ih := ndsB_length l (k + 1) (fun x hx => h x (List.mem_cons_of_mem _ hx))
    have h1 := ndB_length k q
    have h2 := h q (List.mem_cons_self ..)
    unfold ndsB
    rw [List.length_append, List.length_cons]
    omega
def FromPost (ns : List Nd) (w : World) (e : Ending) (w' : World) : Prop :=
  ∃ T v m, e = .returned (.tuple #[.pointer (some ⟨T, 0, none⟩), .int .i64 0]) ∧ TreeAt w.heap.size w' T v m ns ∧ Below w.heap.size w w'
set_option maxRecDepth 100000 in
set_option maxHeartbeats 4000000 in
theorem From_in {ns : List Nd} (hw : Wf ns) (hl : ns.length ≤ 4095) (w : World) :
    Calls Tryd.prog 28 #[.string ⟨(toldB ns).toArray⟩] w (FromPost ns w) := by
  have h120 : ∀ q ∈ ns, q.x.n.size ≤ 120 := fun q hq => by
    obtain ⟨i, hi, rfl⟩ := List.mem_iff_getElem.1 hq
    have := mayB_bd (hw.up i _ (List.getElem?_eq_getElem hi)).2.2.2
    omega
  have hnl := ndsB_length ns 1 h120
  have C1 := cutShort_read ns.length (by omega) (ndsB 1 ns) (by omega) w
  unfold toldB
  generalize hS0 : (⟨(shN ns.length ++ ndsB 1 ns).toArray⟩ : ByteArray) = S0 at *
  generalize hS1 : (⟨(ndsB 1 ns).toArray⟩ : ByteArray) = S1 at *
  have HS1 := Lib.hid hS1
  clear hS0 hS1
  have hN0 : decide ((ns.length : Int) ≥ 4096) = false := by simp; omega
  have hN1 : decide (4096 ≤ ns.length) = false := by simp; omega
  go_enter Tryd.func28, Tryd.ntmps28
  go_wp2_with (first | (go_at_call 20; refine (New_in _).mono ?_; rintro e w2 ⟨T, v, m, rfl, ht2, hb2⟩) | (go_at_call 58; refine C1.mono ?_; rintro e w1 ⟨rfl, hb1⟩))
  have ht : TreeAt w.heap.size w2 T v m [] := ⟨ht2.blk, row_base ht2.row hb1.size, ht2.map, ⟨Nat.le_trans hb1.size ht2.lo.1, Nat.le_trans hb1.size ht2.lo.2⟩, ht2.ok, ht2.few⟩
  have hb12 : Below w.heap.size w w2 := hb1.trans (hb2.mono hb1.size)
  go_loopw [0, 5, 21] (fun u b i wr => ∃ (k : Nat) (v' : Value), i = .int .i64 (k : Int) ∧ b = .bool true ∧ u = .string ⟨(ndsB (k + 1) (ns.drop k)).toArray⟩ ∧ k ≤ ns.length ∧ Wf (ns.take k) ∧ TreeAt w.heap.size wr T v' m (ns.take k) ∧ Below w.heap.size w wr)
    (fun _ _ i _ => ns.length - (RowKit.intOf i).toNat)
  case atStart => exact ⟨0, v, rfl, rfl, congrArg Value.string HS1.out.symm, Nat.zero_le _, Wf.nil, ht, hb12⟩
  case round =>
    obtain ⟨k, v', rfl, rfl, rfl, hk, hwk, htk, hbw⟩ := hrel
    by_cases hlt : k < ns.length
    · have hq : ns[k]? = some (ns[k]'hlt) := List.getElem?_eq_getElem hlt
      have hdr : ns.drop k = ns[k]'hlt :: ns.drop (k + 1) := List.drop_eq_getElem_cons hlt
      generalize ns[k]'hlt = q at *
      obtain ⟨a1, ⟨r, a2, a3⟩, a5, a6⟩ := hw.up k q hq
      have htl : (ns.take k).length = k := by rw [List.length_take]; omega
      have hrl := ndsB_length (ns.drop (k + 1)) (k + 1 + 1) (fun x hx => h120 x (List.mem_of_mem_drop hx))
      rw [List.length_drop] at hrl
      have cR := readNode_in q r (ndsB (k + 1 + 1) (ns.drop (k + 1))) wr htk hwk (by rw [nodeAt_take a1]; exact a2) (by omega) a6 (by omega) (take_new hw hq) (by omega)
      rw [htl] at cR
      have hu : ndsB (k + 1) (ns.drop k) = ndB (k + 1) q ++ ndsB (k + 1 + 1) (ns.drop (k + 1)) := by rw [hdr]; rfl
      rw [hu]
      have hN : decide ((k : Int) < (ns.length : Int)) = true := by simp; omega
      have HQ := Lib.hid hq
      have HTL := Lib.hid htl
      clear hq hdr hu htl h120 hnl C1 hrl
      generalize (⟨(ndB (k + 1) q ++ ndsB (k + 1 + 1) (ns.drop (k + 1))).toArray⟩ : ByteArray) = S at *
      go_wp2_with (go_at_call 59; refine cR.mono ?_; rintro e w3 ⟨ms, v3, rfl, hP, hms, ht3, hk3, hb3⟩)
      rw [HTL.out] at hP hms
      have hsame := hP.same hw HQ.out hms
      subst hsame
      go_roundw
      case rel => exact ⟨k + 1, v3, by go_num, rfl, rfl, hlt, hP.1, ht3, hbw.trans hb3⟩
      case measure => simp [RowKit.intOf]; omega
    · have : k = ns.length := by omega
      subst this
      rw [List.take_length] at htk
      rw [List.drop_length]
      have hN : decide ((ns.length : Int) < (ns.length : Int)) = false := by simp
      have he : (⟨(ndsB (ns.length + 1) []).toArray⟩ : ByteArray) = ⟨#[]⟩ := rfl
      rw [he]
      go_wp2
      go_ret2
      exact ⟨T, v', m, rfl, htk, hbw⟩
end Go.Proofs.YtbldeiejlebbiaaDoor.T
