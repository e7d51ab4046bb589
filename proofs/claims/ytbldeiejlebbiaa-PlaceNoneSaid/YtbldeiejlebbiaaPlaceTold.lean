/-
  Told of a tree.
-/
import Derived.Test.YtbldeiejlebbiaaPlaceShort
import Derived.Test.YtbldeiejlebbiaaPlaceTreeStep
set_option linter.unusedVariables false
namespace Go.Proofs.Ytbldeiejlebbiaa.T
open Go Go.Lib Go.RowKit

theorem bytes_string {B : Nat} {w : World} {v : Value} {l : List UInt8} (h : BytesRow B w v l) : (convert 38 9 v).run Try.prog w = .ok (.string ⟨l.toArray⟩) w := by
  have h' := h
  obtain ⟨hl, ⟨rfl, h0⟩ | ⟨g, cap, cur, rfl, _⟩⟩ := h
  · obtain rfl : l = [] := List.eq_nil_of_length_eq_zero h0
    have := run_convert_bytes_nil (P := Try.prog) w 38 5 Try.underlying38 Try.underlying5 0 0 9 Try.underlying9
    exact this
  · refine run_convert_bytes_back w 38 9 5 ⟨g, 0, none⟩ cap l Try.underlying38 Try.underlying5 Try.underlying9 (fun j hj => ?_)
    have ha : ((⟨g, 0, none⟩ : Addr).add j) = ⟨g, j, none⟩ := by unfold Addr.add; split <;> simp_all
    rw [ha, World.ownsRow.cellAt h' j (by omega)]
    simp [Go.Lib.byteCells, hj]
/-- a node as bytes -/
def ndB (k : Nat) (q : Nd) : List UInt8 := shN (k - q.p) ++ shN q.x.n.size ++ q.x.n.data.toList ++ shN q.x.k.toNat
def ndsB : Nat → List Nd → List UInt8
  | _, [] => []
  | k, q :: l => ndB k q ++ ndsB (k + 1) l
/-- a tree as bytes -/
def toldB (ns : List Nd) : List UInt8 := shN ns.length ++ ndsB 1 ns
theorem shN_length (n : Nat) : (shN n).length ≤ 3 := shF_length 2 n
theorem ndB_length (k : Nat) (q : Nd) : (ndB k q).length ≤ 9 + q.x.n.size := by
  have h1 := shN_length (k - q.p)
  have h2 := shN_length q.x.n.size
  have h3 := shN_length q.x.k.toNat
  have h4 : q.x.n.data.toList.length = q.x.n.size := rfl
  unfold ndB
  simp only [List.length_append]
  omega
theorem box_cells {w : World} {b : Nat} {x y z : Value} {t : TypeId} (h : w.heap[b]? = some (.cells #[x, y, z] t (0, 0))) : w.cell? ⟨b, 0, none⟩ = some x ∧ w.cell? ⟨b, 1, none⟩ = some y ∧ w.cell? ⟨b, 2, none⟩ = some z := by
  simp [World.cell?, h]
theorem BytesRow.more {B : Nat} {w : World} {v : Value} {l : List UInt8} {s : ByteArray} (h : w.ownsRow B 5 1 v (l.length + s.size) (Go.Lib.byteCells l ++ strCells s)) : BytesRow B w v (l ++ s.data.toList) := by
  unfold BytesRow
  rw [List.length_append]
  have e : Go.Lib.byteCells (l ++ s.data.toList) = Go.Lib.byteCells l ++ strCells s := by
    unfold Go.Lib.byteCells strCells
    rw [List.map_append]
  rw [e]
  exact h
def TreeB (w : World) (s : List UInt8) (e : Ending) (w' : World) : Prop := e = .returned (.string ⟨s.toArray⟩) ∧ Below w.heap.size w w'
set_option maxRecDepth 100000 in
set_option maxHeartbeats 8000000 in
theorem Told_in {B : Nat} {T : Nat} {v : Value} {m : Nat} {ns : List Nd} (w : World) (h : TreeAt B w T v m ns) (hw : Wf ns) :
    Calls Try.prog 11 #[.pointer (some ⟨T, 0, none⟩)] w (TreeB w (toldB ns)) := by
  have cL := Len_in w h
  have hfew := h.few
  have hT := h.lt
  obtain ⟨i0, hi, hz0, hz1, hz2⟩ := info_parts infoByteS
  obtain ⟨g, cap, rfl, _, hg, hat⟩ := h.nodes
  have c0 := h.c0
  have cS0 := appendShort_in ns.length (by omega) w.heap.size (.slice none 0 0) [] w (World.ownsRow_nil _ _ _ _) (Nat.le_refl _) (by simp)
  rw [List.nil_append] at cS0
  have hl0 := shN_length ns.length
  have hR0 : shN ns.length ++ ndsB 1 ns = toldB ns := rfl
  generalize toldB ns = R at *
  have HR := Lib.hid hR0
  clear hR0 h
  have hN0 : ((ns.length : Int) + 1 == 0) = false := by simp; omega
  go_enter Try.func11, Try.ntmps11
  go_wp2_with (first | (go_at_call 9; refine cL.mono ?_; rintro e w' ⟨rfl, rfl⟩) | (go_at_call 19; refine cS0.mono ?_; rintro e w1 ⟨v1, rfl, hr1, hb1, hk1⟩))
  go_loopw [3, 4] (fun u i wr => ∃ (j : Nat) (acc : List UInt8), i = .int .i64 (j : Int) ∧ 1 ≤ j ∧ j ≤ ns.length + 1 ∧ acc.length ≤ 3 + 129 * j ∧ acc ++ ndsB j (ns.drop (j - 1)) = R ∧ BytesRow w.heap.size wr u acc ∧ Below w.heap.size w wr)
    (fun _ i _ => ns.length + 1 - (RowKit.intOf i).toNat)
  case atStart => exact ⟨1, shN ns.length, rfl, Nat.le_refl _, by omega, by omega, HR.out, hr1, hb1⟩
  case round =>
    obtain ⟨j, acc, rfl, hj1, hj2, hal, hacc, hrow, hbw⟩ := hrel
    have hszr := hbw.size
    have f0 := (hbw.cell (p := ⟨T, 0, none⟩) hT).trans c0
    have HA := Lib.hid hacc
    clear hacc
    by_cases hlt : j < ns.length + 1
    · have hq : ns[j - 1]? = some (ns[j - 1]'(by omega)) := List.getElem?_eq_getElem (by omega)
      generalize (ns[j - 1]'(by omega)) = q at *
      have hq1 : (zeroNd :: ns)[j]? = some q := by
        obtain ⟨i, rfl⟩ : ∃ i, j = i + 1 := ⟨j - 1, by omega⟩
        exact hq
      obtain ⟨e1, e2, e3, e4⟩ := hat j q hq1
      obtain ⟨a1, _, a5, a6⟩ := hw.up (j - 1) q hq
      have hmb := mayB_bd a6
      have d1 := (hbw.cell (p := ⟨g, j * 4, none⟩) hg).trans e1
      have d2 := (hbw.cell (p := ⟨g, j * 4 + 1, none⟩) hg).trans e2
      have d3 := (hbw.cell (p := ⟨g, j * 4 + 2, none⟩) hg).trans e3
      have hdr : ns.drop (j - 1) = q :: ns.drop j := by
        rw [List.drop_eq_getElem_cons (by omega)]
        have e : ns[j - 1]'(by omega) = q := by
          have := hq
          rw [List.getElem?_eq_getElem (by omega)] at this
          exact Option.some.inj this
        rw [e, show j - 1 + 1 = j by omega]
      have hndl := ndB_length j q
      have s1 := shN_length (j - q.p)
      have s2 := shN_length q.x.n.size
      have hbx : Below w.heap.size w (wr.alloc (.cells #[.int .i64 (q.p : Int), .string q.x.n, .int .i64 q.x.k] 46)) := hbw.alloc hszr _
      have bx0 : (wr.alloc (.cells #[.int .i64 (q.p : Int), .string q.x.n, .int .i64 q.x.k] 46)).heap[wr.heap.size]? = some (.cells #[.int .i64 (q.p : Int), .string q.x.n, .int .i64 q.x.k] 46 (0, 0)) := by
        have := World.alloc_heap_new wr (.cells #[.int .i64 (q.p : Int), .string q.x.n, .int .i64 q.x.k] 46)
        simpa using this
      have hne : ∀ (cs : Array Value) (fr : Nat × Nat), Obj.cells #[.int .i64 (q.p : Int), .string q.x.n, .int .i64 q.x.k] 46 (0, 0) ≠ .cells cs 5 fr := fun cs fr e => by simp at e
      have cS1 := appendShort_in (j - q.p) (by omega) w.heap.size u3 acc _ (World.ownsRow.alloc hrow (.cells #[.int .i64 (q.p : Int), .string q.x.n, .int .i64 q.x.k] 46)) (by simp; omega) (by omega)
      rw [show ((j - q.p : Nat) : Int) = (j : Int) - (q.p : Int) by omega] at cS1
      have hkn : ((q.x.k.toNat : Nat) : Int) = q.x.k := by omega
      have HD := Lib.hid hdr
      have HNE := Lib.hid hne
      have HI := Lib.hid hi
      clear hdr hat e1 e2 e3 e4 hq hq1 hne cL cS0
      generalize hl : ns.length = z at *
      have hN : decide ((j : Int) < (z : Int) + 1) = true := by simp; omega
      go_wp2_with (first | (go_at_call 19; refine cS4.mono ?_; rintro e w4 ⟨v4, rfl, hr4, hb4, hk4⟩) | (go_at_call 19; refine cS2.mono ?_; rintro e w2 ⟨v2, rfl, hr2, hb2, hk2⟩; have bx2 := hk2.blk _ _ bx1 HNE.out; have p2 := box_cells bx2; obtain ⟨x21, x22, x23⟩ := p2) | (go_at_call 19; refine cS1.mono ?_; rintro e w1 ⟨v1, rfl, hr1, hb1, hk1⟩; have bx1 := hk1.blk _ _ bx0 HNE.out; have p1 := box_cells bx1; obtain ⟨x11, x12, x13⟩ := p1; have cS2 := appendShort_in q.x.n.size (by omega) w.heap.size v1 _ w1 hr1 (Nat.le_trans hbx.size hb1.size) (by simp only [List.length_append]; omega)) | (at_builtin; refine wpList_append_own_string _ rfl _ _ 38 9 rfl w.heap.size 5 i0 Try.underlying38 Try.underlying9 hi hz0 hz1 hz2 _ _ _ rfl hr2 q.x.n rfl (by simp only [List.length_append]; unfold maxLen; omega) (by simp only [List.length_append]; omega) (Nat.le_trans (Nat.le_trans hbx.size hb1.size) hb2.size) ?_; intro v3 w3 hown3 hg3 _; have hk3 := KeepB.of_grown hr2 hg3; have hb3 := ((hbx.trans hb1).trans hb2).grown hg3 (Nat.le_trans (Nat.le_trans hbx.size hb1.size) hb2.size) (fun k hk => (World.ownsRow.lt hr2 k hk).1); have hr3 := BytesRow.more hown3; have bx3 := hk3.blk _ _ bx2 HNE.out; have p3 := box_cells bx3; obtain ⟨x31, x32, x33⟩ := p3; have cS4 := appendShort_in q.x.k.toNat (by omega) w.heap.size v3 _ w3 hr3 hb3.size (by simp only [List.length_append]; show _ + q.x.n.size ≤ _; omega); rw [hkn] at cS4))
      go_roundw
      case rel =>
        refine ⟨j + 1, _, by go_num, by omega, by omega, ?_, ?_, hr4, hb3.trans hb4⟩
        · have h3 := shN_length q.x.k.toNat
          have h4 : q.x.n.data.toList.length = q.x.n.size := rfl
          simp only [List.length_append]
          omega
        · rw [← HA.out, HD.out, ndsB, show j + 1 - 1 = j by omega]
          unfold ndB
          simp only [List.append_assoc]
      case measure => simp [RowKit.intOf]; omega
    · have : j = ns.length + 1 := by omega
      subst this
      have hRe : acc = R := by
        rw [← HA.out, show ns.length + 1 - 1 = ns.length by omega, List.drop_length]; simp [ndsB]
      have hcv := bytes_string hrow
      have hN : decide (((ns.length + 1 : Nat) : Int) < (ns.length : Int) + 1) = false := by simp
      subst hRe
      go_wp2
      go_ret
      exact ⟨rfl, hbw⟩
end Go.Proofs.Ytbldeiejlebbiaa.T
