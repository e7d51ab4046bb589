import Derived.Test.YtbldeiejlebbiaaDoorPlaceMeetsI

/-
  The document's tree as it lies in memory; Len, there, Parent, Depth.
-/
set_option linter.unusedVariables false
namespace Go.Proofs.YtbldeiejlebbiaaDoor.T
open Go Go.Lib Go.RowKit

/-- the document's node: its parent, its place -/
def rnC (n : Nd) : List Value := [.int .i64 n.p, .string n.x.n, .int .i64 n.x.k]
def rnCs (ns : List Nd) : List Value := ns.flatMap rnC
theorem rnCs_snoc (ns : List Nd) (n : Nd) : rnCs (ns ++ [n]) = rnCs ns ++ rnC n := by simp [rnCs]
theorem rnCs_length : ∀ ns : List Nd, (rnCs ns).length = ns.length * 3
  | [] => rfl
  | n :: ns => by
    have : rnCs (n :: ns) = rnC n ++ rnCs ns := rfl
    rw [this, List.length_append, rnCs_length ns]; simp [rnC]; omega
theorem rnCs_at : ∀ (ns : List Nd) (j : Nat) (n : Nd), ns[j]? = some n → (rnCs ns)[3 * j]? = some (.int .i64 n.p) ∧ (rnCs ns)[3 * j + 1]? = some (.string n.x.n) ∧ (rnCs ns)[3 * j + 2]? = some (.int .i64 n.x.k)
  | [], j, n, h => by simp at h
  | q :: ns, 0, n, h => by
    simp at h; subst h
    exact ⟨rfl, rfl, rfl⟩
  | q :: ns, j + 1, n, h => by
    have ih := rnCs_at ns j n (by simpa using h)
    have e : rnCs (q :: ns) = .int .i64 q.p :: .string q.x.n :: .int .i64 q.x.k :: rnCs ns := rfl
    rw [e, show 3 * (j + 1) = 3 * j + 1 + 1 + 1 from by omega, show 3 * j + 1 + 1 + 1 + 1 = (3 * j + 1) + 1 + 1 + 1 from by omega, show 3 * j + 1 + 1 + 1 + 2 = (3 * j + 2) + 1 + 1 + 1 from by omega]
    simpa using ih
/-- the document's tree lies at R, its nodes in the row v -/
structure RefAt (B : Nat) (w : World) (R : Nat) (v : Value) (ns : List Nd) : Prop where
  blk : w.heap[R]? = some (.cells #[v] 109 (0, 0))
  row : w.ownsRow B 121 3 v ns.length (rnCs ns)
  lo : B ≤ R
  few : ns.length ≤ 4096
theorem RefAt.lt {B : Nat} {w : World} {R : Nat} {v : Value} {ns : List Nd} (h : RefAt B w R v ns) : R < w.heap.size := (Array.getElem?_eq_some_iff.1 h.blk).1
theorem RefAt.base {B : Nat} {w : World} {R : Nat} {v : Value} {ns : List Nd} (h : RefAt B w R v ns) : B ≤ w.heap.size := by have := h.lo; have := h.lt; omega
theorem RefAt.c0 {B : Nat} {w : World} {R : Nat} {v : Value} {ns : List Nd} (h : RefAt B w R v ns) : w.cell? ⟨R, 0, none⟩ = some v := by simp [World.cell?, h.blk]
theorem RefAt.f0 {B : Nat} {w : World} {R : Nat} {v : Value} {ns : List Nd} (h : RefAt B w R v ns) (o : Nat) : w.frozen? ⟨R, o, none⟩ = false := by simp [World.frozen?, h.blk]
theorem RefAt.sl {B : Nat} {w : World} {R : Nat} {v : Value} {ns : List Nd} (h : RefAt B w R v ns) : ∃ a c, v = .slice a ns.length c ∧ ns.length ≤ c := by
  rcases h.row.2 with ⟨rfl, h0⟩ | ⟨g, cap, cur, rfl, _, _, h1, _⟩
  · exact ⟨none, 0, by rw [h0], by omega⟩
  · exact ⟨_, _, rfl, h1⟩
theorem RefAt.below {B : Nat} {w w' : World} {R : Nat} {v : Value} {ns : List Nd} (h : RefAt B w R v ns) (hb : Below w.heap.size w w') : RefAt B w' R v ns :=
  ⟨(hb.block R h.lt).trans h.blk, row_none h.row (below_grown hb), h.lo, h.few⟩
/-- what is read of a node -/
theorem RefAt.node {B : Nat} {w : World} {R : Nat} {v : Value} {ns : List Nd} (h : RefAt B w R v ns) {j : Nat} {n : Nd} (hj : ns[j]? = some n) :
    ∃ g cap, v = .slice (some ⟨g, 0, none⟩) ns.length cap ∧ g < w.heap.size ∧ w.cell? ⟨g, j * 3, none⟩ = some (.int .i64 n.p) ∧ w.cell? ⟨g, j * 3 + 1, none⟩ = some (.string n.x.n) ∧ w.cell? ⟨g, j * 3 + 2, none⟩ = some (.int .i64 n.x.k) := by
  have hjl : j < ns.length := (List.getElem?_eq_some_iff.1 hj).1
  obtain ⟨z, hz⟩ : ∃ z, ns.length = z + 1 := ⟨ns.length - 1, by omega⟩
  have hr := h.row
  rw [hz] at hr
  obtain ⟨g, cap, rfl, _⟩ := own_slice hr
  obtain ⟨e1, e2, e3⟩ := rnCs_at ns j n hj
  refine ⟨g, cap, by rw [hz], (hr.lt g rfl).2, ?_, ?_, ?_⟩
  · rw [hr.cellAt (j * 3) (by omega), Nat.mul_comm]; exact e1
  · rw [hr.cellAt (j * 3 + 1) (by omega), Nat.mul_comm]; exact e2
  · rw [hr.cellAt (j * 3 + 2) (by omega), Nat.mul_comm]; exact e3
theorem RLen_in {B : Nat} {R : Nat} {v : Value} {ns : List Nd} (w : World) (h : RefAt B w R v ns) :
    Calls Tryd.prog 24 #[.pointer (some ⟨R, 0, none⟩)] w fun e w' => e = .returned (.int .i64 ((ns.length : Int) + 1)) ∧ w = w' := by
  obtain ⟨a, c, rfl, _⟩ := h.sl
  have c0 := h.c0
  have hn := h.few
  go_enter Tryd.func24, Tryd.ntmps24
  go_wp2
  go_ret
  exact ⟨rfl, rfl⟩
theorem there_in {B : Nat} {R : Nat} {v : Value} {ns : List Nd} (k : Int) (w : World) (h : RefAt B w R v ns) :
    Calls Tryd.prog 74 #[.pointer (some ⟨R, 0, none⟩), .int .i64 k] w fun e w' => e = .returned (.bool (hasB ns.length k)) ∧ Dr w w' := by
  obtain ⟨a, c, rfl, _⟩ := h.sl
  have c0 := h.c0
  have hn := h.few
  generalize ns.length = n at *
  unfold hasB
  by_cases h0 : 0 ≤ k
  · have e0 : decide ((0 : Int) ≤ k) = true := decide_eq_true h0
    have e0' : decide (k ≥ (0 : Int)) = true := decide_eq_true h0
    by_cases h1 : k < (n : Int) + 1
    · have e1 : decide (k ≤ (n : Int)) = true := decide_eq_true (by omega)
      have e2 : decide (k < (n : Int) + 1) = true := decide_eq_true h1
      go_enter Tryd.func74, Tryd.ntmps74
      go_wp2
      go_ret
      exact ⟨by first | rfl | (rw [e0, e2]; rfl) | simp, Dr.refl _⟩
    · have e1 : decide (k ≤ (n : Int)) = false := decide_eq_false (by omega)
      have e2 : decide (k < (n : Int) + 1) = false := decide_eq_false h1
      go_enter Tryd.func74, Tryd.ntmps74
      go_wp2
      go_ret
      exact ⟨by first | rfl | (rw [e0, e2]; rfl) | simp, Dr.refl _⟩
  · have e0 : decide ((0 : Int) ≤ k) = false := decide_eq_false h0
    have e0' : decide (k ≥ (0 : Int)) = false := decide_eq_false h0
    go_enter Tryd.func74, Tryd.ntmps74
    go_wp2
    go_ret
    exact ⟨by first | rfl | (rw [e0]; rfl) | simp, Dr.refl _⟩
theorem RParent_in {B : Nat} {R : Nat} {v : Value} {ns : List Nd} (k : Int) (w : World) (h : RefAt B w R v ns) :
    Calls Tryd.prog 53 #[.pointer (some ⟨R, 0, none⟩), .int .i64 k] w fun e w' => e = .returned (.tuple #[.int .i64 (parentOf ns k).1, .bool (parentOf ns k).2]) ∧ Dr w w' := by
  have cH := there_in k w h
  have hn := h.few
  unfold parentOf
  cases hb : hasB ns.length k with
  | false =>
    rw [hb] at cH
    simp only [Bool.and_false, Bool.false_eq_true, ↓reduceIte]
    go_enter Tryd.func53, Tryd.ntmps53
    go_wp2_with (go_at_call 74; refine cH.mono ?_; rintro e w' ⟨rfl, hd⟩)
    go_ret2
    exact ⟨rfl, hd⟩
  | true =>
    rw [hb] at cH
    obtain ⟨j, rfl, hj⟩ := hasB_nat hb
    cases j with
    | zero =>
      have hk : ((((0 : Nat) : Int)) != 0) = false := rfl
      simp only [hk, Bool.false_and, Bool.false_eq_true, ↓reduceIte]
      go_enter Tryd.func53, Tryd.ntmps53
      go_wp2_with (go_at_call 74; refine cH.mono ?_; rintro e w' ⟨rfl, hd⟩)
      go_ret2
      exact ⟨rfl, hd⟩
    | succ j =>
      have hjl : j < ns.length := by omega
      have hq : ns[j]? = some ns[j] := List.getElem?_eq_getElem hjl
      generalize ns[j] = q at *
      have hk : ((((j + 1 : Nat) : Int)) != 0) = true := by simp; omega
      have hz : ((((zeroNd :: ns)[((j + 1 : Nat) : Int).toNat]?).map (·.p)).getD 0) = q.p := by
        rw [Int.toNat_natCast, List.getElem?_cons_succ, hq]; rfl
      simp only [hk, Bool.true_and, ↓reduceIte, hz]
      obtain ⟨g, cap, rfl, hg, e1, e2, e3⟩ := h.node hq
      have c0 := h.c0
      have hk2 : ((((j + 1 : Nat) : Int)) == 0) = false := by simp; omega
      have hk3 : (((j + 1 : Nat) : Int)) - 1 = (j : Int) := by omega
      clear hz hq h hb
      generalize ns.length = z at *
      generalize hm : j + 1 = m at *
      go_enter Tryd.func53, Tryd.ntmps53
      go_wp2_with (go_at_call 74; refine cH.mono ?_; rintro e w' ⟨rfl, hd⟩; have d0 := (hd.cell _).trans c0; have d1 := (hd.cell _).trans e1)
      go_ret2
      exact ⟨rfl, hd⟩
end Go.Proofs.YtbldeiejlebbiaaDoor.T

/-
  The document's tree: Depth, Stack.
-/
set_option linter.unusedVariables false
namespace Go.Proofs.YtbldeiejlebbiaaDoor.T
open Go Go.Lib Go.RowKit

theorem depthOf_node {ns : List Nd} {j : Nat} {q : Nd} (hq : nodeAt ns j = some q) : depthOf ns (j : Int) = q.d := by
  have hl : j < ns.length + 1 := by have := (List.getElem?_eq_some_iff.1 hq).1; simpa using this
  unfold depthOf
  rw [if_pos (hasB_true hl), Int.toNat_natCast]
  have e : (zeroNd :: ns)[j]? = some q := hq
  rw [e]; rfl
theorem nodeAt_has {ns : List Nd} {k : Int} (h : hasB ns.length k = true) : ∃ (j : Nat) (q : Nd), k = (j : Int) ∧ nodeAt ns j = some q := by
  obtain ⟨j, rfl, hj⟩ := hasB_nat h
  exact ⟨j, _, rfl, List.getElem?_eq_getElem (by simpa using hj)⟩
set_option maxRecDepth 100000 in
set_option maxHeartbeats 4000000 in
theorem RDepth_in {B : Nat} {R : Nat} {v : Value} {ns : List Nd} (k : Int) (w : World) (h : RefAt B w R v ns) (hw : Wf ns) :
    Calls Tryd.prog 55 #[.pointer (some ⟨R, 0, none⟩), .int .i64 k] w fun e w' => e = .returned (.int .i64 (depthOf ns k)) ∧ Dr w w' := by
  have cH := there_in k w h
  have hn := h.few
  cases hb : hasB ns.length k with
  | false =>
    rw [hb] at cH
    have hd : depthOf ns k = 0 := by unfold depthOf; rw [hb]; rfl
    rw [hd]
    go_enter Tryd.func55, Tryd.ntmps55
    go_wp2_with (go_at_call 74; refine cH.mono ?_; rintro e w' ⟨rfl, hd⟩)
    go_ret
    exact ⟨rfl, hd⟩
  | true =>
    rw [hb] at cH
    obtain ⟨j0, q0, rfl, hq0⟩ := nodeAt_has hb
    rw [depthOf_node hq0]
    have hd64 : q0.d ≤ 64 := by
      cases j0 with
      | zero => cases hq0; exact Nat.zero_le _
      | succ n => exact (hw.up n q0 hq0).2.2.1
    have hj0 : j0 < ns.length + 1 := by have := (List.getElem?_eq_some_iff.1 hq0).1; simpa using this
    have H := Lib.hid h
    have HQ0 := Lib.hid hq0
    have HW := Lib.hid hw
    have hR := h.lt
    have c0 := h.c0
    obtain ⟨a, c, rfl, _⟩ := h.sl
    clear h hq0 hw hb
    go_enter Tryd.func55, Tryd.ntmps55
    go_wp2_with (go_at_call 74; refine cH.mono ?_; rintro e w' ⟨rfl, hd⟩)
    have HD := Lib.hid hd
    clear hd cH
    go_loopw [1, 5] (fun u i wr => ∃ (j d : Nat) (q : Nd), u = .int .i64 (j : Int) ∧ i = .int .i64 (d : Int) ∧ nodeAt ns j = some q ∧ d + q.d = q0.d ∧ Dr w wr)
      (fun u _ _ => (RowKit.intOf u).toNat)
    case atStart => exact ⟨j0, 0, q0, rfl, rfl, HQ0.out, by omega, HD.out⟩
    case round =>
      obtain ⟨j, d, q, rfl, rfl, hq, hdq, hdr⟩ := hrel
      cases j with
      | zero =>
        have hqd : q.d = 0 := by rw [nodeAt_zero] at hq; cases hq; rfl
        have hN : decide (((0 : Nat) : Int) > 0) = false := rfl
        obtain rfl : d = q0.d := by omega
        go_wp2
        go_ret
        exact ⟨rfl, hdr⟩
      | succ j =>
        obtain ⟨g, cap, he, hg, e1, e2, e3⟩ := H.out.node hq
        obtain ⟨a1, ⟨r, a2, a3⟩, a5, a6⟩ := HW.out.up j q hq
        simp only [Value.slice.injEq] at he
        obtain ⟨rfl, _, rfl⟩ := he
        have d0 := (hdr.cell _).trans c0
        have d1 := (hdr.cell _).trans e1
        have hjl : j < ns.length := by have := (List.getElem?_eq_some_iff.1 hq).1; simpa using this
        have HA := Lib.hid a2
        clear hq a2 e1 e2 e3
        generalize hz : ns.length = z at *
        have hN : decide ((((j + 1 : Nat) : Int)) > 0) = true := decide_eq_true (by omega)
        have hk3 : (((j + 1 : Nat) : Int)) - 1 = (j : Int) := by omega
        generalize hm : j + 1 = m at *
        have hm0 : 0 < m := by omega
        go_wp2
        go_roundw
        case rel => exact ⟨q.p, d + 1, r, rfl, by go_num, HA.out, by omega, hdr⟩
        case measure => simp [RowKit.intOf]; omega
def RStackPost (B : Nat) (l : List Pl) (w : World) (e : Ending) (w' : World) : Prop :=
  ∃ v, e = .returned (.tuple #[v, .int .i64 0]) ∧ PRow 96 B w' v l ∧ Below w.heap.size w w'
theorem infoRefP : (Tryd.prog.info? 96).map (fun i => (i.zero, i.size, i.bytes)) = some (some (.agg #[.string ⟨#[]⟩, .int .i64 0]), 2, 24) := by kernel_rfl
theorem pl_one (B : Nat) (W : World) (hB : B ≤ W.heap.size) (e : TypeId) (x : Pl) : PRow e B (W.alloc (.cells #[.string x.n, .int .i64 x.k] e)) (.slice (some ⟨W.heap.size, 0, none⟩) 1 1) [x] :=
  ⟨rfl, .inr ⟨W.heap.size, 1, #[.string x.n, .int .i64 x.k], rfl, hB, heap_alloc_new W _, Nat.le_refl _, by decide, rfl, rfl⟩⟩
set_option maxRecDepth 100000 in
set_option maxHeartbeats 4000000 in
theorem RStack_in {B : Nat} {R : Nat} {v : Value} {ns : List Nd} (j0 : Nat) (q0 : Nd) (w : World) (h : RefAt B w R v ns) (hw : Wf ns) (hq0 : nodeAt ns j0 = some q0) :
    Calls Tryd.prog 54 #[.pointer (some ⟨R, 0, none⟩), .int .i64 (j0 : Int)] w (RStackPost w.heap.size (path ns j0) w) := by
  have cH := there_in (j0 : Int) w h
  have hj0 : j0 < ns.length + 1 := by have := (List.getElem?_eq_some_iff.1 hq0).1; simpa using this
  rw [hasB_true hj0] at cH
  have hn := h.few
  have hpl : (path ns j0).length ≤ 64 := by
    rw [path_depth hw j0 j0 q0 (Nat.le_refl _) hq0]
    cases j0 with
    | zero => cases hq0; exact Nat.zero_le _
    | succ n => exact (hw.up n q0 hq0).2.2.1
  generalize hL : path ns j0 = L at *
  have HL := Lib.hid hL
  have H := Lib.hid h
  have HQ0 := Lib.hid hq0
  have HW := Lib.hid hw
  have hR := h.lt
  have c0 := h.c0
  obtain ⟨a, c, rfl, _⟩ := h.sl
  clear h hq0 hw hL
  go_enter Tryd.func54, Tryd.ntmps54
  go_wp2_with (go_at_call 74; refine cH.mono ?_; rintro e w' ⟨rfl, hd⟩)
  have HB := Lib.hid (hd.below w.heap.size)
  clear hd cH
  go_loopw [1, 6] (fun u s wr => ∃ (j : Nat) (q : Nd) (acc : List Pl), u = .int .i64 (j : Int) ∧ nodeAt ns j = some q ∧ path ns j ++ acc = L ∧ PRow 96 w.heap.size wr s acc ∧ Below w.heap.size w wr)
    (fun u _ _ => (RowKit.intOf u).toNat)
  case atStart => exact ⟨j0, q0, [], rfl, HQ0.out, by rw [List.append_nil]; exact HL.out, PRow.nil _ _ _, HB.out⟩
  case round =>
    obtain ⟨j, q, acc, rfl, hq, hpa, hrow, hbw⟩ := hrel
    have hal : acc.length ≤ 64 := by
      have := congrArg List.length hpa
      simp at this
      omega
    cases j with
    | zero =>
      have hLr : L = acc := by rw [path_zero] at hpa; simpa using hpa.symm
      have hN : decide (((0 : Nat) : Int) > 0) = false := rfl
      subst hLr
      go_wp2
      go_ret2
      exact ⟨_, rfl, hrow, hbw⟩
    | succ j =>
      obtain ⟨g, cap, he, hg, e1, e2, e3⟩ := H.out.node hq
      have hps := path_succ HW.out hq
      obtain ⟨a1, ⟨r, a2, a3⟩, a5, a6⟩ := HW.out.up j q hq
      simp only [Value.slice.injEq] at he
      obtain ⟨rfl, _, rfl⟩ := he
      have hszr := hbw.size
      have d0 := (hbw.cell (p := ⟨R, 0, none⟩) hR).trans c0
      have d1 := (hbw.cell (p := ⟨g, j * 3 + 1, none⟩) hg).trans e2
      have d2 := (hbw.cell (p := ⟨g, j * 3 + 2, none⟩) hg).trans e3
      have hjl : j < ns.length := by have := (List.getElem?_eq_some_iff.1 hq).1; simpa using this
      have hb2 : Below wr.heap.size wr (wr.alloc (.cells #[.string q.x.n, .int .i64 q.x.k] 96)) := (Below.refl _ wr).alloc (Nat.le_refl _) _
      obtain ⟨v', w', hrun, hrow', hg'⟩ := app_all (sl := 32) (by kernel_rfl) infoRefP w.heap.size _ _ _ u6 [q.x] acc (pl_one w.heap.size wr hszr 96 q.x) (PRow.below hrow hb2).sl (by simp; omega) (Nat.le_trans hszr hb2.size)
      have hb3 := (hbw.trans (hb2.mono hszr)).grown hg' (Nat.le_trans hszr hb2.size) (fun k hk => by cases hk; exact hszr)
      have f0 := (hb3.cell (p := ⟨R, 0, none⟩) hR).trans c0
      have f1 := (hb3.cell (p := ⟨g, j * 3, none⟩) hg).trans e1
      have HA := Lib.hid a2
      have HP := Lib.hid hpa
      have HS := Lib.hid hps
      have HR' := Lib.hid hrow'
      have HB3 := Lib.hid hb3
      clear hq a2 e1 e2 e3 hpa hps hrow hrow' hb2 hb3 hg' hbw
      generalize hz : ns.length = z at *
      have hN : decide ((((j + 1 : Nat) : Int)) > 0) = true := decide_eq_true (by omega)
      have hk3 : (((j + 1 : Nat) : Int)) - 1 = (j : Int) := by omega
      generalize hm : j + 1 = m at *
      have hm0 : 0 < m := by omega
      go_wp2_with (at_builtin; refine wpList_append_run rfl _ _ 32 rfl _ _ _ _ rfl rfl hrun ?_)
      go_roundw
      case rel => exact ⟨q.p, r, [q.x] ++ acc, rfl, HA.out, by rw [← HP.out, HS.out]; simp, HR'.out, HB3.out⟩
      case measure => simp [RowKit.intOf]; omega
end Go.Proofs.YtbldeiejlebbiaaDoor.T

/-
  PLAIN: what a push comes to, all that may be wrong told; what outlives the document's tree's growth.
-/
set_option linter.unusedVariables false
namespace Go.Proofs.YtbldeiejlebbiaaDoor.T
open Go Go.Lib Go.RowKit

/-- is a node this step? -/
def isStep (n : Nd) (j : Nat) (x : Pl) : Bool := n.p == j && eqP n.x x
theorem isStep_iff {n : Nd} {j : Nat} {x : Pl} : isStep n j x = true ↔ stepOf n = (j, x) := by
  unfold isStep stepOf
  constructor
  · intro h
    simp only [Bool.and_eq_true, beq_iff_eq] at h
    rw [h.1, eqM_eq h.2]
  · intro h
    simp only [Prod.mk.injEq] at h
    rw [h.1, h.2, eqM_self]
    simp
/-- the first node that is this step -/
def findS : List Nd → Nat → Pl → Option Nat
  | [], _, _ => none
  | n :: ns, j, x => if isStep n j x then some 0 else (findS ns j x).map (· + 1)
theorem findS_some : ∀ {ns : List Nd} {j : Nat} {x : Pl} {i : Nat}, findS ns j x = some i → (ns.map stepOf)[i]? = some (j, x)
  | [], _, _, _, h => by cases h
  | n :: ns, j, x, i, h => by
    unfold findS at h
    split at h
    · rename_i hs
      cases h
      simp [isStep_iff.1 hs]
    · obtain ⟨k, hk, rfl⟩ := Option.map_eq_some_iff.1 h
      simpa using findS_some hk
theorem findS_none : ∀ {ns : List Nd} {j : Nat} {x : Pl}, findS ns j x = none → (j, x) ∉ ns.map stepOf
  | [], _, _, _ => by simp
  | n :: ns, j, x, h => by
    unfold findS at h
    split at h
    · cases h
    · rename_i hs
      have h2 := findS_none (Option.map_eq_none_iff.1 h)
      intro hm
      rcases List.mem_cons.1 hm with hm | hm
      · exact hs (isStep_iff.2 hm.symm)
      · exact h2 hm
/-- the search, from the i-th on -/
theorem findS_at : ∀ (ns : List Nd) (j : Nat) (x : Pl) (i : Nat), (∀ k n, k < i → ns[k]? = some n → isStep n j x = false) → findS ns j x = (findS (ns.drop i) j x).map (· + i)
  | ns, j, x, 0, _ => by simp
  | [], j, x, i + 1, _ => by simp [findS]
  | n :: ns, j, x, i + 1, h => by
    have h0 := h 0 n (by omega) rfl
    have ih := findS_at ns j x i (fun k m hk hm => h (k + 1) m (by omega) (by simpa using hm))
    rw [List.drop_succ_cons]
    show (if isStep n j x then some 0 else (findS ns j x).map (· + 1)) = _
    rw [h0, ih]
    simp only [Bool.false_eq_true, ↓reduceIte, Option.map_map]
    congr 1
theorem moreB {B : Nat} {w W W' : World} (hb : Below B w W) (hB : B ≤ W.heap.size) (h : Below W.heap.size W W') : Below B w W' := hb.trans (h.mono hB)
/-- a push: the code, the number, the nodes -/
def pushF (ns : List Nd) (k : Int) (x : Pl) : Nat × Nat × List Nd :=
  if hasB ns.length k = false then (1, 0, ns) else
  if mayB x = false then (30, 0, ns) else
  if depthOf ns k = 64 then (31, 0, ns) else
  match findS ns k.toNat x with
  | some i => (0, i + 1, ns)
  | none => if ns.length = 4095 then (3, 0, ns) else (0, ns.length + 1, ns ++ [⟨k.toNat, x, depthOf ns k + 1⟩])
theorem pushF_wf {ns : List Nd} (hw : Wf ns) (k : Int) (x : Pl) : Wf (pushF ns k x).2.2 ∧ ns <+: (pushF ns k x).2.2 ∧ (pushF ns k x).2.2.length ≤ ns.length + 1 ∧ (ns.length ≤ 4095 → (pushF ns k x).2.2.length ≤ 4095) := by
  unfold pushF
  split
  · exact ⟨hw, List.prefix_refl _, by simp, fun h => h⟩
  · rename_i h1
    split
    · exact ⟨hw, List.prefix_refl _, by simp, fun h => h⟩
    · rename_i h2
      split
      · exact ⟨hw, List.prefix_refl _, by simp, fun h => h⟩
      · rename_i h3
        split
        · exact ⟨hw, List.prefix_refl _, by simp, fun h => h⟩
        · rename_i hf
          split
          · exact ⟨hw, List.prefix_refl _, by simp, fun h => h⟩
          · rename_i h4
            obtain ⟨j, q, rfl, hq⟩ := nodeAt_has (by simpa using h1)
            rw [depthOf_node hq] at h3 ⊢
            rw [Int.toNat_natCast] at hf ⊢
            have hd : q.d ≤ 64 := by
              cases j with
              | zero => cases hq; exact Nat.zero_le _
              | succ n => exact (hw.up n q hq).2.2.1
            exact ⟨hw.push hq (by omega) (by simpa using h2) (findS_none hf), List.prefix_append _ _, by simp, fun h => by simp; omega⟩
/-- all but the document's tree with the block R and rows of its nodes lies as it lay -/
structure KeepR (R : Nat) (w w' : World) : Prop where
  os : w'.os = w.os
  tape : w'.tape = w.tape
  output : w'.output = w.output
  size : w.heap.size ≤ w'.heap.size
  blk : ∀ (b : Nat) (o : Obj), w.heap[b]? = some o → b ≠ R → (∀ cs fr, o ≠ .cells cs 121 fr) → w'.heap[b]? = some o
theorem KeepR.refl (R : Nat) (w : World) : KeepR R w w := ⟨rfl, rfl, rfl, Nat.le_refl _, fun _ _ h _ _ => h⟩
theorem KeepR.trans {R : Nat} {a b c : World} (h : KeepR R a b) (k : KeepR R b c) : KeepR R a c :=
  ⟨k.os.trans h.os, k.tape.trans h.tape, k.output.trans h.output, Nat.le_trans h.size k.size, fun i o hi h1 h3 => k.blk i o (h.blk i o hi h1 h3) h1 h3⟩
theorem KeepR.of_below {R : Nat} {w w' : World} (h : Below w.heap.size w w') : KeepR R w w' :=
  ⟨h.os, h.tape, h.output, h.size, fun b o hb _ _ => (h.block b (Array.getElem?_eq_some_iff.1 hb).1).trans hb⟩
/-- a row of another type outlives it -/
theorem row_keepR {B B' R size n : Nat} {e : TypeId} {w w' : World} {u v : Value} {xs : List Value} {ns : List Nd} (hn : e ≠ 121) (ht0 : e ≠ 109) (h : w.ownsRow B e size u n xs) (ht : RefAt B' w R v ns) (k : KeepR R w w') : w'.ownsRow B e size u n xs := by
  obtain ⟨hl, hno | ⟨g, cap, cur, rfl, hg, hcur, r⟩⟩ := h
  · exact ⟨hl, .inl hno⟩
  · refine ⟨hl, .inr ⟨g, cap, cur, rfl, hg, k.blk g _ hcur (fun e => ?_) (fun cs fr e => ?_), r⟩⟩
    · subst e
      rw [ht.blk] at hcur
      simp only [Option.some.injEq, Obj.cells.injEq] at hcur
      exact ht0 hcur.2.1.symm
    · simp only [Obj.cells.injEq] at e
      exact hn e.2.1
/-- so does the program's tree -/
theorem TreeAt.keepR {B B' T m R : Nat} {w w' : World} {u v : Value} {ns ms : List Nd} (h : TreeAt B w T v m ns) (ht : RefAt B' w R u ms) (k : KeepR R w w') : TreeAt B w' T v m ns := by
  have hT : T ≠ R := fun e => by
    have h1 := h.blk
    rw [e, ht.blk] at h1
    simp at h1
  have hM : m ≠ R := fun e => by
    obtain ⟨es, n, h1⟩ := h.map.obj
    rw [e, ht.blk] at h1
    simp at h1
  refine ⟨k.blk T _ h.blk hT (fun cs fr e => by simp at e), row_keepR (by decide) (by decide) h.row ht k, ?_, h.lo, h.ok, h.few⟩
  obtain ⟨D, ⟨es, clock, hb, F, hs, hD⟩, h2, h3⟩ := h.map
  exact ⟨D, ⟨es, clock, k.blk m _ hb hM (fun cs fr e => by cases e), F, hs, hD⟩, h2, h3⟩
/-- and the document's tree the program's -/
theorem RefAt.keepT {B B' T m R : Nat} {w w' : World} {u v : Value} {ns ms : List Nd} (h : RefAt B w R u ms) (ht : TreeAt B' w T v m ns) (k : KeepT T m w w') : RefAt B w' R u ms := by
  have hT : R ≠ T := fun e => by
    have h1 := h.blk
    rw [e, ht.blk] at h1
    simp at h1
  have hM : R ≠ m := fun e => by
    obtain ⟨es, n, h1⟩ := ht.map.obj
    have h2 := h.blk
    rw [e, h1] at h2
    simp at h2
  exact ⟨k.blk R _ h.blk hT hM (fun cs fr e => by simp at e), row_keepT (by decide) (by decide) h.row ht k, h.lo, h.few⟩
end Go.Proofs.YtbldeiejlebbiaaDoor.T

/-
  Push and Add of the program's tree, whatever they are asked.
-/
set_option linter.unusedVariables false
namespace Go.Proofs.YtbldeiejlebbiaaDoor.T
open Go Go.Lib Go.RowKit

def PushAPost (B T m : Nat) (ns : List Nd) (k : Int) (x : Pl) (w : World) (e : Ending) (w' : World) : Prop :=
  e = .returned (.tuple #[.int .i64 (((pushF ns k x).2.1 : Nat) : Int), .int .i64 (((pushF ns k x).1 : Nat) : Int)]) ∧ ∃ v', TreeAt B w' T v' m (pushF ns k x).2.2 ∧ KeepT T m w w' ∧ Below B w w'
theorem Push_any {B : Nat} {T : Nat} {v : Value} {m : Nat} {ns : List Nd} (k : Int) (x : Pl) (hx : x.n.size ≤ 140737488351232) (w : World) (h : TreeAt B w T v m ns) (hw : Wf ns) (hl : ns.length ≤ 4095) :
    Calls Tryd.prog 48 #[.pointer (some ⟨T, 0, none⟩), .int .i64 k, .agg #[.string x.n, .int .i64 x.k]] w (PushAPost B T m ns k x w) := by
  have quiet : ∀ (e : Ending) (w' : World) (n c : Nat), pushF ns k x = (c, n, ns) → e = .returned (.tuple #[.int .i64 (n : Int), .int .i64 (c : Int)]) → Below w.heap.size w w' → PushAPost B T m ns k x w e w' := fun e w' n c hF he hb => by
    unfold PushAPost
    rw [hF]
    exact ⟨he, v, h.below hb, KeepT.of_below hb, hb.mono h.base⟩
  cases hb : hasB ns.length k with
  | false =>
    have hF : pushF ns k x = (1, 0, ns) := by unfold pushF; rw [if_pos hb]
    refine (Push_arg k x w h hb).mono ?_
    rintro e w' ⟨rfl, hbl⟩
    exact quiet _ _ 0 1 hF rfl hbl
  | true =>
    cases hm : mayB x with
    | false =>
      have hF : pushF ns k x = (30, 0, ns) := by unfold pushF; rw [hb, if_neg (by simp), if_pos hm]
      refine (Push_place k x hx w h hb hm).mono ?_
      rintro e w' ⟨rfl, hbl⟩
      exact quiet _ _ 0 30 hF rfl hbl
    | true =>
      obtain ⟨j, q, rfl, hq⟩ := nodeAt_has hb
      have hdo := depthOf_node hq
      have hd64 : q.d ≤ 64 := by
        cases j with
        | zero => cases hq; exact Nat.zero_le _
        | succ n => exact (hw.up n q hq).2.2.1
      have hj : j ≤ ns.length := by have := (List.getElem?_eq_some_iff.1 hq).1; simp at this; omega
      have hst := may_st hm (j := j) (by omega)
      by_cases h64 : q.d = 64
      · have hF : pushF ns (j : Int) x = (31, 0, ns) := by unfold pushF; rw [hb, if_neg (by simp), if_neg (by simp [hm]), if_pos (by rw [hdo]; exact h64)]
        refine (Push_deep j q x hx w h hq hm h64).mono ?_
        rintro e w' ⟨rfl, hbl⟩
        exact quiet _ _ 0 31 hF rfl hbl
      · have hP : pushF ns (j : Int) x = match findS ns j x with
            | some i => (0, i + 1, ns)
            | none => if ns.length = 4095 then (3, 0, ns) else (0, ns.length + 1, ns ++ [⟨j, x, q.d + 1⟩]) := by
          unfold pushF
          rw [hb, if_neg (by simp), if_neg (by simp [hm]), if_neg (by rw [hdo]; exact h64), Int.toNat_natCast, hdo]
          all_goals (cases findS ns j x <;> rfl)
        cases hf : findS ns j x with
        | some i =>
          rw [hf] at hP
          refine (Push_known j i q x hx w h hq hm h64 (findS_some hf) hst).mono ?_
          rintro e w' ⟨rfl, hbl⟩
          exact quiet _ _ (i + 1) 0 hP (by simp) hbl
        | none =>
          rw [hf] at hP
          have hno := findS_none hf
          by_cases h95 : ns.length = 4095
          · refine (Push_full j q x hx w h hq hm h64 hno hst h95).mono ?_
            rintro e w' ⟨rfl, hbl⟩
            exact quiet _ _ 0 3 (by rw [hP]; simp [h95]) rfl hbl
          · have hF : pushF ns (j : Int) x = (0, ns.length + 1, ns ++ [⟨j, x, q.d + 1⟩]) := by rw [hP]; simp [h95]
            refine (Push_ok j q x w h hw hq hm (by omega) (by omega)).mono ?_
            rintro e w' ⟨ms, n, v', rfl, hpu, ht, hk, hbl⟩
            unfold PushAPost
            rw [hF]
            obtain ⟨hn, hml⟩ := hpu.new hno
            obtain ⟨p1, p2, p3, ⟨r, p4, p5, p6, p7⟩, _⟩ := hpu
            have hms : ms = ns ++ [⟨j, x, q.d + 1⟩] := by
              obtain ⟨t, rfl⟩ := p2
              have ht1 : t.length = 1 := by rw [List.length_append] at hml; omega
              obtain ⟨u, hu0⟩ := List.length_eq_one_iff.1 ht1
              subst hu0
              have hu : nodeAt (ns ++ [u]) n = some u := by
                rw [hn, nodeAt_succ, List.getElem?_append_right (Nat.le_refl _), Nat.sub_self]; rfl
              rw [hu] at p4
              cases p4
              obtain ⟨a1, ⟨z, a2, a3⟩, _⟩ := p1.up ns.length r (by rw [List.getElem?_append_right (Nat.le_refl _), Nat.sub_self]; rfl)
              rw [p5] at a2
              have hz := nodeAt_pre (List.prefix_append ns [r]) hq
              rw [hz] at a2
              cases a2
              congr 2
              cases r
              simp only at p5 p6 a3
              rw [p5, p6, a3]
            rw [hn, ← hms]
            exact ⟨by simp, v', ht, hk, hbl⟩
end Go.Proofs.YtbldeiejlebbiaaDoor.T
