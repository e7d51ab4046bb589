import Derived.Test.YtbldeiejlebbiaaDoorPlaceTrD
import Derived.Laws.StructEq

/-
  Nodes of the document's tree, compared.
-/
set_option linter.unusedVariables false
namespace Go.Proofs.YtbldeiejlebbiaaDoor.T
open Go Go.Lib Go.RowKit

theorem rplFields : Tryd.prog.fieldsOf 96 = #[{ name := "Name", type := 9, offset := 0, embedded := false, tag := "", pkgPath := "", byteOffset := 0 }, { name := "Line", type := 3, offset := 1, embedded := false, tag := "", pkgPath := "", byteOffset := 16 }] := by kernel_rfl
theorem rndFields : Tryd.prog.fieldsOf 121 = #[{ name := "Parent", type := 3, offset := 0, embedded := false, tag := "", pkgPath := "", byteOffset := 0 }, { name := "Place", type := 96, offset := 1, embedded := false, tag := "", pkgPath := "", byteOffset := 8 }] := by kernel_rfl
theorem eqIn_pl (d : Nat) (a b : ByteArray) (k l : Int) (W : World) : (Op.equalIn (d + 2) 96 (.agg #[.string a, .int .i64 k]) (.agg #[.string b, .int .i64 l])).run Tryd.prog W = .ok ((a.toList == b.toList) && (k == l)) W := by
  rw [run_equalIn_struct W (d + 1) 96 _ _ (by kernel_rfl) (by kernel_rfl), rplFields]
  simp [Op.eqFields, part, go_sem]
  by_cases h1 : a.toList = b.toList
  · by_cases h2 : k = l <;> simp [h1, h2]
  · simp [h1]
theorem eq_node (p j : Int) (a b : ByteArray) (k l : Int) (W : World) : (binOp .eql 121 (.agg #[.int .i64 p, .string a, .int .i64 k]) (.agg #[.int .i64 j, .string b, .int .i64 l])).run Tryd.prog W = .ok (.bool ((p == j) && ((a.toList == b.toList) && (k == l)))) W := by
  have h : (Op.equal 121 (.agg #[.int .i64 p, .string a, .int .i64 k]) (.agg #[.int .i64 j, .string b, .int .i64 l])).run Tryd.prog W = .ok ((p == j) && ((a.toList == b.toList) && (k == l))) W := by
    have e := eqIn_pl 9997 a b k l
    show (Op.equalIn (9999 + 1) _ _ _).run _ W = _
    rw [run_equalIn_struct W 9999 121 _ _ (by kernel_rfl) (by kernel_rfl), rndFields]
    simp [Op.eqFields, part, go_sem, e]
    by_cases h1 : p = j
    · by_cases h2 : a.toList = b.toList
      · by_cases h3 : k = l <;> simp [h1, h2, h3]
      · simp [h1, h2]
    · simp [h1]
  simp only [binOp]
  simp [h]
theorem infoRNode : (Tryd.prog.info? 121).map (fun i => (i.zero, i.size, i.bytes)) = some (some (.agg #[.int .i64 0, .string ⟨#[]⟩, .int .i64 0]), 3, 32) := by kernel_rfl
theorem cell3_new (W : World) (a b c : Value) (t : TypeId) : ∀ j u, [a, b, c][j]? = some u → (W.alloc (.cells #[a, b, c] t)).cell? ((⟨W.heap.size, 0, none⟩ : Addr).add j) = some u := by
  intro j u hj
  have : ((⟨W.heap.size, 0, none⟩ : Addr).add j) = ⟨W.heap.size, j, none⟩ := by unfold Addr.add; split <;> simp_all
  rw [this, World.cell?_alloc_at _ _ _ _ rfl]
  simpa using hj
theorem rnode_run (B : Nat) (W : World) (v : Value) (k : Nat) (xs : List Value) (hrow : W.ownsRow B 121 3 v k xs) (p : Nat) (x : Pl) (h63 : k ≤ 1000000) (hB : B ≤ W.heap.size) :
    ∃ v' w', (Builtin.append_ #[107, 107] 107 #[v, .slice (some ⟨W.heap.size, 0, none⟩) 1 1]).run Tryd.prog (W.alloc (.cells #[.int .i64 (p : Int), .string x.n, .int .i64 x.k] 121)).drew = .ok v' w' ∧
      w'.ownsRow B 121 3 v' (k + 1) (xs ++ [.int .i64 (p : Int), .string x.n, .int .i64 x.k]) ∧ W.grownBy w' v.ownBlock := by
  obtain ⟨i0, hi, hz0, hz1, hz2⟩ := info_parts infoRNode
  obtain ⟨v', w', h1, h2, h3, _⟩ := run_append_own (P := Tryd.prog) (W.alloc (.cells #[.int .i64 (p : Int), .string x.n, .int .i64 x.k] 121)).drew B 107 107 121 i0 _ 3 32 (by kernel_rfl) hi hz0 hz1 hz2 rfl (by decide) v k xs (World.ownsRow.alloc hrow _) ⟨W.heap.size, 0, none⟩ 1 1 [.int .i64 (p : Int), .string x.n, .int .i64 x.k] rfl (cell3_new _ _ _ _ _) (by simp [Value.oneCell']) (by unfold maxLen; omega) (by omega) (by simp; omega)
  exact ⟨v', w', h1, h2, grown_of_alloc h3⟩
/-- the document's tree's new node, from the world in which its row has been grown -/
theorem RefAt.push {B : Nat} {w w5 : World} {R : Nat} {v v' : Value} {ns : List Nd} (h : RefAt B w R v ns) (nd : Nd) (hrow : w5.ownsRow B 121 3 v' (ns.length + 1) (rnCs ns ++ rnC nd)) (hg : w.grownBy w5 v.ownBlock) (hn : ns.length < 4096) :
    w5.cell? ⟨R, 0, none⟩ = some v ∧ w5.frozen? ⟨R, 0, none⟩ = false ∧ RefAt B (w5.setCell ⟨R, 0, none⟩ v') R v' (ns ++ [nd]) ∧ KeepR R w (w5.setCell ⟨R, 0, none⟩ v') ∧ Below B w (w5.setCell ⟨R, 0, none⟩ v') := by
  have hRg : some R ≠ v.ownBlock := fun e => by
    obtain ⟨_, ⟨rfl, _⟩ | ⟨g, cap, cur, rfl, _, hcur, _⟩⟩ := h.row
    · cases e
    · simp only [Value.ownBlock, Option.some.injEq] at e
      subst e
      rw [h.blk] at hcur
      simp only [Option.some.injEq, Obj.cells.injEq] at hcur
      exact absurd hcur.2.1 (by decide)
  have hR5 : w5.heap[R]? = some (.cells #[v] 109 (0, 0)) := (hg.block R h.lt hRg).trans h.blk
  have hR6 := heap_setCell_same w5 R 0 _ _ v' hR5
  have hg6 := grown_setCell w5 R 0 v'
  have hRv : some R ≠ v'.ownBlock := fun e => by
    obtain ⟨_, ⟨rfl, h0⟩ | ⟨g, cap, cur, rfl, _, hcur, _⟩⟩ := hrow
    · cases e
    · simp only [Value.ownBlock, Option.some.injEq] at e
      subst e
      rw [hR5] at hcur
      simp only [Option.some.injEq, Obj.cells.injEq] at hcur
      exact absurd hcur.2.1 (by decide)
  have hrow6 := hrow.kept hg6 (.inr (fun e => hRv e.symm))
  have hblk : ∀ b, b < w.heap.size → some b ≠ v.ownBlock → b ≠ R → (w5.setCell ⟨R, 0, none⟩ v').heap[b]? = w.heap[b]? := fun b hb h1 h2 =>
    (heap_setCell_other w5 ⟨R, 0, none⟩ b v' (by simpa using h2)).trans (hg.block b hb h1)
  refine ⟨by simp [World.cell?, hR5], by simp [World.frozen?, hR5], ⟨by simpa using hR6, by rw [rnCs_snoc, List.length_append]; exact hrow6, h.lo, by rw [List.length_append]; simp; omega⟩, ⟨hg.os, hg.tape, hg.output, by simpa using hg.size, fun b o hb h1 h2 => ?_⟩, ⟨hg.os, hg.tape, hg.output, by simpa using hg.size, fun b hb => ?_⟩⟩
  · have hlt := (Array.getElem?_eq_some_iff.1 hb).1
    rw [hblk b hlt (fun e => ?_) h1]
    · exact hb
    · obtain ⟨_, ⟨rfl, _⟩ | ⟨g, cap, cur, rfl, _, hcur, _⟩⟩ := h.row
      · cases e
      · simp only [Value.ownBlock, Option.some.injEq] at e
        subst e
        rw [hb] at hcur
        exact h2 cur (0, 0) (Option.some.inj hcur)
  · exact hblk b (by have := h.base; omega) (fun e => by have := (h.row.lt b e.symm).1; omega) (by have := h.lo; omega)
end Go.Proofs.YtbldeiejlebbiaaDoor.T

/-
  The document's tree: Push.
-/
set_option linter.unusedVariables false
namespace Go.Proofs.YtbldeiejlebbiaaDoor.T
open Go Go.Lib Go.RowKit

def RPushPost (B R : Nat) (ns : List Nd) (k : Int) (x : Pl) (w : World) (e : Ending) (w' : World) : Prop :=
  e = .returned (.tuple #[.int .i64 (((pushF ns k x).2.1 : Nat) : Int), .int .i64 (((pushF ns k x).1 : Nat) : Int)]) ∧ ∃ v', RefAt B w' R v' (pushF ns k x).2.2 ∧ KeepR R w w' ∧ Below B w w'
set_option maxRecDepth 100000 in
set_option maxHeartbeats 8000000 in
theorem RPush_in {B : Nat} {R : Nat} {v : Value} {ns : List Nd} (k : Int) (x : Pl) (hx : x.n.size ≤ 140737488351232) (w : World) (h : RefAt B w R v ns) (hw : Wf ns) (hl : ns.length ≤ 4095) :
    Calls Tryd.prog 49 #[.pointer (some ⟨R, 0, none⟩), .int .i64 k, .agg #[.string x.n, .int .i64 x.k]] w (RPushPost B R ns k x w) := by
  have hbA : Below w.heap.size w (w.alloc (.cells #[.string x.n, .int .i64 x.k] 96)) := (Below.refl _ _).alloc (Nat.le_refl _) _
  have p0 : (w.alloc (.cells #[.string x.n, .int .i64 x.k] 96)).cell? ⟨w.heap.size, 0, none⟩ = some (.string x.n) := by simp
  have p1 : (w.alloc (.cells #[.string x.n, .int .i64 x.k] 96)).cell? ⟨w.heap.size, 1, none⟩ = some (.int .i64 x.k) := by simp
  have hlt : w.heap.size < (w.alloc (.cells #[.string x.n, .int .i64 x.k] 96)).heap.size := by simp
  have HA := Lib.hid (h.below hbA)
  have HBA := Lib.hid hbA
  have HW := Lib.hid hw
  have cM := fun W => May_in x (by omega) W
  clear hbA
  go_enter Tryd.func49, Tryd.ntmps49
  go_wp2_with fail
  generalize w.alloc (.cells #[.string x.n, .int .i64 x.k] 96) = wA at *
  have cH := there_in k wA HA.out
  cases hb : hasB ns.length k with
  | false =>
    rw [hb] at cH
    have hF : pushF ns k x = (1, 0, ns) := by unfold pushF; rw [if_pos hb]
    refine cH.mono ?_
    rintro e w1 ⟨rfl, hd⟩
    have HD := Lib.hid (hd.below wA.heap.size)
    clear cM hd
    go_wp2
    go_ret2
    unfold RPushPost
    rw [hF]
    exact ⟨rfl, v, HA.out.below HD.out, KeepR.of_below (moreB HBA.out HBA.out.size HD.out), (moreB HBA.out HBA.out.size HD.out).mono h.base⟩
  | true =>
    rw [hb] at cH
    obtain ⟨j, q0, rfl, hq0⟩ := nodeAt_has hb
    have HBB := Lib.hid hb
    refine cH.mono ?_
    rintro e w1 ⟨rfl, hd⟩
    have H1 := Lib.hid (moreB HBA.out HBA.out.size (hd.below wA.heap.size))
    have HR1 := Lib.hid (HA.out.below (hd.below wA.heap.size))
    have a0 := (hd.cell _).trans p0
    have a1 := (hd.cell _).trans p1
    have hl1 : w.heap.size < w1.heap.size := Nat.lt_of_lt_of_le hlt (hd.below wA.heap.size).size
    clear hd cH HA HBA p0 p1 hlt hb
    go_wp2_with fail
    refine (cM w1).mono ?_
    rintro e w2 ⟨rfl, h2⟩
    have H2 := Lib.hid (moreB H1.out H1.out.size h2)
    have HR2 := Lib.hid (HR1.out.below h2)
    have b0 := (h2.cell (p := ⟨w.heap.size, 0, none⟩) hl1).trans a0
    have b1 := (h2.cell (p := ⟨w.heap.size, 1, none⟩) hl1).trans a1
    have hl2 : w.heap.size < w2.heap.size := Nat.lt_of_lt_of_le hl1 h2.size
    clear h2 H1 HR1 a0 a1 hl1 cM
    cases hm : mayB x with
    | false =>
      have hF : pushF ns (j : Int) x = (30, 0, ns) := by unfold pushF; rw [HBB.out, if_neg (by simp), if_pos hm]
      go_wp2
      go_ret2
      unfold RPushPost
      rw [hF]
      exact ⟨rfl, v, HR2.out, KeepR.of_below H2.out, H2.out.mono h.base⟩
    | true =>
      have cD := RDepth_in (j : Int) w2 HR2.out HW.out
      have hdo := depthOf_node hq0
      have hd64 : q0.d ≤ 64 := by
        cases j with
        | zero => cases hq0; exact Nat.zero_le _
        | succ n => exact (HW.out.up n q0 hq0).2.2.1
      rw [hdo] at cD
      have CD := Lib.hid cD
      clear cD
      go_wp2_with fail
      refine CD.out.mono ?_
      rintro e w3 ⟨rfl, hd⟩
      have H3 := Lib.hid (moreB H2.out H2.out.size (hd.below w2.heap.size))
      have HR3 := Lib.hid (HR2.out.below (hd.below w2.heap.size))
      have a0 := (hd.cell _).trans b0
      have a1 := (hd.cell _).trans b1
      have hl3 : w.heap.size < w3.heap.size := Nat.lt_of_lt_of_le hl2 (hd.below w2.heap.size).size
      clear hd CD H2 HR2 b0 b1 hl2
      by_cases h64 : q0.d = 64
      · have hF : pushF ns (j : Int) x = (31, 0, ns) := by unfold pushF; rw [HBB.out, if_neg (by simp), if_neg (by simp [hm]), if_pos (by rw [hdo]; exact h64)]
        have hN : decide ((q0.d : Int) ≥ 64) = true := decide_eq_true (by omega)
        go_wp2
        go_ret2
        unfold RPushPost
        rw [hF]
        exact ⟨rfl, v, HR3.out, KeepR.of_below H3.out, H3.out.mono h.base⟩
      · have hN : decide ((q0.d : Int) ≥ 64) = false := decide_eq_false (by omega)
        have HP : Hid (pushF ns (j : Int) x = match findS ns j x with
            | some i => (0, i + 1, ns)
            | none => if ns.length = 4095 then (3, 0, ns) else (0, ns.length + 1, ns ++ [⟨j, x, q0.d + 1⟩])) := by
          show pushF ns (j : Int) x = _
          unfold pushF
          rw [HBB.out, if_neg (by simp), if_neg (by simp [hm]), if_neg (by rw [hdo]; exact h64), Int.toNat_natCast, hdo]
          all_goals (cases findS ns j x <;> rfl)
        have HB := Lib.hid h.base
        clear hq0 hdo h
        go_wp2_with fail
        go_loopw [8] (fun i wr => ∃ n : Nat, n ≤ ns.length ∧ i = .int .i64 (n : Int) ∧ Hid (∀ kk nn, kk < n → ns[kk]? = some nn → isStep nn j x = false) ∧ Dr w3 wr) (fun i _ => ns.length - (RowKit.intOf i).toNat)
        case atStart => exact ⟨0, Nat.zero_le _, rfl, (fun kk nn hk => by omega), Dr.refl _⟩
        case round =>
          obtain ⟨n, hn, rfl, hno, hdr⟩ := hrel
          have c0 := (hdr.cell _).trans HR3.out.c0
          have e0 := (hdr.cell _).trans a0
          have e1 := (hdr.cell _).trans a1
          by_cases hlt : n < ns.length
          · have hq : ns[n]? = some ns[n] := List.getElem?_eq_getElem hlt
            generalize ns[n] = q at *
            obtain ⟨g, cap, he, hg, d1, d2, d3⟩ := HR3.out.node hq
            subst he
            have f1 := (hdr.cell _).trans d1
            have f2 := (hdr.cell _).trans d2
            have f3 := (hdr.cell _).trans d3
            have hfs := findS_at ns j x n hno.out
            have hdp : ns.drop n = q :: ns.drop (n + 1) := by
              rw [List.drop_eq_getElem_cons hlt]
              rw [List.getElem?_eq_getElem hlt] at hq
              rw [Option.some.inj hq]
            have HFS := Lib.hid hfs
            have HDP := Lib.hid hdp
            have HQ := Lib.hid hq
            clear d1 d2 d3 hfs hdp hq
            generalize hz : ns.length = z at *
            have hN : decide ((n : Int) < (z : Int)) = true := decide_eq_true (by omega)
            have heq := eq_node (q.p : Int) (j : Int) q.x.n x.n q.x.k x.k
            have his : (((q.p : Int) == (j : Int)) && ((q.x.n.toList == x.n.toList) && (q.x.k == x.k))) = isStep q j x := by
              unfold isStep eqP
              have e : ((q.p : Int) == (j : Int)) = (q.p == j) := by
                by_cases hpj : q.p = j
                · rw [hpj]; simp
                · rw [beq_eq_false_iff_ne.2 (by omega), beq_eq_false_iff_ne.2 hpj]
              rw [e]
            simp only [his] at heq
            cases hs : isStep q j x with
            | true =>
              rw [hs] at heq
              clear his
              go_wp2_with fail
              go_quiet (fail)
              go_wp2
              have hF : pushF ns (j : Int) x = (0, n + 1, ns) := by
                rw [HP.out, HFS.out, HDP.out]
                simp [findS, hs]
              have hd2 : Dr w3 (wr.drewN nq) := hdr.drewN nq
              have hb2 := moreB H3.out H3.out.size (hd2.below w3.heap.size)
              go_ret2
              unfold RPushPost
              rw [hF]
              exact ⟨by simp, _, HR3.out.below (hd2.below w3.heap.size), KeepR.of_below hb2, hb2.mono HB.out⟩
            | false =>
              rw [hs] at heq
              clear his
              go_wp2_with fail
              go_quiet (fail)
              go_wp2
              go_roundw
              case rel =>
                refine ⟨n + 1, by omega, by go_num, ?_, hdr.drewN nq⟩
                show ∀ kk nn, kk < n + 1 → ns[kk]? = some nn → isStep nn j x = false
                intro kk nn hk hnn
                rcases Nat.lt_or_ge kk n with h1 | h1
                · exact hno.out kk nn h1 hnn
                · have : kk = n := by omega
                  subst this
                  rw [HQ.out] at hnn
                  cases hnn
                  exact hs
              case measure => simp [RowKit.intOf]; omega
          · have hnl : n = ns.length := by omega
            have hfs : findS ns j x = none := by
              rw [findS_at ns j x n hno.out, List.drop_of_length_le (by omega)]; rfl
            rw [hfs] at HP
            obtain ⟨a, c, rfl, _⟩ := HR3.out.sl
            have hN : decide ((n : Int) < (ns.length : Int)) = false := decide_eq_false (by omega)
            have hb3 := hdr.below w3.heap.size
            have HR4 := Lib.hid (HR3.out.below hb3)
            have H4 := Lib.hid (moreB H3.out H3.out.size hb3)
            have cL := RLen_in wr HR4.out
            clear hno hfs hdr hb3 H3 HR3 a0 a1 hl3
            go_wp2_with fail
            refine cL.mono ?_
            rintro e w5 ⟨rfl, rfl⟩
            clear cL
            by_cases h95 : ns.length = 4095
            · have hF : pushF ns (j : Int) x = (3, 0, ns) := by rw [HP.out]; simp [h95]
              have hN2 : decide (((ns.length : Int) + 1) ≥ 4096) = true := decide_eq_true (by omega)
              go_wp2
              go_ret2
              unfold RPushPost
              rw [hF]
              exact ⟨rfl, _, HR4.out, KeepR.of_below H4.out, H4.out.mono HB.out⟩
            · have hF : pushF ns (j : Int) x = (0, ns.length + 1, ns ++ [⟨j, x, q0.d + 1⟩]) := by rw [HP.out]; simp [h95]
              have hN2 : decide (((ns.length : Int) + 1) ≥ 4096) = false := decide_eq_false (by omega)
              obtain ⟨v', w6, hrun, hrow6, hg6⟩ := rnode_run B wr _ _ _ HR4.out.row j x (by omega) HR4.out.base
              have hp := HR4.out.push ⟨j, x, q0.d + 1⟩ hrow6 hg6 (by omega)
              obtain ⟨k0, k1, k2, k3, k4⟩ := hp
              have HK2 := Lib.hid k2
              have HK3 := Lib.hid k3
              have HK4 := Lib.hid k4
              obtain ⟨a', c', hv, _⟩ := k2.sl
              rw [List.length_append, List.length_singleton] at hv
              subst hv
              have q0' := HK2.out.c0
              have c4n : (wr.alloc (.cells #[.int .i64 (j : Int), .string x.n, .int .i64 x.k] 121)).drew.cell? ⟨R, 0, none⟩ = some (.slice a ns.length c) := (((Below.refl wr.heap.size wr).alloc (Nat.le_refl _) _).drew.cell (p := ⟨R, 0, none⟩) HR4.out.lt).trans c0
              clear k2 k3 k4 hrow6 hg6 HP HBB
              go_wp2_with fail
              go_region_law (refine step_append_run rfl (.tmp 51) (.tmp 55) 107 rfl _ (.slice (some ⟨wr.heap.size, 0, none⟩) 1 1) (.slice a' (ns.length + 1) c') w6 (by simp [Act.eval]) (by simp [Act.eval]) hrun ?_)
              all_goals
                go_wp2
                go_ret2
                unfold RPushPost
                rw [hF]
                exact ⟨by simp, _, HK2.out, (KeepR.of_below H4.out).trans HK3.out, (H4.out.mono HB.out).trans HK4.out⟩
end Go.Proofs.YtbldeiejlebbiaaDoor.T

/-
  Add of both trees, whatever they are asked.
-/
set_option linter.unusedVariables false
namespace Go.Proofs.YtbldeiejlebbiaaDoor.T
open Go Go.Lib Go.RowKit

/-- places pushed one behind the other: the code, the number, the nodes -/
def addG : List Nd → Nat → List Pl → Nat × Nat × List Nd
  | ns, n, [] => (0, n, ns)
  | ns, n, x :: l => if (pushF ns (n : Int) x).1 = 0 then addG (pushF ns (n : Int) x).2.2 (pushF ns (n : Int) x).2.1 l else ((pushF ns (n : Int) x).1, 0, (pushF ns (n : Int) x).2.2)
def addF (ns : List Nd) (l : List Pl) : Nat × Nat × List Nd := if checkN l = 0 then addG ns 0 l else (checkN l, 0, ns)
theorem addG_wf : ∀ {ns : List Nd} (hw : Wf ns) (n : Nat) (l : List Pl), Wf (addG ns n l).2.2 ∧ ns <+: (addG ns n l).2.2 ∧ (addG ns n l).2.2.length ≤ ns.length + l.length ∧ (ns.length ≤ 4095 → (addG ns n l).2.2.length ≤ 4095)
  | ns, hw, n, [] => ⟨hw, List.prefix_refl _, by simp [addG], fun h => h⟩
  | ns, hw, n, x :: l => by
    obtain ⟨h1, h2, h3, h4⟩ := pushF_wf hw (n : Int) x
    unfold addG
    split
    · obtain ⟨i1, i2, i3, i4⟩ := addG_wf h1 (pushF ns (n : Int) x).2.1 l
      exact ⟨i1, h2.trans i2, by rw [List.length_cons]; omega, fun h => i4 (h4 h)⟩
    · exact ⟨h1, h2, by rw [List.length_cons]; simp only; omega, h4⟩
theorem addF_wf {ns : List Nd} (hw : Wf ns) (l : List Pl) : Wf (addF ns l).2.2 ∧ ns <+: (addF ns l).2.2 ∧ (addF ns l).2.2.length ≤ ns.length + l.length ∧ (ns.length ≤ 4095 → (addF ns l).2.2.length ≤ 4095) := by
  unfold addF
  split
  · exact addG_wf hw 0 l
  · exact ⟨hw, List.prefix_refl _, by simp, fun h => h⟩
theorem addF_few {ns : List Nd} (hw : Wf ns) (l : List Pl) : (addF ns l).2.2.length ≤ ns.length + 64 := by
  have h := (addF_wf hw l).2.2.1
  unfold addF at h ⊢
  split at h
  · rename_i hc
    rw [if_pos hc]
    have := (check_all hc).2
    omega
  · rename_i hc
    rw [if_neg hc]
    simp
def AddAPost (B T m : Nat) (ns : List Nd) (l : List Pl) (w : World) (e : Ending) (w' : World) : Prop :=
  e = .returned (.tuple #[.int .i64 (((addF ns l).2.1 : Nat) : Int), .int .i64 (((addF ns l).1 : Nat) : Int)]) ∧ ∃ v', TreeAt B w' T v' m (addF ns l).2.2 ∧ KeepT T m w w' ∧ Below B w w'
set_option maxRecDepth 100000 in
set_option maxHeartbeats 4000000 in
theorem Add_any {B : Nat} {T : Nat} {v : Value} {m : Nat} {ns : List Nd} (l : List Pl) (hs : Slim l) (Bl : Nat) (u : Value) (w : World) (h : TreeAt B w T v m ns) (hw : Wf ns) (hl : PRow 39 Bl w u l) (h4 : ns.length ≤ 4095) :
    Calls Tryd.prog 34 #[.pointer (some ⟨T, 0, none⟩), u] w (AddAPost B T m ns l w) := by
  have cC := Check_in l hs w.heap.size u w hl.sl
  obtain ⟨a, c, rfl, hc1, hc2, _⟩ := hl.sl
  have HL := Lib.hid hl
  have HS := Lib.hid hs
  have HB := Lib.hid h.base
  clear hl hs
  by_cases hck : checkN l = 0
  · rw [hck] at cC
    have hF : addF ns l = addG ns 0 l := by unfold addF; rw [if_pos hck]
    have hl64 := (check_all hck).2
    unfold AddAPost
    rw [hF]
    generalize hG : addG ns 0 l = G at *
    have HG := Lib.hid hG
    clear hG hF hck
    go_enter Tryd.func34, Tryd.ntmps34
    go_wp2_with (go_at_call 40; refine cC.mono ?_; rintro e w1 ⟨rfl, hb1⟩)
    go_loopw [7, 21] (fun x i wr => ∃ (k n : Nat) (ms : List Nd) (v' : Value), k ≤ l.length ∧ i = .int .i64 (k : Int) ∧ x = .int .i64 (n : Int) ∧ addG ms n (l.drop k) = G ∧ Wf ms ∧ ms.length ≤ 4095 ∧ TreeAt B wr T v' m ms ∧ KeepT T m w wr ∧ Below B w wr)
      (fun _ i _ => l.length - (RowKit.intOf i).toNat)
    case atStart => exact ⟨0, 0, ns, v, Nat.zero_le _, rfl, rfl, HG.out, hw, h4, h.below hb1, KeepT.of_below hb1, hb1.mono HB.out⟩
    case round =>
      obtain ⟨k, n, ms, v', hk, rfl, rfl, hg, hwf, hm4, ht, hkt, hbw⟩ := hrel
      by_cases hlt : k < l.length
      · have hx : l[k]? = some l[k] := List.getElem?_eq_getElem hlt
        have hsx := HS.out _ (List.getElem_mem hlt)
        have hdp : l.drop k = l[k] :: l.drop (k + 1) := List.drop_eq_getElem_cons hlt
        have hrow := HL.out.keepT h hkt
        obtain ⟨a', c', he, _, _, hcells⟩ := hrow.sl
        obtain ⟨bk, o, rfl, hbk, hA⟩ := hcells (by intro e; subst e; simp at hlt)
        cases he
        have c1 := (hA k _ hx).1
        have c2 := (hA k _ hx).2
        clear hA hcells hrow
        generalize l[k] = x at *
        have hbx : Below wr.heap.size wr (wr.alloc (.cells #[.string x.n, .int .i64 x.k] 39)) := (Below.refl _ wr).alloc (Nat.le_refl _) _
        have htx := ht.below hbx
        have cP := Push_any (n : Int) x (by omega) _ htx hwf hm4
        rw [hdp] at hg
        unfold addG at hg
        obtain ⟨i1, i2, i3, i4⟩ := pushF_wf hwf (n : Int) x
        have I4 := i4 hm4
        unfold PushAPost at cP
        generalize hPF : pushF ms (n : Int) x = PF at *
        obtain ⟨pc, pn, pm⟩ := PF
        simp only at cP hg i1 I4
        have CP := Lib.hid cP
        have HG2 := Lib.hid hg
        have I1 := Lib.hid i1
        have KT := Lib.hid (hkt.trans (KeepT.of_below hbx))
        have BW := Lib.hid (hbw.trans (hbx.mono ht.base))
        clear cP hg i1 i2 i3 i4 hx hdp hPF ht hkt hbw htx hbx hwf h
        have hN : decide ((k : Int) < (l.length : Int)) = true := by simp; omega
        generalize hz : l.length = z at *
        by_cases hpc : pc = 0
        · subst hpc
          have hN2 : (((0 : Nat) : Int) != 0) = false := rfl
          go_wp2_with (go_at_call 48; refine CP.out.mono ?_; rintro e w2 ⟨rfl, v2, ht2, hk2, hb2⟩)
          go_roundw
          case rel => exact ⟨k + 1, pn, pm, v2, hlt, by go_num, rfl, by have := HG2.out; simpa using this, I1.out, I4, ht2, KT.out.trans hk2, BW.out.trans hb2⟩
          case measure => simp [RowKit.intOf]; omega
        · have hN2 : ((pc : Int) != 0) = true := by simp; omega
          go_wp2_with (go_at_call 48; refine CP.out.mono ?_; rintro e w2 ⟨rfl, v2, ht2, hk2, hb2⟩)
          go_ret2
          have hGe := HG2.out
          rw [if_neg hpc] at hGe
          rw [← hGe]
          exact ⟨rfl, v2, ht2, KT.out.trans hk2, BW.out.trans hb2⟩
      · have : k = l.length := by omega
        subst this
        rw [List.drop_length] at hg
        have hN : decide ((l.length : Int) < (l.length : Int)) = false := by simp
        unfold addG at hg
        go_wp2
        go_ret2
        rw [← hg]
        exact ⟨rfl, v', ht, hkt, hbw⟩
  · have hF : addF ns l = (checkN l, 0, ns) := by unfold addF; rw [if_neg hck]
    unfold AddAPost
    rw [hF]
    have hN : ((checkN l : Int) != 0) = true := by simp; omega
    generalize checkN l = cc at *
    go_enter Tryd.func34, Tryd.ntmps34
    go_wp2_with (go_at_call 40; refine cC.mono ?_; rintro e w1 ⟨rfl, hb1⟩)
    go_ret2
    exact ⟨rfl, v, h.below hb1, KeepT.of_below hb1, hb1.mono HB.out⟩
end Go.Proofs.YtbldeiejlebbiaaDoor.T

/-
  Add of the document's tree, whatever it is asked.
-/
set_option linter.unusedVariables false
namespace Go.Proofs.YtbldeiejlebbiaaDoor.T
open Go Go.Lib Go.RowKit

def RAddPost (B R : Nat) (ns : List Nd) (l : List Pl) (w : World) (e : Ending) (w' : World) : Prop :=
  e = .returned (.tuple #[.int .i64 (((addF ns l).2.1 : Nat) : Int), .int .i64 (((addF ns l).1 : Nat) : Int)]) ∧ ∃ v', RefAt B w' R v' (addF ns l).2.2 ∧ KeepR R w w' ∧ Below B w w'
set_option maxRecDepth 100000 in
set_option maxHeartbeats 4000000 in
theorem RAdd_any {B : Nat} {R : Nat} {v : Value} {ns : List Nd} (l : List Pl) (hs : Slim l) (Bl : Nat) (u : Value) (w : World) (h : RefAt B w R v ns) (hw : Wf ns) (hl : PRow 96 Bl w u l) (h4 : ns.length ≤ 4095) :
    Calls Tryd.prog 50 #[.pointer (some ⟨R, 0, none⟩), u] w (RAddPost B R ns l w) := by
  have cC := refCheck_in l hs w.heap.size u w hl.sl
  obtain ⟨a, c, rfl, hc1, hc2, _⟩ := hl.sl
  have HL := Lib.hid hl
  have HS := Lib.hid hs
  have HB := Lib.hid h.base
  clear hl hs
  by_cases hck : checkN l = 0
  · rw [hck] at cC
    have hF : addF ns l = addG ns 0 l := by unfold addF; rw [if_pos hck]
    have hl64 := (check_all hck).2
    unfold RAddPost
    rw [hF]
    generalize hG : addG ns 0 l = G at *
    have HG := Lib.hid hG
    clear hG hF hck
    go_enter Tryd.func50, Tryd.ntmps50
    go_wp2_with (go_at_call 43; refine cC.mono ?_; rintro e w1 ⟨rfl, hb1⟩)
    go_loopw [7, 8] (fun x i wr => ∃ (k n : Nat) (ms : List Nd) (v' : Value), k ≤ l.length ∧ i = .int .i64 (k : Int) ∧ x = .int .i64 (n : Int) ∧ addG ms n (l.drop k) = G ∧ Wf ms ∧ ms.length ≤ 4095 ∧ RefAt B wr R v' ms ∧ KeepR R w wr ∧ Below B w wr)
      (fun _ i _ => l.length - (RowKit.intOf i).toNat)
    case atStart => exact ⟨0, 0, ns, v, Nat.zero_le _, rfl, rfl, HG.out, hw, h4, h.below hb1, KeepR.of_below hb1, hb1.mono HB.out⟩
    case round =>
      obtain ⟨k, n, ms, v', hk, rfl, rfl, hg, hwf, hm4, ht, hkt, hbw⟩ := hrel
      by_cases hlt : k < l.length
      · have hx : l[k]? = some l[k] := List.getElem?_eq_getElem hlt
        have hsx := HS.out _ (List.getElem_mem hlt)
        have hdp : l.drop k = l[k] :: l.drop (k + 1) := List.drop_eq_getElem_cons hlt
        have hrow : PRow 96 Bl wr (.slice a l.length c) l := row_keepR (by decide) (by decide) HL.out h hkt
        obtain ⟨a', c', he, _, _, hcells⟩ := hrow.sl
        obtain ⟨bk, o, rfl, hbk, hA⟩ := hcells (by intro e; subst e; simp at hlt)
        cases he
        have c1 := (hA k _ hx).1
        have c2 := (hA k _ hx).2
        clear hA hcells hrow
        generalize l[k] = x at *
        have cP := RPush_in (n : Int) x (by omega) _ ht hwf hm4
        rw [hdp] at hg
        unfold addG at hg
        obtain ⟨i1, i2, i3, i4⟩ := pushF_wf hwf (n : Int) x
        have I4 := i4 hm4
        unfold RPushPost at cP
        generalize hPF : pushF ms (n : Int) x = PF at *
        obtain ⟨pc, pn, pm⟩ := PF
        simp only at cP hg i1 I4
        have CP := Lib.hid cP
        have HG2 := Lib.hid hg
        have I1 := Lib.hid i1
        have KT := Lib.hid hkt
        have BW := Lib.hid hbw
        clear cP hg i1 i2 i3 i4 hx hdp hPF ht hkt hbw hwf h
        have hN : decide ((k : Int) < (l.length : Int)) = true := by simp; omega
        generalize hz : l.length = z at *
        by_cases hpc : pc = 0
        · subst hpc
          have hN2 : (((0 : Nat) : Int) != 0) = false := rfl
          go_wp2_with (go_at_call 49; refine CP.out.mono ?_; rintro e w2 ⟨rfl, v2, ht2, hk2, hb2⟩)
          go_roundw
          case rel => exact ⟨k + 1, pn, pm, v2, hlt, by go_num, rfl, by have := HG2.out; simpa using this, I1.out, I4, ht2, KT.out.trans hk2, BW.out.trans hb2⟩
          case measure => simp [RowKit.intOf]; omega
        · have hN2 : ((pc : Int) != 0) = true := by simp; omega
          go_wp2_with (go_at_call 49; refine CP.out.mono ?_; rintro e w2 ⟨rfl, v2, ht2, hk2, hb2⟩)
          go_ret2
          have hGe := HG2.out
          rw [if_neg hpc] at hGe
          rw [← hGe]
          exact ⟨rfl, v2, ht2, KT.out.trans hk2, BW.out.trans hb2⟩
      · have : k = l.length := by omega
        subst this
        rw [List.drop_length] at hg
        have hN : decide ((l.length : Int) < (l.length : Int)) = false := by simp
        unfold addG at hg
        go_wp2
        go_ret2
        rw [← hg]
        exact ⟨rfl, v', ht, hkt, hbw⟩
  · have hF : addF ns l = (checkN l, 0, ns) := by unfold addF; rw [if_neg hck]
    unfold RAddPost
    rw [hF]
    have hN : ((checkN l : Int) != 0) = true := by simp; omega
    generalize checkN l = cc at *
    go_enter Tryd.func50, Tryd.ntmps50
    go_wp2_with (go_at_call 43; refine cC.mono ?_; rintro e w1 ⟨rfl, hb1⟩)
    go_ret2
    exact ⟨rfl, v, h.below hb1, KeepR.of_below hb1, hb1.mono HB.out⟩
end Go.Proofs.YtbldeiejlebbiaaDoor.T
