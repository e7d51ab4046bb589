/-
  erratalaw03.PlaceReads.
-/
import Derived.Test.YtbldeiejlebbiaaDoorPlaceRFrom
set_option linter.unusedVariables false
namespace Go.Proofs.YtbldeiejlebbiaaDoor.T
open Go Go.Lib Go.RowKit

theorem toldB_inj {ns ms : List Nd} (hw : Wf ns) (h4 : ns.length ≤ 4095) (hw2 : Wf ms) (h42 : ms.length ≤ 4095) (h : toldB ns = toldB ms) : ns = ms := by
  have e1 := cs_read ns.length (by omega) (ndsB 1 ns)
  have e2 := cs_read ms.length (by omega) (ndsB 1 ms)
  have e3 : shN ns.length ++ ndsB 1 ns = shN ms.length ++ ndsB 1 ms := h
  rw [e3, e2] at e1
  have hl : ms.length = ns.length := congrArg Prod.fst e1
  have hr : (⟨(ndsB 1 ms).toArray⟩ : ByteArray) = ⟨(ndsB 1 ns).toArray⟩ := congrArg (fun z : Nat × ByteArray × Bool => z.2.1) e1
  have hr' : ndsB 1 ms = ndsB 1 ns := congrArg (fun b : ByteArray => b.data.toList) hr
  clear e1 e2 e3
  have key : ∀ k, k ≤ ns.length → ns.take k = ms.take k ∧ ndsB (k + 1) (ns.drop k) = ndsB (k + 1) (ms.drop k) := by
    intro k
    induction k with
    | zero => exact fun _ => ⟨rfl, hr'.symm⟩
    | succ k ih =>
      intro hk
      obtain ⟨i1, i3⟩ := ih (by omega)
      have hkn : k < ns.length := by omega
      have hkm : k < ms.length := by omega
      have hq : ns[k]? = some (ns[k]'hkn) := List.getElem?_eq_getElem hkn
      have hrr : ms[k]? = some (ms[k]'hkm) := List.getElem?_eq_getElem hkm
      have d1 : ns.drop k = ns[k]'hkn :: ns.drop (k + 1) := List.drop_eq_getElem_cons hkn
      have d2 : ms.drop k = ms[k]'hkm :: ms.drop (k + 1) := List.drop_eq_getElem_cons hkm
      generalize ns[k]'hkn = q at *
      generalize ms[k]'hkm = r at *
      rw [d1, d2] at i3
      have i4 : ndB (k + 1) q ++ ndsB (k + 1 + 1) (ns.drop (k + 1)) = ndB (k + 1) r ++ ndsB (k + 1 + 1) (ms.drop (k + 1)) := i3
      obtain ⟨a1, _, _, a6⟩ := hw.up k q hq
      obtain ⟨b1, _, _, b6⟩ := hw2.up k r hrr
      obtain ⟨e1, e2, e3, e4⟩ := rd_node (k := k) (q := q) (by omega) a6 (ndsB (k + 1 + 1) (ns.drop (k + 1)))
      obtain ⟨f1, f2, f3, f4⟩ := rd_node (k := k) (q := r) (by omega) b6 (ndsB (k + 1 + 1) (ms.drop (k + 1)))
      rw [i4] at e1 e2 e3 e4
      have g1 := e1.symm.trans f1
      have g2 := e2.symm.trans f2
      have g3 := e3.symm.trans f3
      have g4 := e4.symm.trans f4
      have hp : q.p = r.p := by omega
      have hx : q.x = r.x := by
        cases hqx : q.x
        cases hrx : r.x
        rw [hqx, hrx] at g2 g3
        simp only at g2 g3
        rw [g2, g3]
      have p1 := pushF_read hw hq (by omega)
      have p2 := pushF_read hw2 hrr (by omega)
      rw [i1, hp, hx, p2] at p1
      exact ⟨(congrArg (fun F : Nat × Nat × List Nd => F.2.2) p1).symm, congrArg (fun b : ByteArray => b.data.toList) g4⟩
  have := (key ns.length (Nat.le_refl _)).1
  rw [List.take_length, ← hl, List.take_length] at this
  exact this
set_option maxRecDepth 1000000 in
set_option maxHeartbeats 16000000 in
theorem placeReads_in (l : List UInt8) (hl : l.length ≤ 268435456) (w : World) (hE : Env w) :
    Calls Tryd.prog 6 #[.string ⟨l.toArray⟩] w fun e w' => e = .returned (.bool true) ∧ Below w.heap.size w w' := by
  have h6 := hE.sz
  have HE := Lib.hid (fun W (hb : Below w.heap.size w W) => hE.below hb h6)
  clear hE
  have CR := fun W => Lib.hid (RFrom_in l hl W)
  by_cases hT : ∃ ns, Wf ns ∧ ns.length ≤ 4095 ∧ l = toldB ns
  · obtain ⟨ns, hw, h4, rfl⟩ := hT
    have HW := Lib.hid hw
    have C1 := Lib.hid (From_in hw h4 w)
    unfold FromPost at C1
    have HIN := Lib.hid (fun (ms : List Nd) (hw2 : Wf ms) (h42 : ms.length ≤ 4095) (h : toldB ns = toldB ms) => toldB_inj hw h4 hw2 h42 h)
    have HYES := Lib.hid (fun h : NoTree (toldB ns) => h ns hw h4 rfl)
    clear hw
    generalize hS : (⟨(toldB ns).toArray⟩ : ByteArray) = S at *
    have HS := Lib.hid hS
    clear hS
    go_enter Tryd.func6, Tryd.ntmps6
    go_wp2_with fail
    refine C1.out.mono ?_
    rintro e w1 ⟨T, v, m, rfl, hT1, hb1⟩
    have HT1 := Lib.hid hT1
    have HB1 := Lib.hid hb1
    have D1 := CR w1
    clear hT1 hb1 C1 CR
    go_wp2_with fail
    refine D1.out.mono ?_
    unfold RFromPost
    rintro e w2 ⟨hb2, ⟨R, u, ms, rfl, hw2, h42, heq, hR2⟩ | ⟨rfl, hno⟩⟩
    · obtain rfl := HIN.out ms hw2 h42 heq
      have HBB := Lib.hid (show Both w R w2 T v m u ns from ⟨HT1.out.below hb2, hR2.lower HB1.out.size, HW.out, moreB HB1.out HB1.out.size hb2⟩)
      clear hb2 hR2 HT1 HB1 D1 HIN HYES heq hw2 h42
      go_wp2_with fail
      go_loopw [7] (fun i wq => ∃ j : Int, i = .int .i64 j ∧ -1 ≤ j ∧ j ≤ (ns.length : Int) + 2 ∧ Both w R wq T v m u ns) (fun i _ => ((ns.length : Int) + 3 - RowKit.intOf i).toNat)
      case atStart => exact ⟨-1, rfl, by omega, by omega, HBB.out⟩
      case round =>
        clear HBB
        obtain ⟨j, rfl, hj0, hj, hbo⟩ := hrel
        have HB := Lib.hid hbo
        have CL := Lib.hid (RLen_in wr hbo.2.1)
        have CT := Lib.hid (Len_in wr hbo.1)
        clear hbo
        by_cases hjl : j ≤ (ns.length : Int) + 1
        · have hNj : decide (j ≤ (ns.length : Int) + 1) = true := decide_eq_true hjl
          have hwj : IntKind.i64.wrap (j + 1) = j + 1 := IntWalk.i64_in _ (by omega)
          have C := Lib.hid (looks_in j wr HB.out.1 HB.out.2.1 HB.out.2.2.1)
          go_wp2_with fail
          refine CL.out.mono ?_
          rintro e w4 ⟨rfl, rfl⟩
          go_wp2_with fail
          refine C.out.mono ?_
          rintro e w5 ⟨rfl, hb5⟩
          have HB5 := Lib.hid (HB.out.below hb5)
          clear hb5 C CL HB
          go_wp2
          go_roundw
          case rel => exact ⟨j + 1, rfl, by omega, by omega, HB5.out⟩
          case measure => simp [RowKit.intOf]; omega
        · have hNj : decide (j ≤ (ns.length : Int) + 1) = false := decide_eq_false hjl
          have c6 := Told_in wr HB.out.1 HB.out.2.2.1
          unfold TreeB at c6
          rw [HS.out] at c6
          have C6 := Lib.hid c6
          have hnn : (((ns.length : Int) + 1) == ((ns.length : Int) + 1)) = true := by simp
          clear c6
          go_wp2_with fail
          refine CL.out.mono ?_
          rintro e w4 ⟨rfl, rfl⟩
          go_wp2_with fail
          refine CT.out.mono ?_
          rintro e w4 ⟨rfl, rfl⟩
          go_wp2_with fail
          refine CL.out.mono ?_
          rintro e w4 ⟨rfl, rfl⟩
          go_wp2_with fail
          refine C6.out.mono ?_
          rintro e w6 ⟨rfl, hb6⟩
          have HB6 := Lib.hid (HB.out.below hb6)
          have cAl := alive_in w6 (HE.out w6 HB6.out.2.2.2)
          have HLOW := Lib.hid HB6.out.2.2.2
          clear hb6 C6 HB HB6
          go_wp2_with fail
          refine cAl.mono ?_
          rintro e w7 ⟨rfl, hb7⟩
          go_wp2
          go_ret
          exact ⟨rfl, HLOW.out.trans (hb7.mono HLOW.out.size)⟩
    · exact (HYES.out hno).elim
  · have hno : NoTree l := fun ns hw h4 e => hT ⟨ns, hw, h4, e⟩
    have C1 := Lib.hid (From_no l hl hno w)
    have HT := Lib.hid hT
    clear hT hno
    generalize hS : (⟨l.toArray⟩ : ByteArray) = S at *
    clear hS
    go_enter Tryd.func6, Tryd.ntmps6
    go_wp2_with fail
    refine C1.out.mono ?_
    rintro e w1 ⟨rfl, hb1⟩
    have HB1 := Lib.hid hb1
    have D1 := CR w1
    clear hb1 C1 CR
    go_wp2_with fail
    refine D1.out.mono ?_
    unfold RFromPost
    rintro e w2 ⟨hb2, ⟨R, u, ms, rfl, hw2, h42, heq, hR2⟩ | ⟨rfl, hno⟩⟩
    · exact (HT.out ⟨ms, hw2, h42, heq⟩).elim
    · have HB2 := Lib.hid (moreB HB1.out HB1.out.size hb2)
      have cAl := alive_in w2 (HE.out w2 HB2.out)
      clear hb2 D1 hno HB1
      go_wp2_with fail
      refine cAl.mono ?_
      rintro e w7 ⟨rfl, hb7⟩
      go_wp2
      go_ret
      exact ⟨rfl, HB2.out.trans (hb7.mono HB2.out.size)⟩
end Go.Proofs.YtbldeiejlebbiaaDoor.T
