/-
  erratalaw03.PlaceTrees.
-/
import Derived.Test.YtbldeiejlebbiaaDoorPlacePlays
set_option linter.unusedVariables false
namespace Go.Proofs.YtbldeiejlebbiaaDoor.T
open Go Go.Lib Go.RowKit

set_option maxRecDepth 100000 in
theorem RNew_in (w : World) : Calls Tryd.prog 21 #[] w fun e w' => ∃ R u, e = .returned (.pointer (some ⟨R, 0, none⟩)) ∧ RefAt w.heap.size w' R u [] ∧ Below w.heap.size w w' := by
  go_enter Tryd.func21, Tryd.ntmps21
  go_wp2
  go_ret
  refine ⟨w.heap.size, .slice none 0 0, rfl, ⟨?_, ⟨rfl, .inl ⟨rfl, rfl⟩⟩, Nat.le_refl _, by simp⟩, (Below.refl _ w).alloc (Nat.le_refl _) _⟩
  unfold World.alloc
  simp
theorem RefAt.lower {B B' : Nat} {w : World} {R : Nat} {v : Value} {ns : List Nd} (h : RefAt B w R v ns) (hB : B' ≤ B) : RefAt B' w R v ns :=
  ⟨h.blk, row_base h.row hB, Nat.le_trans hB h.lo, h.few⟩
/-- both trees, as they stand between two steps -/
def Both (w : World) (R : Nat) (wr : World) (T : Nat) (v : Value) (m : Nat) (u : Value) (ns : List Nd) : Prop :=
  TreeAt w.heap.size wr T v m ns ∧ RefAt w.heap.size wr R u ns ∧ Wf ns ∧ Below w.heap.size w wr
theorem Both.below {w : World} {R : Nat} {wr W : World} {T : Nat} {v : Value} {m : Nat} {u : Value} {ns : List Nd} (h : Both w R wr T v m u ns) (hb : Below wr.heap.size wr W) : Both w R W T v m u ns :=
  ⟨h.1.below hb, h.2.1.below hb, h.2.2.1, moreB h.2.2.2 h.2.2.2.size hb⟩
/-- what is asked of a step -/
structure StepOk (s : St) : Prop where
  a : i64B s.a
  b : i64B s.b
  x : s.x.n.size ≤ 140737488351232
  l : s.l.length ≤ 5864062014690
  slim : Slim s.l
/-- steps, as they lie -/
def StepsSl (B : Nat) (w : World) (v : Value) (ls : List St) : Prop :=
  (∃ a c, v = .slice a ls.length c ∧ (ls ≠ [] → ∃ b o, a = some ⟨b, o, none⟩ ∧ b < B ∧ ∀ (j : Nat) s, ls[j]? = some s → ∀ (i : Nat) c, (stCs s)[i]? = some c → w.cell? ⟨b, o + j * 7 + i, none⟩ = some c)) ∧ ∀ s ∈ ls, PlSl B w s.lv s.l
set_option maxRecDepth 1000000 in
set_option maxHeartbeats 16000000 in
theorem placeTrees_in (ls : List St) (hn : ls.length ≤ 5864062014700) (hok : ∀ s ∈ ls, StepOk s) (u0 : Value) (w : World) (h0 : StepsSl w.heap.size w u0 ls) (hE : Env w) :
    Calls Tryd.prog 5 #[u0] w fun e w' => e = .returned (.bool true) ∧ Below w.heap.size w w' := by
  have h6 := hE.sz
  have HE := Lib.hid (fun W (hb : Below w.heap.size w W) => hE.below hb h6)
  obtain ⟨⟨a0, c0, rfl, hcells⟩, hpl⟩ := h0
  have HC := Lib.hid hcells
  have HPL := Lib.hid hpl
  have HOK := Lib.hid hok
  clear hE hcells hpl hok
  go_enter Tryd.func5, Tryd.ntmps5
  go_wp2_with fail
  refine (New_in w).mono ?_
  rintro e w1 ⟨T, tv, m, rfl, hT1, hb1⟩
  have HT1 := Lib.hid hT1
  have HB1 := Lib.hid hb1
  clear hT1 hb1
  go_wp2_with fail
  refine (RNew_in w1).mono ?_
  rintro e w2 ⟨R, ru, rfl, hR2, hb2⟩
  have HT2 := Lib.hid (HT1.out.below hb2)
  have HR2 := Lib.hid (hR2.lower HB1.out.size)
  have HB2 := Lib.hid (moreB HB1.out HB1.out.size hb2)
  clear hR2 hb2 HT1 HB1
  have HBB := Lib.hid (show Both w R w2 T tv m ru [] from ⟨HT2.out, HR2.out, Wf.nil, HB2.out⟩)
  clear HT2 HR2 HB2
  go_wp2_with fail
  go_loopw [3, 5] (fun a i wr => ∃ (k T : Nat) (v : Value) (m : Nat) (u : Value) (ns : List Nd), a = .pointer (some ⟨T, 0, none⟩) ∧ i = .int .i64 (k : Int) ∧ k ≤ 60 ∧ k ≤ ls.length ∧ ns.length ≤ 64 * k ∧ Both w R wr T v m u ns)
    (fun _ i _ => 60 - (RowKit.intOf i).toNat)
  case atStart => exact ⟨0, T, tv, m, ru, [], rfl, rfl, by simp, by simp, by simp, HBB.out⟩
  case round =>
    clear HBB
    obtain ⟨k, T', v', m', u', ns, rfl, rfl, hk60, hkl, hnl, hbo⟩ := hrel
    have HB := Lib.hid hbo
    clear hbo
    by_cases hgo : k < ls.length ∧ k < 60
    · obtain ⟨hlt, hlt60⟩ := hgo
      have hN1 : decide ((k : Int) < (ls.length : Int)) = true := decide_eq_true (by omega)
      have hN2 : decide ((k : Int) < 60) = true := decide_eq_true (by omega)
      have hq : ls[k]? = some ls[k] := List.getElem?_eq_getElem hlt
      have hmem := List.getElem_mem hlt
      obtain ⟨bk, o, rfl, hbk, hcc⟩ := HC.out (by intro e; subst e; simp at hlt)
      have hc : ∀ (i : Nat) c, (stCs ls[k])[i]? = some c → wr.cell? ⟨bk, o + k * 7 + i, none⟩ = some c := fun i c hi => (HB.out.2.2.2.cell (p := ⟨bk, _, none⟩) hbk).trans (hcc _ _ hq i c hi)
      have hs := HOK.out _ hmem
      have hl := (HPL.out _ hmem).below HB.out.2.2.2 HB.out.2.2.2.size
      generalize ls[k] = s at *
      have C := Lib.hid (plays_in s wr HB.out.1 HB.out.2.1 HB.out.2.2.1 (by omega) hs.a hs.b hs.x ((HPL.out s hmem).below HB.out.2.2.2 (Nat.le_refl _)) hs.l hs.slim)
      unfold stCs at hc C
      have d0 : wr.cell? ⟨bk, o + k * 7, none⟩ = _ := hc 0 _ rfl
      have d1 := hc 1 _ rfl
      have d2 := hc 2 _ rfl
      have d3 := hc 3 _ rfl
      have d4 := hc 4 _ rfl
      have d5 := hc 5 _ rfl
      have d6 := hc 6 _ rfl
      clear hc hcc hq hmem hs hl
      generalize hz : ls.length = z at *
      clear hz
      go_wp2_with fail
      refine C.out.mono ?_
      rintro e w3 ⟨T3, v3, m3, ms, u3, rfl, hT3, hR3, hW3, hm3, hb3⟩
      have HB3 := Lib.hid (show Both w R w3 T3 v3 m3 u3 ms from ⟨hT3, hR3, hW3, HB.out.2.2.2.trans hb3⟩)
      have C4 := Lib.hid (Len_in w3 hT3)
      have C5 := Lib.hid (RLen_in w3 hR3)
      have n1 : (((ms.length : Int) + 1) != ((ms.length : Int) + 1)) = false := by simp
      have hms : ms.length ≤ 64 * (k + 1) := by omega
      clear hT3 hR3 hW3 hm3 hb3 C HB d0 d1 d2 d3 d4 d5 d6
      generalize hM : (ms.length : Int) + 1 = M at *
      have HM := Lib.hid hM
      clear hM
      go_wp2_with fail
      refine C4.out.mono ?_
      rintro e w4 ⟨rfl, rfl⟩
      go_wp2_with fail
      refine C5.out.mono ?_
      rintro e w4 ⟨rfl, rfl⟩
      go_wp2
      go_roundw
      case rel => exact ⟨k + 1, T3, v3, m3, u3, ms, rfl, by go_num, by omega, by omega, hms, HB3.out⟩
      case measure => simp [RowKit.intOf]; omega
    · have hNN : (¬ k < ls.length ∧ decide ((k : Int) < (ls.length : Int)) = false) ∨ (k < ls.length ∧ ¬ k < 60 ∧ decide ((k : Int) < (ls.length : Int)) = true ∧ decide ((k : Int) < 60) = false) := by
        rcases Nat.lt_or_ge k ls.length with h | h
        · exact .inr ⟨h, by omega, decide_eq_true (by omega), decide_eq_false (by omega)⟩
        · exact .inl ⟨by omega, decide_eq_false (by omega)⟩
      clear hgo HC HPL HOK
      generalize hz : ls.length = z at *
      clear hz
      rcases hNN with ⟨hM1, hN1⟩ | ⟨hM1, hM2, hN1, hN2⟩
      all_goals
        go_wp2_with fail
        go_loopw [8] (fun i wq => ∃ j : Int, i = .int .i64 j ∧ -1 ≤ j ∧ j ≤ (ns.length : Int) + 2 ∧ Both w R wq T' v' m' u' ns) (fun i _ => ((ns.length : Int) + 3 - RowKit.intOf i).toNat)
        case atStart => exact ⟨-1, rfl, by omega, by omega, HB.out⟩
        case round =>
          clear HB
          obtain ⟨j, rfl, hj0, hj, hbo⟩ := hrel
          have HB := Lib.hid hbo
          have CL := Lib.hid (RLen_in wr hbo.2.1)
          clear hbo
          have hnl' : (ns.length : Int) ≤ 3840 := by omega
          by_cases hjl : j ≤ (ns.length : Int) + 1
          · have hNj : decide (j ≤ (ns.length : Int) + 1) = true := decide_eq_true hjl
            have hwj : IntKind.i64.wrap (j + 1) = j + 1 := IntWalk.i64_in _ (by omega)
            have C := Lib.hid (looks_in j wr HB.out.1 HB.out.2.1 HB.out.2.2.1)
            go_wp2_with fail
            refine CL.out.mono ?_
            rintro e w4 ⟨rfl, rfl⟩
            go_wp2_with fail
            refine C.out.mono ?_
            rintro e w5 ⟨rfl, hb5⟩
            have HB5 := Lib.hid (HB.out.below hb5)
            clear hb5 C CL HB
            go_wp2
            go_roundw
            case rel => exact ⟨j + 1, rfl, by omega, by omega, HB5.out⟩
            case measure => simp [RowKit.intOf]; omega
          · have hNj : decide (j ≤ (ns.length : Int) + 1) = false := decide_eq_false hjl
            have C := Lib.hid (Told_in wr HB.out.1 HB.out.2.2.1)
            go_wp2_with fail
            refine CL.out.mono ?_
            rintro e w4 ⟨rfl, rfl⟩
            go_wp2_with fail
            refine C.out.mono ?_
            unfold TreeB
            rintro e w5 ⟨rfl, hb5⟩
            have HB5 := Lib.hid (HB.out.below hb5)
            have c6 := RTold_in w5 HB5.out.2.1 HB5.out.2.2.1
            unfold sB at c6
            have C6 := Lib.hid c6
            clear hb5 c6 C CL HB
            generalize (⟨(toldB ns).toArray⟩ : ByteArray) = S at *
            go_wp2_with fail
            refine C6.out.mono ?_
            rintro e w6 ⟨rfl, hb6⟩
            have HB6 := Lib.hid (HB5.out.below hb6)
            have cAl := alive_in w6 (HE.out w6 HB6.out.2.2.2)
            have HLOW := Lib.hid HB6.out.2.2.2
            clear hb6 C6 HB5 HB6
            go_wp2_with fail
            refine cAl.mono ?_
            rintro e w7 ⟨rfl, hb7⟩
            go_wp2
            go_ret
            exact ⟨rfl, HLOW.out.trans (hb7.mono HLOW.out.size)⟩
end Go.Proofs.YtbldeiejlebbiaaDoor.T
