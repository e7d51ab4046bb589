/-
  place.Common only reads.
-/
import Derived.Test.YtbldeiejlebbiaaDoorPlaceQuiet
set_option linter.unusedVariables false
namespace Go.Proofs.YtbldeiejlebbiaaDoor.T
open Go Go.Lib Go.RowKit

set_option maxRecDepth 100000 in
set_option maxHeartbeats 4000000 in
theorem comOwn_in (l m : List Pl) (B : Nat) (u v : Value) (w : World) (hu : PlSl B w u l) (hv : PlSl B w v m) :
    Calls Tryd.prog 38 #[u, v] w fun e w' => e = .returned (.int .i64 (com l m : Nat)) ∧ Dr w w' := by
  obtain ⟨pa, ca, rfl, ha1, ha2, ha3⟩ := hu
  obtain ⟨pb, cb, rfl, hb1, hb2, hb3⟩ := hv
  generalize hC : com l m = C at *
  have HC := Lib.hid hC
  clear hC
  go_enter Tryd.func38, Tryd.ntmps38
  go_wp2
  go_loopw [5] (fun i wr => ∃ (k : Nat), k ≤ l.length ∧ k ≤ m.length ∧ i = .int .i64 k ∧ com (l.drop k) (m.drop k) + k = C ∧ Dr w wr)
    (fun i _ => l.length - (RowKit.intOf i).toNat)
  case atStart => exact ⟨0, Nat.zero_le _, Nat.zero_le _, rfl, HC.out, Dr.refl _⟩
  case round =>
    obtain ⟨k, hk, hk2, rfl, hcom, hbw⟩ := hrel
    have HCm := Lib.hid hcom
    clear hcom
    by_cases hlt : k < l.length
    · by_cases hlt2 : k < m.length
      · obtain ⟨bk, o, rfl, _, hA⟩ := ha3 (by intro e; subst e; simp at hlt)
        obtain ⟨bk2, o2, rfl, _, hB⟩ := hb3 (by intro e; subst e; simp at hlt2)
        have hx : l[k]? = some l[k] := List.getElem?_eq_getElem hlt
        have hy : m[k]? = some m[k] := List.getElem?_eq_getElem hlt2
        have kp : ∀ (p : Addr) (u : Value), w.cell? p = some u → wr.cell? p = some u := fun p u hp => (hbw.cell p).trans hp
        have c1 := kp _ _ (hA k _ hx).1
        have c2 := kp _ _ (hA k _ hx).2
        have c3 := kp _ _ (hB k _ hy).1
        have c4 := kp _ _ (hB k _ hy).2
        have hst := com_step hx hy
        clear hA hB ha3 hb3 kp
        generalize l[k] = x at *
        generalize m[k] = y at *
        have HS := Lib.hid hst
        clear hx hy hst
        have hN : decide ((k : Int) < (l.length : Int)) = true := by simp; omega
        have hN2 : decide ((k : Int) < (m.length : Int)) = true := by simp; omega
        generalize ht1 : (x.n.toList == y.n.toList) = b1 at *
        generalize ht2 : (x.k == y.k) = b2 at *
        have he : eqP x y = (b1 && b2) := by unfold eqP; rw [ht1, ht2]
        have HE := Lib.hid he
        clear he
        cases b1 with
        | false =>
          have hfin : C = k := by have := HCm.out; rw [HS.out, HE.out] at this; simpa using this.symm
          subst hfin
          go_wp2
          go_quiet (fail)
          go_wp2
          go_ret
          exact ⟨rfl, by first | exact hbw.drewN _ | exact hbw.drew | exact hbw⟩
        | true =>
          cases b2 with
          | false =>
            have hfin : C = k := by have := HCm.out; rw [HS.out, HE.out] at this; simpa using this.symm
            subst hfin
            go_wp2
            go_quiet (fail)
            go_wp2
            go_ret
            exact ⟨rfl, by first | exact hbw.drewN _ | exact hbw.drew | exact hbw⟩
          | true =>
            have hnx : com (l.drop (k + 1)) (m.drop (k + 1)) + (k + 1) = C := by have := HCm.out; rw [HS.out, HE.out] at this; simp at this; omega
            go_wp2
            go_quiet (fail)
            go_wp2
            go_roundw
            case rel => exact ⟨k + 1, hlt, hlt2, by go_num, hnx, by first | exact hbw.drewN _ | exact hbw.drew | exact hbw⟩
            case measure => simp [RowKit.intOf]; omega
      · have hfin : C = k := by
          have := HCm.out
          rw [List.drop_of_length_le (l := m) (by omega), com_nil] at this
          omega
        subst hfin
        have hN : decide ((C : Int) < (l.length : Int)) = true := by simp; omega
        have hN2 : decide ((C : Int) < (m.length : Int)) = false := by simp; omega
        go_wp2
        go_quiet (fail)
        go_wp2
        go_ret
        exact ⟨rfl, by first | exact hbw.drewN _ | exact hbw.drew | exact hbw⟩
    · have hfin : C = k := by
        have := HCm.out
        rw [List.drop_of_length_le (l := l) (by omega)] at this
        simp [com] at this
        omega
      subst hfin
      have hN : decide ((C : Int) < (l.length : Int)) = false := by simp; omega
      go_wp2
      go_quiet (fail)
      go_wp2
      go_ret
      exact ⟨rfl, by first | exact hbw.drewN _ | exact hbw.drew | exact hbw⟩
end Go.Proofs.YtbldeiejlebbiaaDoor.T
