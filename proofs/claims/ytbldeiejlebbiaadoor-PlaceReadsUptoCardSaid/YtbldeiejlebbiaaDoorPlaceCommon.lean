/-
  place.Common and errataref03.Common; errataref03.digits.
-/
import Derived.Test.YtbldeiejlebbiaaDoorPlaceRefP
set_option linter.unusedVariables false
namespace Go.Proofs.YtbldeiejlebbiaaDoor.T
open Go Go.Lib Go.RowKit

def eqP (p q : Pl) : Bool := (p.n.toList == q.n.toList) && (p.k == q.k)
def com : List Pl → List Pl → Nat
  | p :: a, q :: b => if eqP p q then com a b + 1 else 0
  | _, _ => 0
theorem com_nil (a : List Pl) : com a [] = 0 := by cases a <;> rfl
theorem com_step {a b : List Pl} {k : Nat} {x y : Pl} (ha : a[k]? = some x) (hb : b[k]? = some y) : com (a.drop k) (b.drop k) = if eqP x y then com (a.drop (k + 1)) (b.drop (k + 1)) + 1 else 0 := by
  obtain ⟨h1, e1⟩ := List.getElem?_eq_some_iff.1 ha
  obtain ⟨h2, e2⟩ := List.getElem?_eq_some_iff.1 hb
  rw [List.drop_eq_getElem_cons h1, List.drop_eq_getElem_cons h2, e1, e2]
  rfl

set_option maxRecDepth 100000 in
set_option maxHeartbeats 8000000 in
theorem Common_in (l m : List Pl) (B : Nat) (u v : Value) (w : World) (hu : PlSl B w u l) (hv : PlSl B w v m) :
    Calls Tryd.prog 38 #[u, v] w fun e w' => e = .returned (.int .i64 (com l m : Nat)) ∧ Below w.heap.size w w' := by
  obtain ⟨pa, ca, rfl, ha1, ha2, ha3⟩ := hu
  obtain ⟨pb, cb, rfl, hb1, hb2, hb3⟩ := hv
  generalize hC : com l m = C at *
  have HC := Lib.hid hC
  clear hC
  go_enter Tryd.func38, Tryd.ntmps38
  go_wp2
  go_loopw [5] (fun i wr => ∃ (k : Nat), k ≤ l.length ∧ k ≤ m.length ∧ i = .int .i64 k ∧ com (l.drop k) (m.drop k) + k = C ∧ Below w.heap.size w wr)
    (fun i _ => l.length - (RowKit.intOf i).toNat)
  case atStart => exact ⟨0, Nat.zero_le _, Nat.zero_le _, rfl, HC.out, Below.refl _ _⟩
  case round =>
    obtain ⟨k, hk, hk2, rfl, hcom, hbw⟩ := hrel
    have HCm := Lib.hid hcom
    clear hcom
    by_cases hlt : k < l.length
    · by_cases hlt2 : k < m.length
      · obtain ⟨bk, o, rfl, _, hA⟩ := ha3 (by intro e; subst e; simp at hlt)
        obtain ⟨bk2, o2, rfl, _, hB⟩ := hb3 (by intro e; subst e; simp at hlt2)
        have hx : l[k]? = some l[k] := List.getElem?_eq_getElem hlt
        have hy : m[k]? = some m[k] := List.getElem?_eq_getElem hlt2
        have kp : ∀ (p : Addr) (u : Value), w.cell? p = some u → wr.cell? p = some u := fun p u hp => (hbw.cell (World.block_lt_of_cell? w p hp)).trans hp
        have c1 := kp _ _ (hA k _ hx).1
        have c2 := kp _ _ (hA k _ hx).2
        have c3 := kp _ _ (hB k _ hy).1
        have c4 := kp _ _ (hB k _ hy).2
        have hst := com_step hx hy
        clear hA hB ha3 hb3 kp
        generalize l[k] = x at *
        generalize m[k] = y at *
        have HS := Lib.hid hst
        clear hx hy hst
        have hN : decide ((k : Int) < (l.length : Int)) = true := by simp; omega
        have hN2 : decide ((k : Int) < (m.length : Int)) = true := by simp; omega
        generalize ht1 : (x.n.toList == y.n.toList) = b1 at *
        generalize ht2 : (x.k == y.k) = b2 at *
        have he : eqP x y = (b1 && b2) := by unfold eqP; rw [ht1, ht2]
        have HE := Lib.hid he
        clear he
        cases b1 with
        | false =>
          have hfin : C = k := by have := HCm.out; rw [HS.out, HE.out] at this; simpa using this.symm
          subst hfin
          go_wp2
          go_quiet (fail)
          go_wp2
          go_ret
          exact ⟨rfl, by first | exact Go.below_drewN hbw _ | exact hbw.drew | exact hbw⟩
        | true =>
          cases b2 with
          | false =>
            have hfin : C = k := by have := HCm.out; rw [HS.out, HE.out] at this; simpa using this.symm
            subst hfin
            go_wp2
            go_quiet (fail)
            go_wp2
            go_ret
            exact ⟨rfl, by first | exact Go.below_drewN hbw _ | exact hbw.drew | exact hbw⟩
          | true =>
            have hnx : com (l.drop (k + 1)) (m.drop (k + 1)) + (k + 1) = C := by have := HCm.out; rw [HS.out, HE.out] at this; simp at this; omega
            go_wp2
            go_quiet (fail)
            go_wp2
            go_roundw
            case rel => exact ⟨k + 1, hlt, hlt2, by go_num, hnx, by first | exact Go.below_drewN hbw _ | exact hbw.drew | exact hbw⟩
            case measure => simp [RowKit.intOf]; omega
      · have hfin : C = k := by
          have := HCm.out
          rw [List.drop_of_length_le (l := m) (by omega), com_nil] at this
          omega
        subst hfin
        have hN : decide ((C : Int) < (l.length : Int)) = true := by simp; omega
        have hN2 : decide ((C : Int) < (m.length : Int)) = false := by simp; omega
        go_wp2
        go_quiet (fail)
        go_wp2
        go_ret
        exact ⟨rfl, by first | exact Go.below_drewN hbw _ | exact hbw.drew | exact hbw⟩
    · have hfin : C = k := by
        have := HCm.out
        rw [List.drop_of_length_le (l := l) (by omega)] at this
        simp [com] at this
        omega
      subst hfin
      have hN : decide ((C : Int) < (l.length : Int)) = false := by simp; omega
      go_wp2
      go_quiet (fail)
      go_wp2
      go_ret
      exact ⟨rfl, by first | exact Go.below_drewN hbw _ | exact hbw.drew | exact hbw⟩
set_option maxRecDepth 100000 in
set_option maxHeartbeats 8000000 in
theorem refCommon_in (l m : List Pl) (B : Nat) (u v : Value) (w : World) (hu : PlSl B w u l) (hv : PlSl B w v m) :
    Calls Tryd.prog 75 #[u, v] w fun e w' => e = .returned (.int .i64 (com l m : Nat)) ∧ Below w.heap.size w w' := by
  obtain ⟨pa, ca, rfl, ha1, ha2, ha3⟩ := hu
  obtain ⟨pb, cb, rfl, hb1, hb2, hb3⟩ := hv
  generalize hC : com l m = C at *
  have HC := Lib.hid hC
  clear hC
  go_enter Tryd.func75, Tryd.ntmps75
  go_wp2
  go_loopw [5] (fun i wr => ∃ (k : Nat), k ≤ l.length ∧ k ≤ m.length ∧ i = .int .i64 k ∧ com (l.drop k) (m.drop k) + k = C ∧ Below w.heap.size w wr)
    (fun i _ => l.length - (RowKit.intOf i).toNat)
  case atStart => exact ⟨0, Nat.zero_le _, Nat.zero_le _, rfl, HC.out, Below.refl _ _⟩
  case round =>
    obtain ⟨k, hk, hk2, rfl, hcom, hbw⟩ := hrel
    have HCm := Lib.hid hcom
    clear hcom
    by_cases hlt : k < l.length
    · by_cases hlt2 : k < m.length
      · obtain ⟨bk, o, rfl, _, hA⟩ := ha3 (by intro e; subst e; simp at hlt)
        obtain ⟨bk2, o2, rfl, _, hB⟩ := hb3 (by intro e; subst e; simp at hlt2)
        have hx : l[k]? = some l[k] := List.getElem?_eq_getElem hlt
        have hy : m[k]? = some m[k] := List.getElem?_eq_getElem hlt2
        have kp : ∀ (p : Addr) (u : Value), w.cell? p = some u → wr.cell? p = some u := fun p u hp => (hbw.cell (World.block_lt_of_cell? w p hp)).trans hp
        have c1 := kp _ _ (hA k _ hx).1
        have c2 := kp _ _ (hA k _ hx).2
        have c3 := kp _ _ (hB k _ hy).1
        have c4 := kp _ _ (hB k _ hy).2
        have hst := com_step hx hy
        clear hA hB ha3 hb3 kp
        generalize l[k] = x at *
        generalize m[k] = y at *
        have HS := Lib.hid hst
        clear hx hy hst
        have hN : decide ((k : Int) < (l.length : Int)) = true := by simp; omega
        have hN2 : decide ((k : Int) < (m.length : Int)) = true := by simp; omega
        generalize ht1 : (x.n.toList == y.n.toList) = b1 at *
        generalize ht2 : (x.k == y.k) = b2 at *
        have he : eqP x y = (b1 && b2) := by unfold eqP; rw [ht1, ht2]
        have HE := Lib.hid he
        clear he
        cases b1 with
        | false =>
          have hfin : C = k := by have := HCm.out; rw [HS.out, HE.out] at this; simpa using this.symm
          subst hfin
          go_wp2
          go_quiet (fail)
          go_wp2
          go_ret
          exact ⟨rfl, by first | exact Go.below_drewN hbw _ | exact hbw.drew | exact hbw⟩
        | true =>
          cases b2 with
          | false =>
            have hfin : C = k := by have := HCm.out; rw [HS.out, HE.out] at this; simpa using this.symm
            subst hfin
            go_wp2
            go_quiet (fail)
            go_wp2
            go_ret
            exact ⟨rfl, by first | exact Go.below_drewN hbw _ | exact hbw.drew | exact hbw⟩
          | true =>
            have hnx : com (l.drop (k + 1)) (m.drop (k + 1)) + (k + 1) = C := by have := HCm.out; rw [HS.out, HE.out] at this; simp at this; omega
            go_wp2
            go_quiet (fail)
            go_wp2
            go_roundw
            case rel => exact ⟨k + 1, hlt, hlt2, by go_num, hnx, by first | exact Go.below_drewN hbw _ | exact hbw.drew | exact hbw⟩
            case measure => simp [RowKit.intOf]; omega
      · have hfin : C = k := by
          have := HCm.out
          rw [List.drop_of_length_le (l := m) (by omega), com_nil] at this
          omega
        subst hfin
        have hN : decide ((C : Int) < (l.length : Int)) = true := by simp; omega
        have hN2 : decide ((C : Int) < (m.length : Int)) = false := by simp; omega
        go_wp2
        go_quiet (fail)
        go_wp2
        go_ret
        exact ⟨rfl, by first | exact Go.below_drewN hbw _ | exact hbw.drew | exact hbw⟩
    · have hfin : C = k := by
        have := HCm.out
        rw [List.drop_of_length_le (l := l) (by omega)] at this
        simp [com] at this
        omega
      subst hfin
      have hN : decide ((C : Int) < (l.length : Int)) = false := by simp; omega
      go_wp2
      go_quiet (fail)
      go_wp2
      go_ret
      exact ⟨rfl, by first | exact Go.below_drewN hbw _ | exact hbw.drew | exact hbw⟩

/-! ### digits -/
end Go.Proofs.YtbldeiejlebbiaaDoor.T
