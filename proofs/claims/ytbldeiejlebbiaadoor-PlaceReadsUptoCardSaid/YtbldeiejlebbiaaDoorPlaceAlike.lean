/-
  erratalaw03.alike: two lists of places are one.
-/
import Derived.Test.YtbldeiejlebbiaaDoorPlaceFoldP
set_option linter.unusedVariables false
namespace Go.Proofs.YtbldeiejlebbiaaDoor.T
open Go Go.Lib Go.RowKit

theorem com_len {l m : List Pl} (h : l.length = m.length) (hc : com l m = l.length) : l = m := by
  have := com_le_take l.length l m (by omega)
  rwa [List.take_length, h, List.take_length] at this
set_option maxRecDepth 100000 in
set_option maxHeartbeats 8000000 in
theorem alike_in (l m : List Pl) (B : Nat) (u v : Value) (w : World) (hu : PlSl B w u l) (hv : PlSl B w v m) :
    ∃ b, (b = true ↔ l = m) ∧ Calls Tryd.prog 32 #[u, v] w fun e w' => e = .returned (.bool b) ∧ Dr w w' := by
  refine ⟨decide (l.length = m.length ∧ com l m = l.length), ⟨fun h => by have := of_decide_eq_true h; exact com_len this.1 this.2, fun h => by subst h; simp [com_self]⟩, ?_⟩
  obtain ⟨pa, ca, rfl, ha1, ha2, ha3⟩ := hu
  obtain ⟨pb, cb, rfl, hb1, hb2, hb3⟩ := hv
  generalize hC : com l m = C at *
  have HC := Lib.hid hC
  clear hC
  go_enter Tryd.func32, Tryd.ntmps32
  by_cases hlm : l.length = m.length
  · have hne : ((l.length : Int) != (m.length : Int)) = false := by simp; omega
    rw [show decide (l.length = m.length ∧ C = l.length) = decide (C = l.length) by simp [hlm]]
    generalize hbq : decide (C = l.length) = bq at *
    have HBQ := Lib.hid hbq
    clear hbq
    go_wp2
    go_loopg [5] (l.length + 1) (fun g i wr => ∃ (k : Nat), k + g = l.length + 1 ∧ k ≤ l.length ∧ i = .int .i64 k ∧ com (l.drop k) (m.drop k) + k = C ∧ Dr w wr)
    case atStart => exact ⟨0, by omega, Nat.zero_le _, rfl, HC.out, Dr.refl _⟩
    case round =>
      obtain ⟨k, hkg, hk, rfl, hcom, hbw⟩ := hrel
      have HCm := Lib.hid hcom
      clear hcom
      by_cases hlt : k < l.length
      · obtain ⟨bk, o, rfl, _, hA⟩ := ha3 (by intro e; subst e; simp at hlt)
        obtain ⟨bk2, o2, rfl, _, hB⟩ := hb3 (by intro e; subst e; rw [List.length_nil] at hlm; omega)
        obtain ⟨x, hx⟩ : ∃ x, l[k]? = some x := ⟨_, List.getElem?_eq_getElem hlt⟩
        obtain ⟨y, hy⟩ : ∃ y, m[k]? = some y := ⟨_, List.getElem?_eq_getElem (by omega)⟩
        have kp : ∀ (p : Addr) (u : Value), w.cell? p = some u → wr.cell? p = some u := fun p u hp => (hbw.cell p).trans hp
        have c1 := kp _ _ (hA k _ hx).1
        have c2 := kp _ _ (hA k _ hx).2
        have c3 := kp _ _ (hB k _ hy).1
        have c4 := kp _ _ (hB k _ hy).2
        have hst := com_step hx hy
        clear hA hB ha3 hb3 kp
        have HS := Lib.hid hst
        clear hx hy hst
        have hN : decide ((k : Int) < (l.length : Int)) = true := by simp; omega
        generalize ht1 : (x.n.toList == y.n.toList) = b1 at *
        generalize ht2 : (x.k == y.k) = b2 at *
        have he : eqP x y = (b1 && b2) := by unfold eqP; rw [ht1, ht2]
        have HE := Lib.hid he
        clear he
        cases b1 with
        | false =>
          have hfin : C = k := by have := HCm.out; rw [HS.out, HE.out] at this; simpa using this.symm
          obtain rfl : bq = false := by rw [← HBQ.out]; exact decide_eq_false (by omega)
          go_wp2
          go_quiet (fail)
          go_wp2
          go_ret
          exact ⟨rfl, by first | exact hbw.drewN _ | exact hbw.drew | exact hbw⟩
        | true =>
          cases b2 with
          | false =>
            have hfin : C = k := by have := HCm.out; rw [HS.out, HE.out] at this; simpa using this.symm
            obtain rfl : bq = false := by rw [← HBQ.out]; exact decide_eq_false (by omega)
            go_wp2
            go_quiet (fail)
            go_wp2
            go_ret
            exact ⟨rfl, by first | exact hbw.drewN _ | exact hbw.drew | exact hbw⟩
          | true =>
            have hnx : com (l.drop (k + 1)) (m.drop (k + 1)) + (k + 1) = C := by have := HCm.out; rw [HS.out, HE.out] at this; simp at this; omega
            have HNX := Lib.hid hnx
            clear hnx
            go_wp2
            go_quiet (fail)
            go_wp2
            go_roundg (l.length - k)
            case measure => omega
            case rel => exact ⟨k + 1, by omega, hlt, by go_num, HNX.out, by first | exact hbw.drewN _ | exact hbw.drew | exact hbw⟩
      · have hfin : C = k := by
          have := HCm.out
          rw [List.drop_of_length_le (l := l) (by omega)] at this
          simp [com] at this
          omega
        have hkl : k = l.length := by omega
        have hN : decide ((k : Int) < (l.length : Int)) = false := by simp; omega
        obtain rfl : bq = true := by rw [← HBQ.out]; exact decide_eq_true (by omega)
        clear hkl hfin
        go_wp2
        go_ret
        exact ⟨rfl, by first | exact hbw.drewN _ | exact hbw.drew | exact hbw⟩
  · have hne : ((l.length : Int) != (m.length : Int)) = true := by simp; omega
    rw [decide_eq_false (fun h => hlm h.1)]
    go_wp2
    go_ret
    exact ⟨rfl, Dr.refl _⟩
end Go.Proofs.YtbldeiejlebbiaaDoor.T
