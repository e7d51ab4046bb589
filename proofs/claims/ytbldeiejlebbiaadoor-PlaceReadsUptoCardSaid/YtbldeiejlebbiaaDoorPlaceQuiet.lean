/-
  Parts of lists of places; errataref03.Common and SamePlaces do nothing but draw.
-/
import Derived.Test.YtbldeiejlebbiaaDoorPlaceBlock
import Derived.Test.YtbldeiejlebbiaaDoorPlaceBase
set_option linter.unusedVariables false
namespace Go.Proofs.YtbldeiejlebbiaaDoor.T
open Go Go.Lib Go.RowKit

/-- a part of some places -/
theorem slice_two (t : TypeId) (hu : Tryd.prog.underlying t = some (.slice (Tryd.prog.elem t))) (hz : ∀ W : World, (sizeOf (Tryd.prog.elem t)).run Tryd.prog W = .ok 2 W)
    (B : Nat) (w : World) (v : Value) (l : List Pl) (h : PlSl B w v l) (a b : Nat) (hab : a ≤ b) (hb : b ≤ l.length) :
    ∃ v', (∀ W : World, (Instr.slice t v (some (.int .i64 (a : Int))) (some (.int .i64 (b : Int))) none).run Tryd.prog W = .ok v' W) ∧ PlSl B w v' ((l.take b).drop a) := by
  obtain ⟨pa, c, rfl, h1, h2, h3⟩ := h
  refine ⟨sliced pa a b c 2, fun W => ?_, ?_⟩
  · rw [run_slice_lh (P := Tryd.prog) W t pa l.length c hu .i64 .i64 (a : Int) (b : Int) (by omega) (by omega) (by omega), hz]
    simp only [Result.andThen, Int.toNat_natCast]
  · have hlk : ((l.take b).drop a).length = b - a := by rw [List.length_drop, List.length_take]; omega
    refine ⟨_, c - a, by unfold sliced; rw [hlk], by omega, by omega, fun hne => ?_⟩
    have hlt : a < b := by
      rcases Nat.lt_or_ge a b with h | h
      · exact h
      · exfalso; exact hne (List.eq_nil_of_length_eq_zero (by omega))
    obtain ⟨bk, o, rfl, hbk, hat⟩ := h3 (by intro e; subst e; simp at hb; omega)
    refine ⟨bk, o + a * 2, ?_, hbk, (hat.take b).drop a⟩
    rw [if_neg (by omega)]
    simp [Addr.add]
/-- the last of some places -/
theorem slice_from (t : TypeId) (hu : Tryd.prog.underlying t = some (.slice (Tryd.prog.elem t))) (hz : ∀ W : World, (sizeOf (Tryd.prog.elem t)).run Tryd.prog W = .ok 2 W)
    (B : Nat) (w : World) (v : Value) (l : List Pl) (h : PlSl B w v l) (a : Nat) (ha : a ≤ l.length) :
    ∃ v', (∀ W : World, (Instr.slice t v (some (.int .i64 (a : Int))) none none).run Tryd.prog W = .ok v' W) ∧ PlSl B w v' (l.drop a) := by
  obtain ⟨pa, c, rfl, h1, h2, h3⟩ := h
  refine ⟨sliced pa a l.length c 2, fun W => ?_, ?_⟩
  · rw [run_slice_l (P := Tryd.prog) W t pa l.length c hu .i64 (a : Int) (by omega) (by omega), hz]
    simp only [Result.andThen, Int.toNat_natCast]
  · have hlk : (l.drop a).length = l.length - a := List.length_drop ..
    refine ⟨_, c - a, by unfold sliced; rw [hlk], by omega, by omega, fun hne => ?_⟩
    have hlt : a < l.length := by
      rcases Nat.lt_or_ge a l.length with h | h
      · exact h
      · exfalso; exact hne (List.eq_nil_of_length_eq_zero (by omega))
    obtain ⟨bk, o, rfl, hbk, hat⟩ := h3 (by intro e; subst e; simp at hlt)
    refine ⟨bk, o + a * 2, ?_, hbk, hat.drop a⟩
    rw [if_neg (by omega)]
    simp [Addr.add]
theorem ownTy : Tryd.prog.underlying 23 = some (.slice (Tryd.prog.elem 23)) := by kernel_rfl
theorem refTy : Tryd.prog.underlying 32 = some (.slice (Tryd.prog.elem 32)) := by kernel_rfl
theorem ownTwo (W : World) : (sizeOf (Tryd.prog.elem 23)).run Tryd.prog W = .ok 2 W := by kernel_rfl
theorem refTwo (W : World) : (sizeOf (Tryd.prog.elem 32)).run Tryd.prog W = .ok 2 W := by kernel_rfl

/-- nothing has been done but draws -/
def Dr (w w' : World) : Prop := ∃ n, w' = w.drewN n
theorem Dr.refl (w : World) : Dr w w := ⟨0, rfl⟩
theorem Dr.drewN {w w' : World} (h : Dr w w') (n : Nat) : Dr w (w'.drewN n) := by obtain ⟨m, rfl⟩ := h; exact ⟨m + n, by simp⟩
theorem Dr.drew {w w' : World} (h : Dr w w') : Dr w w'.drew := by obtain ⟨m, rfl⟩ := h; exact ⟨m + 1, rfl⟩
theorem Dr.cell {w w' : World} (h : Dr w w') (p : Addr) : w'.cell? p = w.cell? p := by obtain ⟨m, rfl⟩ := h; rfl
theorem Dr.below {w w' : World} (h : Dr w w') (B : Nat) : Below B w w' := by obtain ⟨m, rfl⟩ := h; exact Go.below_drewN (Below.refl _ _) _
set_option maxRecDepth 100000 in
set_option maxHeartbeats 8000000 in
theorem comQ_in (l m : List Pl) (B : Nat) (u v : Value) (w : World) (hu : PlSl B w u l) (hv : PlSl B w v m) :
    Calls Tryd.prog 75 #[u, v] w fun e w' => e = .returned (.int .i64 (com l m : Nat)) ∧ Dr w w' := by
  obtain ⟨pa, ca, rfl, ha1, ha2, ha3⟩ := hu
  obtain ⟨pb, cb, rfl, hb1, hb2, hb3⟩ := hv
  generalize hC : com l m = C at *
  have HC := Lib.hid hC
  clear hC
  go_enter Tryd.func75, Tryd.ntmps75
  go_wp2
  go_loopw [5] (fun i wr => ∃ (k : Nat), k ≤ l.length ∧ k ≤ m.length ∧ i = .int .i64 k ∧ com (l.drop k) (m.drop k) + k = C ∧ Dr w wr)
    (fun i _ => l.length - (RowKit.intOf i).toNat)
  case atStart => exact ⟨0, Nat.zero_le _, Nat.zero_le _, rfl, HC.out, Dr.refl _⟩
  case round =>
    obtain ⟨k, hk, hk2, rfl, hcom, hbw⟩ := hrel
    have HCm := Lib.hid hcom
    clear hcom
    by_cases hlt : k < l.length
    · by_cases hlt2 : k < m.length
      · obtain ⟨bk, o, rfl, _, hA⟩ := ha3 (by intro e; subst e; simp at hlt)
        obtain ⟨bk2, o2, rfl, _, hB⟩ := hb3 (by intro e; subst e; simp at hlt2)
        have hx : l[k]? = some l[k] := List.getElem?_eq_getElem hlt
        have hy : m[k]? = some m[k] := List.getElem?_eq_getElem hlt2
        have kp : ∀ (p : Addr) (u : Value), w.cell? p = some u → wr.cell? p = some u := fun p u hp => (hbw.cell p).trans hp
        have c1 := kp _ _ (hA k _ hx).1
        have c2 := kp _ _ (hA k _ hx).2
        have c3 := kp _ _ (hB k _ hy).1
        have c4 := kp _ _ (hB k _ hy).2
        have hst := com_step hx hy
        clear hA hB ha3 hb3 kp
        generalize l[k] = x at *
        generalize m[k] = y at *
        have HS := Lib.hid hst
        clear hx hy hst
        have hN : decide ((k : Int) < (l.length : Int)) = true := by simp; omega
        have hN2 : decide ((k : Int) < (m.length : Int)) = true := by simp; omega
        generalize ht1 : (x.n.toList == y.n.toList) = b1 at *
        generalize ht2 : (x.k == y.k) = b2 at *
        have he : eqP x y = (b1 && b2) := by unfold eqP; rw [ht1, ht2]
        have HE := Lib.hid he
        clear he
        cases b1 with
        | false =>
          have hfin : C = k := by have := HCm.out; rw [HS.out, HE.out] at this; simpa using this.symm
          subst hfin
          go_wp2
          go_quiet (fail)
          go_wp2
          go_ret
          exact ⟨rfl, by first | exact hbw.drewN _ | exact hbw.drew | exact hbw⟩
        | true =>
          cases b2 with
          | false =>
            have hfin : C = k := by have := HCm.out; rw [HS.out, HE.out] at this; simpa using this.symm
            subst hfin
            go_wp2
            go_quiet (fail)
            go_wp2
            go_ret
            exact ⟨rfl, by first | exact hbw.drewN _ | exact hbw.drew | exact hbw⟩
          | true =>
            have hnx : com (l.drop (k + 1)) (m.drop (k + 1)) + (k + 1) = C := by have := HCm.out; rw [HS.out, HE.out] at this; simp at this; omega
            go_wp2
            go_quiet (fail)
            go_wp2
            go_roundw
            case rel => exact ⟨k + 1, hlt, hlt2, by go_num, hnx, by first | exact hbw.drewN _ | exact hbw.drew | exact hbw⟩
            case measure => simp [RowKit.intOf]; omega
      · have hfin : C = k := by
          have := HCm.out
          rw [List.drop_of_length_le (l := m) (by omega), com_nil] at this
          omega
        subst hfin
        have hN : decide ((C : Int) < (l.length : Int)) = true := by simp; omega
        have hN2 : decide ((C : Int) < (m.length : Int)) = false := by simp; omega
        go_wp2
        go_quiet (fail)
        go_wp2
        go_ret
        exact ⟨rfl, by first | exact hbw.drewN _ | exact hbw.drew | exact hbw⟩
    · have hfin : C = k := by
        have := HCm.out
        rw [List.drop_of_length_le (l := l) (by omega)] at this
        simp [com] at this
        omega
      subst hfin
      have hN : decide ((C : Int) < (l.length : Int)) = false := by simp; omega
      go_wp2
      go_quiet (fail)
      go_wp2
      go_ret
      exact ⟨rfl, by first | exact hbw.drewN _ | exact hbw.drew | exact hbw⟩

set_option maxRecDepth 100000 in
set_option maxHeartbeats 4000000 in
theorem sameP_in (l m : List Pl) (B : Nat) (u v : Value) (w : World) (hu : PlSl B w u l) (hv : PlSl B w v m) :
    Calls Tryd.prog 73 #[u, v] w fun e w' => e = .returned (.bool (decide (l.length = m.length) && decide (com l m = l.length))) ∧ Dr w w' := by
  have cC := comQ_in l m B u v w hu hv
  obtain ⟨pa, ca, rfl, ha1, ha2, ha3⟩ := hu
  obtain ⟨pb, cb, rfl, hb1, hb2, hb3⟩ := hv
  clear ha3 hb3
  generalize com l m = C at *
  generalize l.length = n at *
  generalize m.length = n' at *
  go_enter Tryd.func73, Tryd.ntmps73
  by_cases h : n = n'
  · subst h
    by_cases h2 : C = n
    · subst h2
      go_wp2_with (go_at_call 75; refine cC.mono ?_; rintro e w1 ⟨rfl, hb1⟩)
      go_ret
      exact ⟨by simp, hb1⟩
    · have hd : decide ((C : Int) = (n : Int)) = false := by simp; omega
      have hd2 : ((C : Int) == (n : Int)) = false := by simp; omega
      go_wp2_with (go_at_call 75; refine cC.mono ?_; rintro e w1 ⟨rfl, hb1⟩)
      go_ret
      exact ⟨by simp, hb1⟩
  · have hd : decide ((n : Int) = (n' : Int)) = false := by simp; omega
    have hd2 : ((n : Int) == (n' : Int)) = false := by simp; omega
    go_wp2_with (go_at_call 75; refine cC.mono ?_; rintro e w1 ⟨rfl, hb1⟩)
    go_ret
    exact ⟨by simp [h], Dr.refl _⟩

end Go.Proofs.YtbldeiejlebbiaaDoor.T
