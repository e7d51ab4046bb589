/-
  errataref03.times: the document's own count of how often the first places of a list stand one behind the other.
-/
import Derived.Test.YtbldeiejlebbiaaDoorPlaceQuiet
import Derived.BigQuiet
set_option linter.unusedVariables false
namespace Go.Proofs.YtbldeiejlebbiaaDoor.T
open Go Go.Lib Go.RowKit

/-- what the document's test says: the first places stand again from the place k * p on -/
theorem again_same (l : List Pl) (p k q r : Nat) (hp : p ≤ l.length) (hr : r = k * p) (hq : q = r + p) (hql : q ≤ l.length) :
    (decide (((l.take q).drop r).length = (l.take p).length) && decide (com ((l.take q).drop r) (l.take p) = ((l.take q).drop r).length)) = decide (again l p k) := by
  have e : (l.take q).drop r = (l.drop r).take p := by rw [List.drop_take, hq]; congr 1; omega
  have e1 : ((l.drop r).take p).length = p := by rw [List.length_take, List.length_drop]; omega
  have e2 : (l.take p).length = p := by rw [List.length_take]; omega
  rw [e, com_take, e1, e2]
  have : again l p k ↔ p ≤ com (l.drop r) l := by
    unfold again
    rw [hr]
    have : (k + 1) * p = q := by rw [hq, hr, Nat.add_mul, Nat.one_mul]
    constructor
    · exact fun h => h.2
    · exact fun h => ⟨by omega, h⟩
  by_cases h : p ≤ com (l.drop r) l
  · have h1 := this.2 h
    have h2 : min p (com (l.drop r) l) = p := Nat.min_eq_left h
    simp [h1, h2]
  · have h1 : ¬ again l p k := fun h' => h (this.1 h')
    have h2 : ¬ min p (com (l.drop r) l) = p := by omega
    simp [h1, h2]
set_option maxRecDepth 100000 in
set_option maxHeartbeats 8000000 in
theorem times_in (l : List Pl) (hl : l.length ≤ 64) (p K : Nat) (hp : 1 ≤ p) (hpl : p ≤ l.length) (hK : IsRep l p K) (v : Value) (w : World) (hv : PlSl w.heap.size w v l) :
    Calls Tryd.prog 44 #[v, .int .i64 p] w fun e w' => e = .returned (.int .i64 K) ∧ Below w.heap.size w w' := by
  have hKn := hK.len hpl
  have hK64 : K ≤ 64 := by
    have : K * 1 ≤ K * p := Nat.mul_le_mul_left K hp
    omega
  have hag0 : again l p 0 := ⟨by simpa using hpl, by simpa [com_self] using hpl⟩
  obtain ⟨s, hsl, hs⟩ := slice_ref _ w v l hv p hpl
  have hv0 := hv
  obtain ⟨pa, ca, rfl, ha1, ha2, _⟩ := hv
  have HV := Lib.hid hv0
  have HS := Lib.hid hs
  have HK := Lib.hid hK
  clear hv0 hs hK
  go_enter Tryd.func44, Tryd.ntmps44
  go_wp2
  go_loopg [5] (K + 1) (fun g i wr => ∃ (k : Nat), k + g = K + 1 ∧ k ≤ K ∧ i = .int .i64 k ∧ Below w.heap.size w wr)
  case atStart => exact ⟨0, by omega, by omega, rfl, Below.refl _ _⟩
  case round =>
    obtain ⟨k, hkg, hkK, rfl, hbw⟩ := hrel
    obtain ⟨r, hr⟩ : ∃ r, r = k * p := ⟨_, rfl⟩
    obtain ⟨q, hq⟩ : ∃ q, q = r + p := ⟨_, rfl⟩
    have hri : (k : Int) * (p : Int) = (r : Int) := by rw [hr]; simp
    have hqi : ((k : Int) + 1) * (p : Int) = (q : Int) := by rw [hq, hr, Int.add_mul]; simp
    have hrn : r ≤ l.length := by
      have : k * p ≤ K * p := Nat.mul_le_mul_right p hkK
      omega
    by_cases hin : q ≤ l.length
    · have hd : decide ((q : Int) ≤ (l.length : Int)) = true := by simp only [decide_eq_true_eq]; omega
      obtain ⟨s2, hsl2, hs2⟩ := slice_two _ refTy refTwo _ w _ l HV.out r q (by omega) hin
      have cS := fun W (hb : Dr wr W) => sameP_in _ _ _ s2 s W ((hs2.below hbw hbw.size).below (hb.below _) (hb.below wr.heap.size).size) ((HS.out.below hbw hbw.size).below (hb.below _) (hb.below wr.heap.size).size)
      rw [again_same l p k q r hpl hr hq hin] at cS
      have HQ := Lib.hid hq
      have HR := Lib.hid hr
      clear hq hr hs2
      by_cases hag : again l p k
      · have hkk : k < K := by
          rcases Nat.lt_or_ge k K with h | h
          · exact h
          · have : k = K := by omega
            subst this
            exact absurd hag HK.out.no
        rw [decide_eq_true hag] at cS
        clear hag
        go_wp2_with fail
        go_quiet (first | (go_at_call 73; refine Calls.quiet_of (cS _ ?_); exact ⟨_, rfl⟩))
        go_wp2
        go_roundg (K - k)
        case measure => omega
        case rel => exact ⟨k + 1, by omega, by omega, by go_num, by first | exact Go.below_drewN hbw _ | exact hbw.drew | exact hbw⟩
      · have hkE : k = K := by
          rcases Nat.lt_or_ge k K with h | h
          · exfalso
            rcases Nat.eq_zero_or_pos k with h0 | h0
            · subst h0; exact hag hag0
            · exact hag (HK.out.yes k h0 h)
          · omega
        subst hkE
        rw [decide_eq_false hag] at cS
        clear hag
        go_wp2_with fail
        go_quiet (first | (go_at_call 73; refine Calls.quiet_of (cS _ ?_); exact ⟨_, rfl⟩))
        go_wp2
        go_ret
        exact ⟨rfl, by first | exact Go.below_drewN hbw _ | exact hbw.drew | exact hbw⟩
    · have hd : decide ((q : Int) ≤ (l.length : Int)) = false := by simp only [decide_eq_false_iff_not]; omega
      have hqk : q = (k + 1) * p := by rw [hq, hr, Nat.add_mul, Nat.one_mul]
      have hkE : k = K := by
        rcases Nat.lt_or_ge k K with h | h
        · exfalso
          rcases Nat.eq_zero_or_pos k with h0 | h0
          · subst h0; exact hin (by rw [hqk]; exact hag0.1)
          · exact hin (by rw [hqk]; exact (HK.out.yes k h0 h).1)
        · omega
      subst hkE
      have hq128 : q ≤ 128 := by omega
      have hd' : decide (q ≤ l.length) = false := by simp only [decide_eq_false_iff_not]; exact hin
      clear hq hr hqk hin
      go_wp2_with fail
      go_quiet (fail)
      go_wp2
      go_ret
      exact ⟨rfl, by first | exact Go.below_drewN hbw _ | exact hbw.drew | exact hbw⟩
end Go.Proofs.YtbldeiejlebbiaaDoor.T
