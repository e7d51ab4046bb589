/-
  place.repeats and errataref03.times: how often the first places of a list stand one behind the other.
-/
import Derived.Test.YtbldeiejlebbiaaDoorPlaceCommon
import Derived.Test.YtbldeiejlebbiaaDoorPlaceBase
import Derived.Deep.LoopGhost
import Derived.WalkMore
set_option linter.unusedVariables false
namespace Go.Proofs.YtbldeiejlebbiaaDoor.T
open Go Go.Lib Go.RowKit

/-- the first p places stand again from the place k * p on -/
def again (l : List Pl) (p k : Nat) : Prop := (k + 1) * p ≤ l.length ∧ p ≤ com (l.drop (k * p)) l
/-- they stand K times -/
structure IsRep (l : List Pl) (p K : Nat) : Prop where
  one : 1 ≤ K
  yes : ∀ j, 1 ≤ j → j < K → again l p j
  no : ¬ again l p K

theorem eqP_refl (x : Pl) : eqP x x = true := by unfold eqP; simp
theorem com_self (l : List Pl) : com l l = l.length := by
  induction l with
  | nil => rfl
  | cons x l ih => simp [com, eqP_refl, ih]
theorem com_take (p : Nat) : ∀ a b : List Pl, com (a.take p) (b.take p) = min p (com a b) := by
  induction p with
  | zero => intro a b; simp [com]
  | succ p ih =>
    intro a b
    cases a with
    | nil => simp [com]
    | cons x a =>
      cases b with
      | nil => simp [com]
      | cons y b =>
        simp only [List.take_succ_cons, com]
        split
        · rw [ih]; omega
        · simp

set_option maxRecDepth 100000 in
set_option maxHeartbeats 8000000 in
theorem repeats_in (l : List Pl) (hl : l.length ≤ 64) (p K : Nat) (hp : 1 ≤ p) (hp8 : p ≤ 64) (hpl : p ≤ l.length) (hK : IsRep l p K) (B : Nat) (v : Value) (w : World) (hv : PlSl B w v l) :
    Calls Tryd.prog 72 #[v, .int .i64 p] w fun e w' => e = .returned (.int .i64 K) ∧ Below w.heap.size w w' := by
  obtain ⟨s, hsl, hs⟩ := slice_pl B w v l hv p hpl
  obtain ⟨pa, ca, rfl, ha1, ha2, ha3⟩ := hv
  obtain ⟨bk, o, rfl, hbk, hA⟩ := ha3 (by intro e; subst e; simp at hpl; omega)
  clear ha3
  have hlp : (l.take p).length = p := by rw [List.length_take]; omega
  obtain ⟨sa, sc, rfl, hs1, hs2, hs3⟩ := hs
  obtain ⟨bs, os, rfl, hbs, hS⟩ := hs3 (by intro e; rw [e] at hlp; simp at hlp; omega)
  rw [hlp] at hsl hs1
  clear hlp
  have hKn : ∀ k, k ≤ K → 1 ≤ k → k * p ≤ l.length := fun k hk h1 => by
    rcases Nat.lt_or_ge 1 k with h | h
    · obtain ⟨j, rfl⟩ : ∃ j, k = j + 1 := ⟨k - 1, by omega⟩
      exact (hK.yes j (by omega) (by omega)).1
    · obtain rfl : k = 1 := by omega
      simpa using hpl
  have hK64 : K ≤ 64 := by
    have h1 := hKn K (Nat.le_refl _) hK.one
    have : K * 1 ≤ K * p := Nat.mul_le_mul_left K hp
    omega
  go_enter Tryd.func72, Tryd.ntmps72
  go_wp2
  go_step3
  go_wp2
  go_step3
  go_wp2
  have HK := Lib.hid hK
  clear hK
  have HA := Lib.hid hA
  have HKN := Lib.hid hKn
  have HS := Lib.hid hS
  clear hA hKn hS hs3
  go_loopg [5] K (fun g i wr => ∃ (k : Nat), k + g = K + 1 ∧ 1 ≤ k ∧ k ≤ K ∧ i = .int .i64 k ∧ Below w.heap.size w wr)
  case atStart => exact ⟨1, by omega, Nat.le_refl _, HK.out.one, rfl, Below.refl _ _⟩
  case round =>
    obtain ⟨k, hkg, hk1, hkK, rfl, hbw⟩ := hrel
    obtain ⟨q, hq⟩ : ∃ q, q = (k + 1) * p := ⟨_, rfl⟩
    have hq64 : q ≤ 65 * 64 := by rw [hq]; exact Nat.mul_le_mul (by omega) hp8
    have hqi : ((k : Int) + 1) * (p : Int) = (q : Int) := by rw [hq]; simp
    by_cases hin : q ≤ l.length
    · have hd : decide ((q : Int) ≤ (l.length : Int)) = true := by simp only [decide_eq_true_eq]; omega
      have HQ := Lib.hid hq
      clear hq
      obtain ⟨r, hr⟩ : ∃ r, r = k * p := ⟨_, rfl⟩
      have hri : (k : Int) * (p : Int) = (r : Int) := by rw [hr]; simp
      have hrq : r + p = q := by rw [hr, HQ.out, Nat.add_mul, Nat.one_mul]
      have hR := Lib.hid hr
      clear hr
      go_wp2
      go_loopg [21] (p + 1) (fun g i wx => ∃ (j : Nat), j + g = p + 1 ∧ j ≤ p ∧ i = .int .i64 j ∧ com ((l.drop r).drop j) (l.drop j) + j = com (l.drop r) l ∧ Below w.heap.size w wx)
      case atStart => exact ⟨0, by omega, by omega, rfl, by simp, hbw⟩
      case round =>
        obtain ⟨j, hjg, hjp, rfl, hcom, hbx⟩ := hrel
        have hszx := hbx.size
        rcases Nat.lt_or_ge j p with hj | hj
        · obtain ⟨x, hx⟩ : ∃ x, l[r + j]? = some x := ⟨_, List.getElem?_eq_getElem (by omega)⟩
          obtain ⟨y, hy⟩ : ∃ y, l[j]? = some y := ⟨_, List.getElem?_eq_getElem (by omega)⟩
          have hy2 : (l.take p)[j]? = some y := by rw [List.getElem?_take_of_lt hj]; exact hy
          have kp : ∀ (p : Addr) (u : Value), w.cell? p = some u → wr.cell? p = some u := fun p u hp => (hbx.cell (World.block_lt_of_cell? w p hp)).trans hp
          have c1 := kp _ _ (HA.out _ _ hx).1
          have c2 := kp _ _ (HA.out _ _ hx).2
          have c3 := kp _ _ (HS.out _ _ hy2).1
          have c4 := kp _ _ (HS.out _ _ hy2).2
          have hbkx : bk < wr.heap.size := World.block_lt_of_cell? wr _ c1
          have hbsx : bs < wr.heap.size := World.block_lt_of_cell? wr _ c3
          have hst := com_step (a := l.drop r) (b := l) (k := j) (by rw [List.getElem?_drop]; exact hx) hy
          have HC := Lib.hid hcom
          have HST := Lib.hid hst
          clear hcom hst hx hy hy2 kp
          have hN : decide ((j : Int) < (p : Int)) = true := by simp; omega
          go_wp2
          have hbb : Below w.heap.size w (wr.alloc (Obj.cells #[.string y.n, .int .i64 y.k] 39)) := hbx.alloc hszx _
          generalize ht1 : (x.n.toList == y.n.toList) = b1 at *
          generalize ht2 : (x.k == y.k) = b2 at *
          have he : eqP x y = (b1 && b2) := by unfold eqP; rw [ht1, ht2]
          have HE := Lib.hid he
          clear he
          cases b1 with
          | false =>
            have hkE : k = K := by
              rcases Nat.lt_or_ge k K with h | h
              · exfalso
                have h1 := (HK.out.yes k hk1 h).2
                have h2 := HC.out
                rw [← hR.out, ← h2, HST.out, HE.out] at h1
                simp at h1
                omega
              · omega
            subst hkE
            go_quiet (fail)
            go_wp2
            try rw [Exit.noGoto_ret]
            go_ret
            exact ⟨rfl, by first | exact Go.below_drewN hbb _ | exact hbb.drew | exact hbb⟩
          | true =>
            cases b2 with
            | false =>
              have hkE : k = K := by
                rcases Nat.lt_or_ge k K with h | h
                · exfalso
                  have h1 := (HK.out.yes k hk1 h).2
                  have h2 := HC.out
                  rw [← hR.out, ← h2, HST.out, HE.out] at h1
                  simp at h1
                  omega
                · omega
              subst hkE
              go_quiet (fail)
              go_wp2
              try rw [Exit.noGoto_ret]
              go_ret
              exact ⟨rfl, by first | exact Go.below_drewN hbb _ | exact hbb.drew | exact hbb⟩
            | true =>
              have hnx : com ((l.drop r).drop (j + 1)) (l.drop (j + 1)) + (j + 1) = com (l.drop r) l := by have := HC.out; rw [HST.out, HE.out] at this; simp at this; simp; omega
              have HNX := Lib.hid hnx
              clear hnx
              go_quiet (fail)
              go_wp2
              go_roundg (p - j)
              case measure => omega
              case rel => exact ⟨j + 1, by omega, hj, by go_num, HNX.out, by first | exact Go.below_drewN hbb _ | exact hbb.drew | exact hbb⟩
        · have hag : again l p k := ⟨by rw [← HQ.out]; exact hin, by rw [← hR.out, ← hcom]; omega⟩
          have hkk : k < K := by
            rcases Nat.lt_or_ge k K with h | h
            · exact h
            · have : k = K := by omega
              subst this
              exact absurd hag HK.out.no
          have hN : decide ((j : Int) < (p : Int)) = false := by simp; omega
          clear hcom hag
          go_wp2
          go_roundg (K - k)
          case measure => omega
          case rel => exact ⟨k + 1, by omega, by omega, by omega, by go_num, by first | exact Go.below_drewN hbx _ | exact hbx.drew | exact hbx⟩
    · have hkK : k = K := by
        rcases Nat.lt_or_ge k K with h | h
        · exact absurd (hq ▸ (HK.out.yes k hk1 h).1) hin
        · omega
      subst hkK
      have hd : decide ((q : Int) ≤ (l.length : Int)) = false := by simp only [decide_eq_false_iff_not]; omega
      clear hq
      go_wp2
      try rw [Exit.noGoto_ret]
      go_ret
      exact ⟨rfl, hbw⟩
end Go.Proofs.YtbldeiejlebbiaaDoor.T
