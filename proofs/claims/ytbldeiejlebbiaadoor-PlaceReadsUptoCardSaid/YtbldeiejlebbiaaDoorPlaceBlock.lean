/-
  place.block: which of the first places of a list come again, and how often.
-/
import Derived.Test.YtbldeiejlebbiaaDoorPlaceRep
set_option linter.unusedVariables false
namespace Go.Proofs.YtbldeiejlebbiaaDoor.T
open Go Go.Lib Go.RowKit

instance (l : List Pl) (p k : Nat) : Decidable (again l p k) := by unfold again; infer_instance
/-- how often the first p places stand, from the k-th time on -/
def repGo (l : List Pl) (p : Nat) : Nat → Nat → Nat
  | 0, k => k
  | f + 1, k => if again l p k then repGo l p f (k + 1) else k
def rep (l : List Pl) (p : Nat) : Nat := repGo l p l.length 1
theorem again_le {l : List Pl} {p k : Nat} (hp : 1 ≤ p) (h : again l p k) : k + 1 ≤ l.length := by
  have h1 := h.1
  have : (k + 1) * 1 ≤ (k + 1) * p := Nat.mul_le_mul_left _ hp
  omega
theorem repGo_is (l : List Pl) (p : Nat) (hp : 1 ≤ p) : ∀ f k, 1 ≤ k → l.length ≤ f + k → (∀ j, 1 ≤ j → j < k → again l p j) → IsRep l p (repGo l p f k) := by
  intro f
  induction f with
  | zero =>
    intro k h1 h2 h3
    show IsRep l p k
    exact ⟨h1, h3, fun h => by have := again_le hp h; omega⟩
  | succ f ih =>
    intro k h1 h2 h3
    unfold repGo
    split
    · rename_i h
      refine ih (k + 1) (by omega) (by omega) (fun j hj1 hj2 => ?_)
      rcases Nat.lt_or_ge j k with hjk | hjk
      · exact h3 j hj1 hjk
      · obtain rfl : j = k := by omega
        exact h
    · rename_i h
      exact ⟨h1, h3, h⟩
theorem rep_is (l : List Pl) (p : Nat) (hp : 1 ≤ p) : IsRep l p (rep l p) := repGo_is l p hp _ _ (Nat.le_refl _) (by omega) (fun j h1 h2 => by omega)
theorem IsRep.len {l : List Pl} {p K : Nat} (h : IsRep l p K) (hpl : p ≤ l.length) : K * p ≤ l.length := by
  rcases Nat.lt_or_ge 1 K with h1 | h1
  · obtain ⟨j, rfl⟩ : ∃ j, K = j + 1 := ⟨K - 1, by omega⟩
    exact (h.yes j (by omega) (by omega)).1
  · have := h.one
    obtain rfl : K = 1 := by omega
    simpa using hpl
/-- the better of two blocks: that of more places, of like ones the earlier -/
def better (l : List Pl) (b : Nat × Nat) (p : Nat) : Nat × Nat := if 1 < rep l p ∧ b.1 * b.2 < p * rep l p then (p, rep l p) else b
def blkGo (l : List Pl) : Nat → Nat → Nat × Nat → Nat × Nat
  | 0, _, b => b
  | f + 1, p, b => if p ≤ 8 ∧ 2 * p ≤ l.length then blkGo l f (p + 1) (better l b p) else b
def blk (l : List Pl) : Nat × Nat := blkGo l 8 1 (1, 1)
/-- one place once, or a block of up to eight that stands several times -/
def OkB (l : List Pl) (b : Nat × Nat) : Prop := b = (1, 1) ∨ (1 ≤ b.1 ∧ b.1 ≤ 8 ∧ 2 ≤ b.2 ∧ IsRep l b.1 b.2 ∧ b.1 ≤ l.length)
theorem OkB.better {l : List Pl} {b : Nat × Nat} (h : OkB l b) {p : Nat} (hp : 1 ≤ p) (hp8 : p ≤ 8) (hpl : 2 * p ≤ l.length) : OkB l (better l b p) := by
  unfold T.better
  split
  · rename_i hc
    exact .inr ⟨hp, hp8, hc.1, rep_is l p hp, by show p ≤ _; omega⟩
  · exact h
theorem OkB.go {l : List Pl} : ∀ f p b, 1 ≤ p → OkB l b → OkB l (blkGo l f p b) := by
  intro f
  induction f with
  | zero => intro p b _ h; exact h
  | succ f ih =>
    intro p b hp h
    unfold blkGo
    split
    · rename_i hc
      exact ih (p + 1) _ (by omega) (h.better hp hc.1 hc.2)
    · exact h
theorem blk_ok (l : List Pl) : OkB l (blk l) := OkB.go _ _ _ (Nat.le_refl _) (.inl rfl)
theorem OkB.num {l : List Pl} {b : Nat × Nat} (h : OkB l b) (hl : 1 ≤ l.length) : 1 ≤ b.1 ∧ b.1 ≤ 8 ∧ 1 ≤ b.2 ∧ b.1 * b.2 ≤ l.length := by
  rcases h with rfl | ⟨h1, h2, h3, h4, h5⟩
  · simp; omega
  · exact ⟨h1, h2, by omega, by rw [Nat.mul_comm]; exact h4.len h5⟩

set_option maxRecDepth 100000 in
set_option maxHeartbeats 8000000 in
theorem block_in (l : List Pl) (hl : l.length ≤ 64) (hl1 : 1 ≤ l.length) (v : Value) (w : World) (hv : PlSl w.heap.size w v l) :
    Calls Tryd.prog 41 #[v] w fun e w' => e = .returned (.tuple #[.int .i64 (blk l).1, .int .i64 (blk l).2]) ∧ Below w.heap.size w w' := by
  have cR : ∀ W (p : Nat), Below w.heap.size w W → 1 ≤ p → p ≤ 8 → 2 * p ≤ l.length → Calls Tryd.prog 72 #[v, .int .i64 p] W fun e w' => e = .returned (.int .i64 (rep l p : Nat)) ∧ Below W.heap.size W w' :=
    fun W p hb h1 h8 h2 => repeats_in l hl p (rep l p) h1 (by omega) (by omega) (rep_is l p h1) _ v W (hv.below hb hb.size)
  have hF := blk_ok l
  obtain ⟨pa, ca, rfl, ha1, ha2, ha3⟩ := hv
  clear ha3
  generalize hbb : blk l = bb at *
  have HB : Hid (blkGo l 8 1 (1, 1) = bb) := Lib.hid hbb
  have CR := Lib.hid cR
  clear cR hbb hF
  go_enter Tryd.func41, Tryd.ntmps41
  go_wp2
  go_loopg [2, 3, 4] 9 (fun g x y i wr => ∃ (p : Nat) (b : Nat × Nat), p + g = 10 ∧ 1 ≤ p ∧ i = .int .i64 p ∧ x = .int .i64 b.1 ∧ y = .int .i64 b.2 ∧ OkB l b ∧ blkGo l (g - 1) p b = bb ∧ Below w.heap.size w wr)
  case atStart => exact ⟨1, (1, 1), by omega, Nat.le_refl _, rfl, rfl, rfl, .inl rfl, HB.out, Below.refl _ _⟩
  case round =>
    obtain ⟨p, ⟨b1, b2⟩, hpg, hp1, rfl, rfl, rfl, hok, hgo, hbw⟩ := hrel
    have HG := Lib.hid hgo
    have HO := Lib.hid hok
    have hnum := hok.num hl1
    obtain ⟨m, hm⟩ : ∃ m, m = b1 * b2 := ⟨_, rfl⟩
    have hmi : (b1 : Int) * (b2 : Int) = (m : Int) := by rw [hm]; simp
    have hm64 : m ≤ 64 := by have := hnum.2.2.2; rw [hm]; simp only at this; omega
    have HM := Lib.hid hm
    clear hgo hok hnum hm
    by_cases h8 : p ≤ 8
    · have hd8 : decide ((p : Int) ≤ 8) = true := by simp; omega
      by_cases h2 : 2 * p ≤ l.length
      · have hd2 : decide (2 * (p : Int) ≤ (l.length : Int)) = true := by simp; omega
        have cR := CR.out wr p hbw hp1 h8 h2
        have hone := (rep_is l p hp1).one
        have hKl := (rep_is l p hp1).len (by omega)
        have hbet := HO.out.better hp1 h8 h2
        have hnx : blkGo l (gk - 1) p (b1, b2) = blkGo l (gk - 2) (p + 1) (better l (b1, b2) p) := by
          obtain ⟨f, rfl⟩ : ∃ f, gk = f + 2 := ⟨gk - 2, by omega⟩
          show (if p ≤ 8 ∧ 2 * p ≤ l.length then _ else _) = _
          rw [if_pos ⟨h8, h2⟩]
          rfl
        have hbt : better l (b1, b2) p = if 1 < rep l p ∧ m < p * rep l p then (p, rep l p) else (b1, b2) := by unfold better; rw [HM.out]
        generalize hK : rep l p = K at *
        obtain ⟨q, hq⟩ : ∃ q, q = p * K := ⟨_, rfl⟩
        have hqi : (p : Int) * (K : Int) = (q : Int) := by rw [hq]; simp
        have hq64 : q ≤ 64 := by rw [hq, Nat.mul_comm]; omega
        have hK64 : K ≤ 64 := by
          have : K * 1 ≤ K * p := Nat.mul_le_mul_left _ hp1
          omega
        rw [← hq] at hbt
        have HBT := Lib.hid hbt
        have HBE := Lib.hid hbet
        have HNX := Lib.hid hnx
        clear hbt hbet hnx hq hKl hK
        by_cases hk1 : 1 < K
        · have hdk : decide ((K : Int) > 1) = true := by simp; omega
          have hdk' : decide ((1 : Int) < (K : Int)) = true := by simp; omega
          by_cases hmq : m < q
          · have hdm : decide ((q : Int) > (m : Int)) = true := by simp; omega
            have hdm' : decide ((m : Int) < (q : Int)) = true := by simp; omega
            have e : better l (b1, b2) p = (p, K) := by rw [HBT.out, if_pos ⟨hk1, hmq⟩]
            go_wp2_with (go_at_call 72; refine cR.mono ?_; rintro e w1 ⟨rfl, hb1⟩; have hbx := hbw.trans (hb1.mono hbw.size))
            go_roundg (gk - 1)
            case measure => omega
            case rel => exact ⟨p + 1, (p, K), by omega, by omega, by go_num, rfl, rfl, e ▸ HBE.out, by rw [← e]; have := HNX.out; rw [HG.out] at this; rw [show gk - 1 - 1 = gk - 2 by omega]; exact this.symm, by first | exact Go.below_drewN hbx _ | exact hbx.drew | exact hbx⟩
          · have hdm : decide ((q : Int) > (m : Int)) = false := by simp; omega
            have hdm' : decide ((m : Int) < (q : Int)) = false := by simp; omega
            have e : better l (b1, b2) p = (b1, b2) := by rw [HBT.out, if_neg (by omega)]
            go_wp2_with (go_at_call 72; refine cR.mono ?_; rintro e w1 ⟨rfl, hb1⟩; have hbx := hbw.trans (hb1.mono hbw.size))
            go_roundg (gk - 1)
            case measure => omega
            case rel => exact ⟨p + 1, (b1, b2), by omega, by omega, by go_num, rfl, rfl, e ▸ HBE.out, by rw [← e]; have := HNX.out; rw [HG.out] at this; rw [show gk - 1 - 1 = gk - 2 by omega]; exact this.symm, by first | exact Go.below_drewN hbx _ | exact hbx.drew | exact hbx⟩
        · have hdk : decide ((K : Int) > 1) = false := by simp; omega
          have hdk' : decide ((1 : Int) < (K : Int)) = false := by simp; omega
          have e : better l (b1, b2) p = (b1, b2) := by rw [HBT.out, if_neg (by omega)]
          go_wp2_with (go_at_call 72; refine cR.mono ?_; rintro e w1 ⟨rfl, hb1⟩; have hbx := hbw.trans (hb1.mono hbw.size))
          go_roundg (gk - 1)
          case measure => omega
          case rel => exact ⟨p + 1, (b1, b2), by omega, by omega, by go_num, rfl, rfl, e ▸ HBE.out, by rw [← e]; have := HNX.out; rw [HG.out] at this; rw [show gk - 1 - 1 = gk - 2 by omega]; exact this.symm, by first | exact Go.below_drewN hbx _ | exact hbx.drew | exact hbx⟩
      · have hd2 : decide (2 * (p : Int) ≤ (l.length : Int)) = false := by simp; omega
        have hbb : (b1, b2) = bb := by
          rw [← HG.out]
          obtain ⟨f, rfl⟩ : ∃ f, gk = f + 2 := ⟨gk - 2, by omega⟩
          show _ = (if p ≤ 8 ∧ 2 * p ≤ l.length then _ else _)
          rw [if_neg (by omega)]
        subst hbb
        go_wp2
        go_ret2
        exact ⟨rfl, hbw⟩
    · have hd8 : decide ((p : Int) ≤ 8) = false := by simp; omega
      have hbb : (b1, b2) = bb := by
        rw [← HG.out, show gk - 1 = 0 by omega]
        rfl
      subst hbb
      go_wp2
      go_ret2
      exact ⟨rfl, hbw⟩
end Go.Proofs.YtbldeiejlebbiaaDoor.T
