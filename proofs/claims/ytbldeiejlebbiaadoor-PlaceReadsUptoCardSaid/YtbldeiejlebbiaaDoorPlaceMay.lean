/-
  (place.Place).mayBe and errataref03.May: may a place be.
-/
import Derived.Test.YtbldeiejlebbiaaDoorPlaceLent
set_option linter.unusedVariables false
namespace Go.Proofs.YtbldeiejlebbiaaDoor.T
open Go Go.Lib Go.RowKit

theorem get_at (t : ByteArray) (i : Nat) (h : i < t.size) : t.get! i = t[i] := getElem!_pos t.data i h
def bt (t : ByteArray) (i : Nat) : Nat := (t.get! i).toNat
theorem bt_lt (t : ByteArray) (i : Nat) : bt t i < 256 := (t.get! i).toNat_lt
theorem bt_get (t : ByteArray) (i : Nat) (h : i < t.size) : bt t i = t[i].toNat := by unfold bt; rw [get_at t i h]
theorem idx_bt (s : ByteArray) (k : Nat) (h : k < s.size) (W : World) : (Instr.index 9 (.string s) (.int .i64 (k : Int))).run Tryd.prog W = .ok (.int .u8 (bt s k : Int)) W := by
  rw [run_index_string _ _ _ _ _ Tryd.underlying9, dif_pos ⟨by omega, by omega⟩, bt_get s _ h]
  simp
/-- a byte that may stand in a name -/
def okB (c : Nat) : Bool := !(decide ((c : Int) < 33) || (decide ((c : Int) > 126) || ((c : Int) == 58)))
def okTo (s : ByteArray) : Nat → Bool
  | 0 => true
  | k + 1 => okTo s k && okB (bt s k)
theorem okTo_all (s : ByteArray) (n : Nat) (h : okTo s n = true) : ∀ k, k < n → okB (bt s k) = true := by
  induction n with
  | zero => intro k hk; omega
  | succ n ih =>
    intro k hk
    simp only [okTo, Bool.and_eq_true] at h
    rcases Nat.lt_or_ge k n with h' | h'
    · exact ih h.1 k h'
    · rw [show k = n from by omega]; exact h.2
theorem okTo_no (s : ByteArray) (n k : Nat) (hk : k < n) (h : okB (bt s k) = false) : okTo s n = false := by
  induction n with
  | zero => omega
  | succ n ih =>
    rcases Nat.lt_or_ge k n with h' | h'
    · simp only [okTo, ih h', Bool.false_and]
    · rw [show n = k from by omega]; simp only [okTo, h, Bool.and_false]
def edgeB (p : Pl) : Bool := decide ((p.n.size : Int) < 1) || (decide ((p.n.size : Int) > 120) || (decide (p.k < 0) || decide (p.k > 1048576)))
def mayB (p : Pl) : Bool := !edgeB p && okTo p.n p.n.size

set_option maxRecDepth 100000 in
set_option maxHeartbeats 4000000 in
theorem mayBe_in (p : Pl) (hp : p.n.size ≤ 9223372036854775806) (w : World) :
    Calls Tryd.prog 71 #[.agg #[.string p.n, .int .i64 p.k]] w fun e w' => e = .returned (.bool (mayB p)) ∧ Below w.heap.size w w' := by
  obtain ⟨s, z⟩ := p
  generalize hM : mayB ⟨s, z⟩ = M at *
  have HM := Lib.hid hM
  clear hM
  simp only at *
  generalize hE : edgeB ⟨s, z⟩ = E at *
  have HE := Lib.hid hE
  have hE' : (decide ((s.size : Int) < 1) || (decide ((s.size : Int) > 120) || (decide (z < 0) || decide (z > 1048576)))) = E := hE
  go_enter Tryd.func71, Tryd.ntmps71
  cases E with
  | true =>
    have hm : M = false := by rw [← HM.out]; simp [mayB, HE.out]
    subst hm
    clear hE
    by_cases a1 : (s.size : Int) < 1
    · go_wp2
      go_ret
      exact ⟨rfl, (Below.refl _ w).alloc (Nat.le_refl _) _⟩
    · by_cases a2 : (s.size : Int) > 120
      · go_wp2
        go_ret
        exact ⟨rfl, (Below.refl _ w).alloc (Nat.le_refl _) _⟩
      · by_cases a3 : z < 0
        · go_wp2
          go_ret
          exact ⟨rfl, (Below.refl _ w).alloc (Nat.le_refl _) _⟩
        · have a4 : z > 1048576 := by simpa [a1, a2, a3] using hE'
          go_wp2
          go_ret
          exact ⟨rfl, (Below.refl _ w).alloc (Nat.le_refl _) _⟩
  | false =>
    simp only [Bool.or_eq_false_iff] at hE'
    obtain ⟨a1, a2, a3, a4⟩ := hE'
    have hm : okTo s s.size = M := by rw [← HM.out]; simp [mayB, HE.out]
    have Hm := Lib.hid hm
    clear hE hm
    go_wp2
    go_loop [28] (fun i => ∃ (k : Nat), k ≤ s.size ∧ i = .int .i64 k ∧ okTo s k = true) (fun i => s.size - (intOf i).toNat)
    case atStart => exact ⟨0, Nat.zero_le _, rfl, rfl⟩
    case round =>
      obtain ⟨k, hk, rfl, hok⟩ := hrel
      have Hok := Lib.hid hok
      clear hok
      by_cases hlt : k < s.size
      · have ix := fun W : World => idx_bt s k hlt W
        have hN : decide ((k : Int) < (s.size : Int)) = true := by simp; omega
        have hc := bt_lt s k
        obtain ⟨c, hcc⟩ : ∃ c, c = bt s k := ⟨_, rfl⟩
        rw [← hcc] at ix hc
        have HC := Lib.hid hcc
        clear hcc
        generalize hb : okB c = b at *
        have HB := Lib.hid hb
        have hb' : (!(decide ((c : Int) < 33) || (decide ((c : Int) > 126) || ((c : Int) == 58)))) = b := hb
        clear hb
        cases b with
        | true =>
          simp only [Bool.not_eq_true', Bool.or_eq_false_iff] at hb'
          obtain ⟨b1, b2, b3⟩ := hb'
          go_wp2
          go_round
          case rel => exact ⟨k + 1, hlt, by go_num, by rw [okTo, Hok.out, ← HC.out, HB.out]; rfl⟩
          case measure => simp [intOf]; omega
        | false =>
          have hm : M = false := by rw [← Hm.out]; exact okTo_no s _ k hlt (by rw [← HC.out]; exact HB.out)
          subst hm
          by_cases b1 : (c : Int) < 33
          · go_wp2
            go_ret
            exact ⟨rfl, (Below.refl _ w).alloc (Nat.le_refl _) _⟩
          · by_cases b2 : (c : Int) > 126
            · go_wp2
              go_ret
              exact ⟨rfl, (Below.refl _ w).alloc (Nat.le_refl _) _⟩
            · have b3 : ((c : Int) == 58) = true := by simpa [b1, b2] using hb'
              go_wp2
              go_ret
              exact ⟨rfl, (Below.refl _ w).alloc (Nat.le_refl _) _⟩
      · have : k = s.size := by omega
        subst this
        have hm : M = true := by rw [← Hm.out]; exact Hok.out
        subst hm
        go_wp2
        go_ret
        exact ⟨rfl, (Below.refl _ w).alloc (Nat.le_refl _) _⟩
set_option maxRecDepth 100000 in
set_option maxHeartbeats 4000000 in
theorem May_in (p : Pl) (hp : p.n.size ≤ 9223372036854775806) (w : World) :
    Calls Tryd.prog 46 #[.agg #[.string p.n, .int .i64 p.k]] w fun e w' => e = .returned (.bool (mayB p)) ∧ Below w.heap.size w w' := by
  obtain ⟨s, z⟩ := p
  generalize hM : mayB ⟨s, z⟩ = M at *
  have HM := Lib.hid hM
  clear hM
  simp only at *
  generalize hE : edgeB ⟨s, z⟩ = E at *
  have HE := Lib.hid hE
  have hE' : (decide ((s.size : Int) < 1) || (decide ((s.size : Int) > 120) || (decide (z < 0) || decide (z > 1048576)))) = E := hE
  go_enter Tryd.func46, Tryd.ntmps46
  cases E with
  | true =>
    have hm : M = false := by rw [← HM.out]; simp [mayB, HE.out]
    subst hm
    clear hE
    by_cases a1 : (s.size : Int) < 1
    · go_wp2
      go_ret
      exact ⟨rfl, (Below.refl _ w).alloc (Nat.le_refl _) _⟩
    · by_cases a2 : (s.size : Int) > 120
      · go_wp2
        go_ret
        exact ⟨rfl, (Below.refl _ w).alloc (Nat.le_refl _) _⟩
      · by_cases a3 : z < 0
        · go_wp2
          go_ret
          exact ⟨rfl, (Below.refl _ w).alloc (Nat.le_refl _) _⟩
        · have a4 : z > 1048576 := by simpa [a1, a2, a3] using hE'
          go_wp2
          go_ret
          exact ⟨rfl, (Below.refl _ w).alloc (Nat.le_refl _) _⟩
  | false =>
    simp only [Bool.or_eq_false_iff] at hE'
    obtain ⟨a1, a2, a3, a4⟩ := hE'
    have hm : okTo s s.size = M := by rw [← HM.out]; simp [mayB, HE.out]
    have Hm := Lib.hid hm
    clear hE hm
    go_wp2
    go_loop [3] (fun i => ∃ (k : Nat), k ≤ s.size ∧ i = .int .i64 k ∧ okTo s k = true) (fun i => s.size - (intOf i).toNat)
    case atStart => exact ⟨0, Nat.zero_le _, rfl, rfl⟩
    case round =>
      obtain ⟨k, hk, rfl, hok⟩ := hrel
      have Hok := Lib.hid hok
      clear hok
      by_cases hlt : k < s.size
      · have ix := fun W : World => idx_bt s k hlt W
        have hN : decide ((k : Int) < (s.size : Int)) = true := by simp; omega
        have hc := bt_lt s k
        obtain ⟨c, hcc⟩ : ∃ c, c = bt s k := ⟨_, rfl⟩
        rw [← hcc] at ix hc
        have HC := Lib.hid hcc
        clear hcc
        generalize hb : okB c = b at *
        have HB := Lib.hid hb
        have hb' : (!(decide ((c : Int) < 33) || (decide ((c : Int) > 126) || ((c : Int) == 58)))) = b := hb
        clear hb
        cases b with
        | true =>
          simp only [Bool.not_eq_true', Bool.or_eq_false_iff] at hb'
          obtain ⟨b1, b2, b3⟩ := hb'
          go_wp2
          go_round
          case rel => exact ⟨k + 1, hlt, by go_num, by rw [okTo, Hok.out, ← HC.out, HB.out]; rfl⟩
          case measure => simp [intOf]; omega
        | false =>
          have hm : M = false := by rw [← Hm.out]; exact okTo_no s _ k hlt (by rw [← HC.out]; exact HB.out)
          subst hm
          by_cases b1 : (c : Int) < 33
          · go_wp2
            go_ret
            exact ⟨rfl, (Below.refl _ w).alloc (Nat.le_refl _) _⟩
          · by_cases b2 : (c : Int) > 126
            · go_wp2
              go_ret
              exact ⟨rfl, (Below.refl _ w).alloc (Nat.le_refl _) _⟩
            · have b3 : ((c : Int) == 58) = true := by simpa [b1, b2] using hb'
              go_wp2
              go_ret
              exact ⟨rfl, (Below.refl _ w).alloc (Nat.le_refl _) _⟩
      · have : k = s.size := by omega
        subst this
        have hm : M = true := by rw [← Hm.out]; exact Hok.out
        subst hm
        go_wp2
        go_ret
        exact ⟨rfl, (Below.refl _ w).alloc (Nat.le_refl _) _⟩
end Go.Proofs.YtbldeiejlebbiaaDoor.T
