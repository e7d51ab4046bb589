/-
  place.Common and errataref03.Common; errataref03.digits.
-/
import Derived.Test.YtiolmpilgkippaaDoorPlaceRefP
set_option linter.unusedVariables false
namespace Go.Proofs.YtiolmpilgkippaaDoor.T
open Go Go.Lib Go.RowKit

def eqP (p q : Pl) : Bool := (p.n.toList == q.n.toList) && (p.k == q.k)
def com : List Pl → List Pl → Nat
  | p :: a, q :: b => if eqP p q then com a b + 1 else 0
  | _, _ => 0
theorem com_nil (a : List Pl) : com a [] = 0 := by cases a <;> rfl
theorem com_step {a b : List Pl} {k : Nat} {x y : Pl} (ha : a[k]? = some x) (hb : b[k]? = some y) : com (a.drop k) (b.drop k) = if eqP x y then com (a.drop (k + 1)) (b.drop (k + 1)) + 1 else 0 := by
  obtain ⟨h1, e1⟩ := List.getElem?_eq_some_iff.1 ha
  obtain ⟨h2, e2⟩ := List.getElem?_eq_some_iff.1 hb
  rw [List.drop_eq_getElem_cons h1, List.drop_eq_getElem_cons h2, e1, e2]
  rfl

set_option maxRecDepth 100000 in
set_option maxHeartbeats 8000000 in
theorem Common_in (l m : List Pl) (B : Nat) (u v : Value) (w : World) (hu : PlSl B w u l) (hv : PlSl B w v m) :
    Calls Tryd.prog 17 #[u, v] w fun e w' => e = .returned (.int .i64 (com l m : Nat)) ∧ Below w.heap.size w w' := by
  obtain ⟨pa, ca, rfl, ha1, ha2, ha3⟩ := hu
  obtain ⟨pb, cb, rfl, hb1, hb2, hb3⟩ := hv
  generalize hC : com l m = C at *
  have HC := Lib.hid hC
  clear hC
  go_enter Tryd.func17, Tryd.ntmps17
  go_wp2
  go_loopw [5] (fun i wr => ∃ (k : Nat), k ≤ l.length ∧ k ≤ m.length ∧ i = .int .i64 k ∧ com (l.drop k) (m.drop k) + k = C ∧ Below w.heap.size w wr)
    (fun i _ => l.length - (RowKit.intOf i).toNat)
  case atStart => exact ⟨0, Nat.zero_le _, Nat.zero_le _, rfl, HC.out, Below.refl _ _⟩
  case round =>
    obtain ⟨k, hk, hk2, rfl, hcom, hbw⟩ := hrel
    have HCm := Lib.hid hcom
    clear hcom
    by_cases hlt : k < l.length
    · by_cases hlt2 : k < m.length
      · obtain ⟨bk, o, rfl, _, hA⟩ := ha3 (by intro e; subst e; simp at hlt)
        obtain ⟨bk2, o2, rfl, _, hB⟩ := hb3 (by intro e; subst e; simp at hlt2)
        have hx : l[k]? = some l[k] := List.getElem?_eq_getElem hlt
        have hy : m[k]? = some m[k] := List.getElem?_eq_getElem hlt2
        have kp : ∀ (p : Addr) (u : Value), w.cell? p = some u → wr.cell? p = some u := fun p u hp => (hbw.cell (World.block_lt_of_cell? w p hp)).trans hp
        have c1 := kp _ _ (hA k _ hx).1
        have c2 := kp _ _ (hA k _ hx).2
        have c3 := kp _ _ (hB k _ hy).1
        have c4 := kp _ _ (hB k _ hy).2
        have hst := com_step hx hy
        clear hA hB ha3 hb3 kp
        generalize l[k] = x at *
        generalize m[k] = y at *
        have HS := Lib.hid hst
        clear hx hy hst
        have hN : decide ((k : Int) < (l.length : Int)) = true := by simp; omega
        have hN2 : decide ((k : Int) < (m.length : Int)) = true := by simp; omega
        generalize ht1 : (x.n.toList == y.n.toList) = b1 at *
        generalize ht2 : (x.k == y.k) = b2 at *
        have he : eqP x y = (b1 && b2) := by unfold eqP; rw [ht1, ht2]
        have HE := Lib.hid he
        clear he
        cases b1 with
        | false =>
          have hfin : C = k := by have := HCm.out; rw [HS.out, HE.out] at this; simpa using this.symm
          subst hfin
          go_wp2
          go_quiet (fail)
          go_wp2
          go_ret
          exact ⟨rfl, by first | exact Go.below_drewN hbw _ | exact hbw.drew | exact hbw⟩
        | true =>
          cases b2 with
          | false =>
            have hfin : C = k := by have := HCm.out; rw [HS.out, HE.out] at this; simpa using this.symm
            subst hfin
            go_wp2
            go_quiet (fail)
            go_wp2
            go_ret
            exact ⟨rfl, by first | exact Go.below_drewN hbw _ | exact hbw.drew | exact hbw⟩
          | true =>
            have hnx : com (l.drop (k + 1)) (m.drop (k + 1)) + (k + 1) = C := by have := HCm.out; rw [HS.out, HE.out] at this; simp at this; omega
            go_wp2
            go_quiet (fail)
            go_wp2
            go_roundw
            case rel => exact ⟨k + 1, hlt, hlt2, by go_num, hnx, by first | exact Go.below_drewN hbw _ | exact hbw.drew | exact hbw⟩
            case measure => simp [RowKit.intOf]; omega
      · have hfin : C = k := by
          have := HCm.out
          rw [List.drop_of_length_le (l := m) (by omega), com_nil] at this
          omega
        subst hfin
        have hN : decide ((C : Int) < (l.length : Int)) = true := by simp; omega
        have hN2 : decide ((C : Int) < (m.length : Int)) = false := by simp; omega
        go_wp2
        go_quiet (fail)
        go_wp2
        go_ret
        exact ⟨rfl, by first | exact Go.below_drewN hbw _ | exact hbw.drew | exact hbw⟩
    · have hfin : C = k := by
        have := HCm.out
        rw [List.drop_of_length_le (l := l) (by omega)] at this
        simp [com] at this
        omega
      subst hfin
      have hN : decide ((C : Int) < (l.length : Int)) = false := by simp; omega
      go_wp2
      go_quiet (fail)
      go_wp2
      go_ret
      exact ⟨rfl, by first | exact Go.below_drewN hbw _ | exact hbw.drew | exact hbw⟩
set_option maxRecDepth 100000 in
set_option maxHeartbeats 8000000 in
theorem refCommon_in (l m : List Pl) (B : Nat) (u v : Value) (w : World) (hu : PlSl B w u l) (hv : PlSl B w v m) :
    Calls Tryd.prog 18 #[u, v] w fun e w' => e = .returned (.int .i64 (com l m : Nat)) ∧ Below w.heap.size w w' := by
  obtain ⟨pa, ca, rfl, ha1, ha2, ha3⟩ := hu
  obtain ⟨pb, cb, rfl, hb1, hb2, hb3⟩ := hv
  generalize hC : com l m = C at *
  have HC := Lib.hid hC
  clear hC
  go_enter Tryd.func18, Tryd.ntmps18
  go_wp2
  go_loopw [5] (fun i wr => ∃ (k : Nat), k ≤ l.length ∧ k ≤ m.length ∧ i = .int .i64 k ∧ com (l.drop k) (m.drop k) + k = C ∧ Below w.heap.size w wr)
    (fun i _ => l.length - (RowKit.intOf i).toNat)
  case atStart => exact ⟨0, Nat.zero_le _, Nat.zero_le _, rfl, HC.out, Below.refl _ _⟩
  case round =>
    obtain ⟨k, hk, hk2, rfl, hcom, hbw⟩ := hrel
    have HCm := Lib.hid hcom
    clear hcom
    by_cases hlt : k < l.length
    · by_cases hlt2 : k < m.length
      · obtain ⟨bk, o, rfl, _, hA⟩ := ha3 (by intro e; subst e; simp at hlt)
        obtain ⟨bk2, o2, rfl, _, hB⟩ := hb3 (by intro e; subst e; simp at hlt2)
        have hx : l[k]? = some l[k] := List.getElem?_eq_getElem hlt
        have hy : m[k]? = some m[k] := List.getElem?_eq_getElem hlt2
        have kp : ∀ (p : Addr) (u : Value), w.cell? p = some u → wr.cell? p = some u := fun p u hp => (hbw.cell (World.block_lt_of_cell? w p hp)).trans hp
        have c1 := kp _ _ (hA k _ hx).1
        have c2 := kp _ _ (hA k _ hx).2
        have c3 := kp _ _ (hB k _ hy).1
        have c4 := kp _ _ (hB k _ hy).2
        have hst := com_step hx hy
        clear hA hB ha3 hb3 kp
        generalize l[k] = x at *
        generalize m[k] = y at *
        have HS := Lib.hid hst
        clear hx hy hst
        have hN : decide ((k : Int) < (l.length : Int)) = true := by simp; omega
        have hN2 : decide ((k : Int) < (m.length : Int)) = true := by simp; omega
        generalize ht1 : (x.n.toList == y.n.toList) = b1 at *
        generalize ht2 : (x.k == y.k) = b2 at *
        have he : eqP x y = (b1 && b2) := by unfold eqP; rw [ht1, ht2]
        have HE := Lib.hid he
        clear he
        cases b1 with
        | false =>
          have hfin : C = k := by have := HCm.out; rw [HS.out, HE.out] at this; simpa using this.symm
          subst hfin
          go_wp2
          go_quiet (fail)
          go_wp2
          go_ret
          exact ⟨rfl, by first | exact Go.below_drewN hbw _ | exact hbw.drew | exact hbw⟩
        | true =>
          cases b2 with
          | false =>
            have hfin : C = k := by have := HCm.out; rw [HS.out, HE.out] at this; simpa using this.symm
            subst hfin
            go_wp2
            go_quiet (fail)
            go_wp2
            go_ret
            exact ⟨rfl, by first | exact Go.below_drewN hbw _ | exact hbw.drew | exact hbw⟩
          | true =>
            have hnx : com (l.drop (k + 1)) (m.drop (k + 1)) + (k + 1) = C := by have := HCm.out; rw [HS.out, HE.out] at this; simp at this; omega
            go_wp2
            go_quiet (fail)
            go_wp2
            go_roundw
            case rel => exact ⟨k + 1, hlt, hlt2, by go_num, hnx, by first | exact Go.below_drewN hbw _ | exact hbw.drew | exact hbw⟩
            case measure => simp [RowKit.intOf]; omega
      · have hfin : C = k := by
          have := HCm.out
          rw [List.drop_of_length_le (l := m) (by omega), com_nil] at this
          omega
        subst hfin
        have hN : decide ((C : Int) < (l.length : Int)) = true := by simp; omega
        have hN2 : decide ((C : Int) < (m.length : Int)) = false := by simp; omega
        go_wp2
        go_quiet (fail)
        go_wp2
        go_ret
        exact ⟨rfl, by first | exact Go.below_drewN hbw _ | exact hbw.drew | exact hbw⟩
    · have hfin : C = k := by
        have := HCm.out
        rw [List.drop_of_length_le (l := l) (by omega)] at this
        simp [com] at this
        omega
      subst hfin
      have hN : decide ((C : Int) < (l.length : Int)) = false := by simp; omega
      go_wp2
      go_quiet (fail)
      go_wp2
      go_ret
      exact ⟨rfl, by first | exact Go.below_drewN hbw _ | exact hbw.drew | exact hbw⟩

/-! ### digits -/
theorem dec_step {m : Nat} (h : 10 ≤ m) : decDigits m = decDigits (m / 10) ++ [UInt8.ofNat (48 + m % 10)] := by
  rw [decDigits, dif_neg (by omega)]
theorem dec_small {m : Nat} (h : m < 10) : decDigits m = [UInt8.ofNat (48 + m)] := by
  rw [decDigits, dif_pos h]
/-- where the digits of D stand that are still to come -/
def DigAt (D : List UInt8) (m : Nat) (t : List UInt8) : Prop := (0 < m → decDigits m ++ t = D) ∧ (m = 0 → (t = [] ∧ D = [48]) ∨ (t ≠ [] ∧ t = D)) ∧ t.length ≤ 30
theorem DigAt.step {D : List UInt8} {m : Nat} {t : List UInt8} (h : DigAt D m t) (hm : 0 < m ∨ t = []) (hD : D.length ≤ 25) : DigAt D (m / 10) (UInt8.ofNat (48 + m % 10) :: t) := by
  obtain ⟨h1, h2, h3⟩ := h
  have key : (0 < m / 10 → decDigits (m / 10) ++ (UInt8.ofNat (48 + m % 10) :: t) = D) ∧ (m / 10 = 0 → (UInt8.ofNat (48 + m % 10) :: t) = D) := by
    rcases Nat.eq_zero_or_pos m with h0 | h0
    · subst h0
      refine ⟨fun h => by omega, fun _ => ?_⟩
      rcases h2 rfl with ⟨rfl, rfl⟩ | ⟨hne, _⟩
      · rfl
      · rcases hm with hm | hm
        · omega
        · exact absurd hm hne
    · have hD1 := h1 h0
      rcases Nat.lt_or_ge m 10 with h10 | h10
      · rw [dec_small h10] at hD1
        refine ⟨fun h => by omega, fun _ => ?_⟩
        rw [Nat.mod_eq_of_lt h10]; exact hD1
      · rw [dec_step h10] at hD1
        refine ⟨fun _ => ?_, fun h => by omega⟩
        rw [← hD1]; simp
  refine ⟨key.1, fun h => .inr ⟨by simp, key.2 h⟩, ?_⟩
  have hl : t.length < D.length := by
    rcases Nat.eq_zero_or_pos (m / 10) with h | h
    · have := congrArg List.length (key.2 h)
      simp at this; omega
    · have := congrArg List.length (key.1 h)
      rw [List.length_append] at this
      simp at this; omega
  simp; omega
set_option maxRecDepth 100000 in
set_option maxHeartbeats 8000000 in
theorem digits_in (n : Nat) (hn : n ≤ 9223372036854775807) (w : World) :
    Calls Tryd.prog 54 #[.int .i64 n] w fun e w' => e = .returned (.string ⟨(decDigits n).toArray⟩) ∧ Below w.heap.size w w' := by
  have hDl : (decDigits n).length ≤ 25 := by
    have h := Lib.itoa_length_le (n : Int) (by omega) (by omega)
    rw [itoa_nat (by omega), Int.toNat_natCast] at h
    omega
  generalize hD : decDigits n = D at *
  have h0 : DigAt D n [] := ⟨fun _ => by rw [List.append_nil]; exact hD, fun h => .inl ⟨rfl, by rw [← hD, h, dec_small (by omega)]; rfl⟩, by simp⟩
  clear hD
  go_enter Tryd.func54, Tryd.ntmps54
  go_wp2
  go_loopw [0, 3] (fun u v wr => ∃ (m : Nat) (t : ByteArray), u = .int .i64 m ∧ v = .string t ∧ m ≤ n ∧ DigAt D m t.data.toList ∧ Below w.heap.size w wr)
    (fun u v _ => 2 * (RowKit.intOf u).toNat + (match v with | .string t => if t.size = 0 then 1 else 0 | _ => 0))
  case atStart => exact ⟨n, ⟨#[]⟩, rfl, rfl, Nat.le_refl _, h0, Below.refl _ _⟩
  case round =>
    obtain ⟨m, t, rfl, rfl, hm, hdg, hbw⟩ := hrel
    have hszr := hbw.size
    have htl := hdg.2.2
    have hts : t.data.toList.length = t.size := rfl
    have HD := Lib.hid hdg
    clear hdg
    by_cases hgo : 0 < m ∨ t.data.toList = []
    · have hst := HD.out.step hgo hDl
      have HS := Lib.hid hst
      clear hst
      have hcond : decide ((m : Int) > 0) = true ∨ (decide ((m : Int) > 0) = false ∧ t.toList = []) := by
        rcases Nat.eq_zero_or_pos m with h | h
        · rcases hgo with h' | h'
          · omega
          · right; exact ⟨by simp; omega, by rw [ByteArray.toList_eq, h']⟩
        · left; simp; omega
      have hcat : ¬ 9223372036854775807 < 1 + t.size := by omega
      have hconv : (convert 99 9 (.slice (some ⟨wr.heap.size, 0, none⟩) 1 1)).run Tryd.prog (wr.alloc (.cells #[.int .u8 (48 + (m : Int) % 10)] 5)) = .ok (.string ⟨#[UInt8.ofNat (48 + m % 10)]⟩) (wr.alloc (.cells #[.int .u8 (48 + (m : Int) % 10)] 5)) := by
        refine run_convert_bytes_back _ 99 9 5 ⟨wr.heap.size, 0, none⟩ 1 [UInt8.ofNat (48 + m % 10)] Tryd.underlying99 Tryd.underlying5 Tryd.underlying9 (fun j hj => ?_)
        have : j = 0 := by simpa using hj
        subst this
        have h1 := dig_nat (m % 10) (by omega)
        simp only [List.getElem_cons_zero, h1]
        simp [Addr.add]
      have hb2 := hbw.alloc hszr (.cells #[.int .u8 (48 + (m : Int) % 10)] 5)
      have hnew : (⟨#[UInt8.ofNat (48 + m % 10)]⟩ ++ t : ByteArray).data.toList = UInt8.ofNat (48 + m % 10) :: t.data.toList := by simp
      have hsz0 : (⟨#[UInt8.ofNat (48 + m % 10)]⟩ ++ t : ByteArray).size ≠ 0 := by
        intro e
        have h1 : (⟨#[UInt8.ofNat (48 + m % 10)]⟩ ++ t : ByteArray).data.toList.length = 0 := e
        rw [hnew] at h1; simp at h1
      have hnew' : (⟨#[48 + UInt8.ofNat (m % 10)]⟩ : ByteArray) = ⟨#[UInt8.ofNat (48 + m % 10)]⟩ := by
        have : (48 : UInt8) + UInt8.ofNat (m % 10) = UInt8.ofNat (48 + m % 10) := by simp
        rw [this]
      have q1 : (m : Int).tdiv 10 = (m : Int) / 10 := Int.tdiv_eq_ediv_of_nonneg (by omega)
      have q2 : IntKind.i64.wrap ((m : Int) / 10) = (m : Int) / 10 := IntWalk.i64_in _ (by omega)
      rcases hcond with hc | ⟨hc, hc2⟩
      · have hmp : 0 < m := by simpa using hc
        go_wp2
        go_roundw
        case rel => exact ⟨m / 10, _, by first | go_num | (congr 1; omega), rfl, by omega, by first | (rw [hnew]; exact HS.out) | (rw [hnew', hnew]; exact HS.out), hb2⟩
        case measure =>
          simp only [RowKit.intOf]
          first | rw [if_neg hsz0] | rw [hnew', if_neg hsz0]
          omega
      · have : m = 0 := by simpa using hc
        subst this
        have hconv0 : (convert 99 9 (.slice (some ⟨wr.heap.size, 0, none⟩) 1 1)).run Tryd.prog (wr.alloc (.cells #[.int .u8 48] 5)) = .ok (.string ⟨#[UInt8.ofNat (48 + 0 % 10)]⟩) (wr.alloc (.cells #[.int .u8 48] 5)) := by simpa using hconv
        have hb3 := hbw.alloc hszr (.cells #[.int .u8 48] 5)
        clear hconv
        go_wp2
        all_goals first
          | (exfalso; have hx : t.toList.isEmpty = false := by assumption
             rw [hc2] at hx; cases hx)
          | skip
        go_roundw
        case rel =>
          refine ⟨0, _, by first | go_num | (congr 1; omega), rfl, by omega, ?_, hb3⟩
          have e : (⟨#[48]⟩ ++ t : ByteArray).data.toList = 48 :: t.data.toList := by simp
          rw [e]
          exact HS.out
        case measure =>
          have hz : t.size = 0 := by rw [← hts, ← ByteArray.toList_eq, hc2]; rfl
          have hz2 : (⟨#[48]⟩ ++ t : ByteArray).size ≠ 0 := by
            intro e
            have h1 : (⟨#[48]⟩ ++ t : ByteArray).data.toList.length = 0 := e
            simp at h1
          simp only [RowKit.intOf, hz]
          rw [if_neg hz2]
          simp
    · have hm0 : m = 0 := by omega
      have htn : t.data.toList ≠ [] := fun e => hgo (.inr e)
      subst hm0
      rcases HD.out.2.1 rfl with ⟨h, _⟩ | ⟨_, hR⟩
      · exact absurd h htn
      · have hc : decide (((0 : Nat) : Int) > 0) = false := by decide
        obtain ⟨c1, r1, hc2⟩ : ∃ c1 r1, t.toList = c1 :: r1 := by
          rw [ByteArray.toList_eq]
          cases h : t.data.toList with
          | nil => exact absurd h htn
          | cons a l => exact ⟨a, l, rfl⟩
        go_wp2
        all_goals first
          | (exfalso; have hx : t.toList.isEmpty = true := by assumption
             rw [hc2] at hx; cases hx)
          | (have e : (⟨D.toArray⟩ : ByteArray) = t := ba_ext (by rw [← hR])
             rw [e]
             go_ret; exact ⟨rfl, hbw⟩)
end Go.Proofs.YtiolmpilgkippaaDoor.T
