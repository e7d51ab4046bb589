/-
  errataref03.begins; place.Trim and errataref03.Trim.
-/
import Derived.Lib.Strings
import Derived.Test.YtiolmpilgkippaaDoorPlaceBegins
set_option linter.unusedVariables false
namespace Go.Proofs.YtiolmpilgkippaaDoor.T
open Go Go.Lib Go.RowKit

set_option maxRecDepth 100000 in
set_option maxHeartbeats 4000000 in
theorem begins_in (s : ByteArray) (hs : s.size ≤ 140737488351232) (xs : List ByteArray) (v : Value) (B : Nat) (w : World) (h : StrSl B w v xs) :
    Calls Tryd.prog 64 #[.string s, v] w fun e w' => e = .returned (.bool (begB s xs)) ∧ w = w' := by
  obtain ⟨a, c, rfl, hc1, hc2, hcells⟩ := h
  generalize hM : begB s xs = M at *
  have HM := Lib.hid hM
  clear hM
  go_enter Tryd.func64, Tryd.ntmps64
  go_wp2
  go_loop [5] (fun i => ∃ (k : Nat), k ≤ xs.length ∧ i = .int .i64 k ∧ begB s (xs.take k) = false) (fun i => xs.length - (RowKit.intOf i).toNat)
  case atStart => exact ⟨0, Nat.zero_le _, rfl, rfl⟩
  case round =>
    obtain ⟨k, hk, rfl, hall⟩ := hrel
    have HA := Lib.hid hall
    clear hall
    by_cases hlt : k < xs.length
    · obtain ⟨bk, o, rfl, hbk, hA⟩ := hcells (by intro e; subst e; simp at hlt)
      have hx : xs[k]? = some xs[k] := List.getElem?_eq_getElem hlt
      have c1 := hA k _ hx
      have htk := any_step (s := s) hx
      clear hA hcells
      generalize xs[k] = x at *
      have HX := Lib.hid hx
      have HT := Lib.hid htk
      clear hx htk
      generalize hL : xs.length = n at *
      have hN : decide ((k : Int) < (n : Int)) = true := by simp; omega
      have hraw := Lib.hasPrefix_raw s x
      rw [show Lib.hasPrefix s.data.toList x.data.toList = pre s x from rfl] at hraw
      by_cases hle : x.size ≤ s.size
      · have hle2 : decide ((x.size : Int) ≤ (s.size : Int)) = true := by simp; omega
        have hsl : ∀ W : World, (Instr.slice 9 (.string s) none (some (.int .i64 (x.size : Int))) none).run Tryd.prog W = .ok (.string (s.extract 0 x.size)) W := fun W => by
          rw [run_slice_string_to_if (P := Tryd.prog) W 9 s .i64 (x.size : Int) Tryd.underlying9, if_pos (by omega), Int.toNat_natCast]
        rw [decide_eq_true hle, Bool.true_and] at hraw
        generalize hb : pre s x = b at *
        have HB := Lib.hid hb
        clear hb
        generalize s.extract 0 x.size = y at *
        cases b with
        | true =>
          have : M = true := by rw [← HM.out]; exact any_yes HX.out HB.out
          subst this
          go_wp2
          go_ret
          exact ⟨rfl, rfl⟩
        | false =>
          go_wp2
          go_round
          case rel => exact ⟨k + 1, hlt, by go_num, by first | (rw [HT.out, HA.out, HB.out]; rfl) | (rw [HT.out, HA.out]; rfl)⟩
          case measure => simp [RowKit.intOf]; omega
      · have hle2 : decide ((x.size : Int) ≤ (s.size : Int)) = false := by simp; omega
        have hb : pre s x = false := by rw [← hraw, decide_eq_false hle, Bool.false_and]
        have HB := Lib.hid hb
        clear hb hraw
        go_wp2
        go_round
        case rel => exact ⟨k + 1, hlt, by go_num, by first | (rw [HT.out, HA.out, HB.out]; rfl) | (rw [HT.out, HA.out]; rfl)⟩
        case measure => simp [RowKit.intOf]; omega
    · have : k = xs.length := by omega
      subst this
      have : M = false := by rw [← HM.out]; have := HA.out; rwa [List.take_length] at this
      subst this
      go_wp2
      go_ret
      exact ⟨rfl, rfl⟩

/-! ### what is left of a stack -/
def nmAt (l : List Pl) (n : Nat) : ByteArray := ((l[n]?).map (fun p => p.n)).getD ⟨#[]⟩
theorem nmAt_eq {l : List Pl} {n : Nat} {p : Pl} (h : l[n]? = some p) : nmAt l n = p.n := by unfold nmAt; rw [h]; rfl
def trimK (l : List Pl) (xs : List ByteArray) : Nat → Nat
  | 0 => 0
  | n + 1 => if begB (nmAt l n) xs = true then trimK l xs n else n + 1
theorem trimK_le (l : List Pl) (xs : List ByteArray) : ∀ n, trimK l xs n ≤ n
  | 0 => Nat.le_refl _
  | n + 1 => by
    have ih := trimK_le l xs n
    unfold trimK
    split
    · omega
    · omega
def trA (l : List Pl) (xs : List ByteArray) : List Pl := if checkN l = 0 then l.take (trimK l xs l.length) else []
def IsTwo (e : TypeId) (l : List Pl) (c : Nat) (w : World) (en : Ending) (w' : World) : Prop := ∃ v, en = .returned (.tuple #[v, .int .i64 c]) ∧ PRow e w.heap.size w' v l ∧ Below w.heap.size w w'
/-- the first of some places -/
theorem slice_pl (B : Nat) (w : World) (v : Value) (l : List Pl) (h : PlSl B w v l) (k : Nat) (hk : k ≤ l.length) :
    ∃ v', (∀ W : World, (Instr.slice 23 v none (some (.int .i64 (k : Int))) none).run Tryd.prog W = .ok v' W) ∧ PlSl B w v' (l.take k) := by
  obtain ⟨a, c, rfl, h1, h2, h3⟩ := h
  refine ⟨sliced a 0 k c 2, fun W => ?_, ?_⟩
  · rw [run_slice_h (P := Tryd.prog) W 23 a l.length c (by kernel_rfl) .i64 (k : Int) (by omega) (by omega)]
    have hz : (sizeOf (Tryd.prog.elem 23)).run Tryd.prog W = .ok 2 W := by kernel_rfl
    rw [hz]
    simp only [Result.andThen, Int.toNat_natCast]
  · have hlk : (l.take k).length = k := by rw [List.length_take]; omega
    refine ⟨_, c, by unfold sliced; rw [hlk]; rfl, by omega, h2, fun hne => ?_⟩
    have hl0 : l ≠ [] := by intro e; subst e; simp at hne
    obtain ⟨bk, o, rfl, hb, hat⟩ := h3 hl0
    refine ⟨bk, o, ?_, hb, hat.take k⟩
    split <;> simp [Addr.add]
set_option maxRecDepth 100000 in
set_option maxHeartbeats 4000000 in
theorem Trim_in (l : List Pl) (hl : l.length ≤ 5864062014700) (hs : Slim l) (xs : List ByteArray) (v u : Value) (w : World) (h : PlSl w.heap.size w v l) (hu : StrSl w.heap.size w u xs) :
    Calls Tryd.prog 25 #[v, u] w (IsTwo 48 (trA l xs) (checkN l) w) := by
  have hC := Check_in l hs w.heap.size v w h
  generalize hR : trA l xs = R at *
  have HR := Lib.hid hR
  clear hR
  have h0 := h
  obtain ⟨a, c, rfl, hc1, hc2, hcells⟩ := h
  obtain ⟨ua, uc, rfl, _⟩ : ∃ ua uc, u = .slice ua xs.length uc ∧ True := by
    obtain ⟨ua, uc, e, _⟩ := hu
    exact ⟨ua, uc, e, trivial⟩
  generalize hc : checkN l = C at *
  have HC := Lib.hid hc
  clear hc
  go_enter Tryd.func25, Tryd.ntmps25
  by_cases hC0 : C = 0
  · subst hC0
    go_wp2_with (go_at_call 15; refine hC.mono ?_; rintro e w1 ⟨rfl, hb1⟩; have hsz1 := hb1.size)
    go_loop [7] (fun i => ∃ (k : Nat), k ≤ l.length ∧ i = .int .i64 k ∧ trimK l xs l.length = trimK l xs k) (fun i => (RowKit.intOf i).toNat)
    case atStart => exact ⟨l.length, Nat.le_refl _, rfl, rfl⟩
    case round =>
      obtain ⟨k, hk, rfl, hall⟩ := hrel
      have HA := Lib.hid hall
      clear hall
      have hfin : trimK l xs k = k → R = l.take k := fun e => by
        rw [← HR.out]; unfold trA; rw [if_pos HC.out, HA.out, e]
      have HF := Lib.hid hfin
      clear hfin
      obtain ⟨v', hsl, hv'⟩ := slice_pl _ w _ l h0 k hk
      have hCo := copies_in (l.take k) (by rw [List.length_take]; omega) (fun p hp => hs p (List.mem_of_mem_take hp)) v' w1 (hv'.below hb1 hsz1)
      cases k with
      | zero =>
        have hR0 : R = l.take 0 := HF.out rfl
        have hsl0 : ∀ W : World, (Instr.slice 23 (.slice a l.length c) none (some (.int .i64 0)) none).run Tryd.prog W = .ok v' W := hsl
        clear hsl
        rw [← hR0] at hCo
        clear hR0
        go_wp2_with (go_at_call 63; refine hCo.mono ?_; rintro e w2 ⟨v2, rfl, hrow, hb2⟩)
        go_ret2
        exact ⟨v2, rfl, PRow.base hrow hsz1, hb1.trans (hb2.mono hsz1)⟩
      | succ k =>
        obtain ⟨bk, o, rfl, hbk, hat⟩ := hcells (by intro e; subst e; simp at hk)
        have hx : l[k]? = some l[k] := List.getElem?_eq_getElem (by omega)
        have c1 := ((hat.below hb1 hbk) k _ hx).1
        have hsl1 : ∀ W : World, (Instr.slice 23 (.slice (some ⟨bk, o, none⟩) l.length c) none (some (.int .i64 ((k : Int) + 1))) none).run Tryd.prog W = .ok v' W := fun W => by
          have := hsl W
          simpa using this
        clear hsl
        have hnm := nmAt_eq hx
        generalize l[k] = x at *
        have hB := fun W (h : StrSl w1.heap.size W (.slice ua xs.length uc) xs) => beginsOne_in x.n xs (.slice ua xs.length uc) w1.heap.size W h
        have hB1 := hB w1 (hu.below hb1 hsz1)
        clear hB hx hat hcells
        generalize hb : begB x.n xs = b at *
        have hstep : trimK l xs (k + 1) = if b = true then trimK l xs k else k + 1 := by rw [trimK, hnm, hb]
        have HS := Lib.hid hstep
        clear hstep hnm hb
        cases b with
        | true =>
          go_wp2_with (go_at_call 62; refine hB1.mono ?_; rintro e w2 ⟨rfl, rfl⟩)
          go_round
          case rel => exact ⟨k, by omega, by go_num, by rw [HA.out, HS.out]; rfl⟩
          case measure => simp [RowKit.intOf]
        | false =>
          have hR0 : R = l.take (k + 1) := HF.out HS.out
          rw [← hR0] at hCo
          clear hR0
          go_wp2_with (first | (go_at_call 62; refine hB1.mono ?_; rintro e w2 ⟨rfl, rfl⟩) | (go_at_call 63; refine hCo.mono ?_; rintro e w2 ⟨v2, rfl, hrow, hb2⟩))
          go_ret2
          exact ⟨v2, rfl, PRow.base hrow hsz1, hb1.trans (hb2.mono hsz1)⟩
  · have : R = [] := by rw [← HR.out]; unfold trA; rw [HC.out, if_neg hC0]
    subst this
    have hC1 : ((C : Int) != 0) = true := by simp; omega
    go_wp2_with (go_at_call 15; refine hC.mono ?_; rintro e w1 ⟨rfl, hb1⟩; have hsz1 := hb1.size)
    go_ret2
    exact ⟨_, rfl, PRow.nil _ _ _, hb1⟩
end Go.Proofs.YtiolmpilgkippaaDoor.T
