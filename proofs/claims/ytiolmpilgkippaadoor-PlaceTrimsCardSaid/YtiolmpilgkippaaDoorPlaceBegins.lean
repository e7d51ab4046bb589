/-
  place.beginsWithOne and errataref03.begins: whether a name begins with one of some texts.
-/
import Derived.Test.YtiolmpilgkippaaDoorPlaceCopies
set_option linter.unusedVariables false
namespace Go.Proofs.YtiolmpilgkippaaDoor.T
open Go Go.Lib Go.RowKit

/-- the cells from o on hold these texts -/
def StrAt (w : World) (bk o : Nat) (xs : List ByteArray) : Prop := ∀ (j : Nat) (x : ByteArray), xs[j]? = some x → w.cell? ⟨bk, o + j, none⟩ = some (.string x)
theorem StrAt.below {w w' : World} {B bk o : Nat} {xs : List ByteArray} (h : StrAt w bk o xs) (hb : Below B w w') (hk : bk < B) : StrAt w' bk o xs := fun j x hj => (hb.cell (p := ⟨bk, o + j, none⟩) hk).trans (h j x hj)
def StrSl (B : Nat) (w : World) (v : Value) (xs : List ByteArray) : Prop :=
  ∃ a c, v = .slice a xs.length c ∧ xs.length ≤ c ∧ c ≤ 9223372036854775807 ∧ (xs ≠ [] → ∃ bk o, a = some ⟨bk, o, none⟩ ∧ bk < B ∧ StrAt w bk o xs)
theorem StrSl.below {B B' : Nat} {w w' : World} {v : Value} {l : List ByteArray} (h : StrSl B w v l) (hb : Below B w w') (hB : B ≤ B') : StrSl B' w' v l := by
  obtain ⟨a, c, hv, h1, h2, h3⟩ := h
  refine ⟨a, c, hv, h1, h2, fun hne => ?_⟩
  obtain ⟨bk, o, ha, hk, hc⟩ := h3 hne
  exact ⟨bk, o, ha, by omega, hc.below hb hk⟩
def pre (s p : ByteArray) : Bool := Lib.hasPrefix s.data.toList p.data.toList
def begB (s : ByteArray) (xs : List ByteArray) : Bool := xs.any (pre s)
theorem any_yes {s : ByteArray} {xs : List ByteArray} {k : Nat} {p : ByteArray} (hp : xs[k]? = some p) (h : pre s p = true) : begB s xs = true := by
  unfold begB
  rw [List.any_eq_true]
  exact ⟨p, List.mem_of_getElem? hp, h⟩
theorem any_step {s : ByteArray} {xs : List ByteArray} {k : Nat} {p : ByteArray} (hx : xs[k]? = some p) : begB s (xs.take (k + 1)) = (begB s (xs.take k) || pre s p) := by
  unfold begB
  rw [List.take_add_one, hx]
  simp only [Option.toList, List.any_append, List.any_cons, List.any_nil, Bool.or_false]

set_option maxRecDepth 100000 in
set_option maxHeartbeats 4000000 in
theorem beginsOne_in (s : ByteArray) (xs : List ByteArray) (v : Value) (B : Nat) (w : World) (h : StrSl B w v xs) :
    Calls Tryd.prog 62 #[.string s, v] w fun e w' => e = .returned (.bool (begB s xs)) ∧ w = w' := by
  obtain ⟨a, c, rfl, hc1, hc2, hcells⟩ := h
  generalize hM : begB s xs = M at *
  have HM := Lib.hid hM
  clear hM
  go_enter Tryd.func62, Tryd.ntmps62
  go_wp2
  go_loop [9] (fun i => ∃ (k : Nat), k ≤ xs.length ∧ i = .int .i64 k ∧ begB s (xs.take k) = false) (fun i => xs.length - (RowKit.intOf i).toNat)
  case atStart => exact ⟨0, Nat.zero_le _, rfl, rfl⟩
  case round =>
    obtain ⟨k, hk, rfl, hall⟩ := hrel
    have HA := Lib.hid hall
    clear hall
    by_cases hlt : k < xs.length
    · obtain ⟨bk, o, rfl, hbk, hA⟩ := hcells (by intro e; subst e; simp at hlt)
      have hx : xs[k]? = some xs[k] := List.getElem?_eq_getElem hlt
      have c1 := hA k _ hx
      have htk := any_step (s := s) hx
      clear hA hcells
      generalize xs[k] = x at *
      have HX := Lib.hid hx
      have HT := Lib.hid htk
      clear hx htk
      generalize hL : xs.length = n at *
      have hN : decide ((k : Int) < (n : Int)) = true := by simp; omega
      generalize hb : pre s x = b at *
      have HB := Lib.hid hb
      have hP := fun W => (Tryd.strings_HasPrefix s x W)
      rw [show Lib.hasPrefix s.data.toList x.data.toList = b from hb] at hP
      clear hb
      cases b with
      | true =>
        have : M = true := by rw [← HM.out]; exact any_yes HX.out HB.out
        subst this
        go_wp2_with (go_at_call 89; refine (hP _).mono ?_; rintro e w1 ⟨rfl, rfl⟩)
        go_ret
        exact ⟨rfl, rfl⟩
      | false =>
        go_wp2_with (go_at_call 89; refine (hP _).mono ?_; rintro e w1 ⟨rfl, rfl⟩)
        go_round
        case rel => exact ⟨k + 1, hlt, by go_num, by rw [HT.out, HA.out]; rfl⟩
        case measure => simp [RowKit.intOf]; omega
    · have : k = xs.length := by omega
      subst this
      have : M = false := by rw [← HM.out]; have := HA.out; rwa [List.take_length] at this
      subst this
      go_wp2
      go_ret
      exact ⟨rfl, rfl⟩
end Go.Proofs.YtiolmpilgkippaaDoor.T
