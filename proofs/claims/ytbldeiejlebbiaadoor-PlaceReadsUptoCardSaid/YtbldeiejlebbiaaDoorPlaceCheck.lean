/-
  place.Check and errataref03.Check: what is wrong with a list of places.
-/
import Derived.Test.YtbldeiejlebbiaaDoorPlaceMay
set_option linter.unusedVariables false
namespace Go.Proofs.YtbldeiejlebbiaaDoor.T
open Go Go.Lib Go.RowKit

/-- no name is longer than any machine's -/
def Slim (l : List Pl) : Prop := ∀ p ∈ l, p.n.size ≤ 140737488351232
theorem Slim.at {l : List Pl} (h : Slim l) {k : Nat} {p : Pl} (hp : l[k]? = some p) : p.n.size ≤ 140737488351232 := h p (List.mem_of_getElem? hp)
theorem all_step {l : List Pl} {k : Nat} {p : Pl} (f : Pl → Bool) (hx : l[k]? = some p) : (l.take (k + 1)).all f = ((l.take k).all f && f p) := by
  rw [List.take_add_one, hx]
  simp only [Option.toList, List.all_append, List.all_cons, List.all_nil, Bool.and_true]
def checkN (l : List Pl) : Nat := if l.all mayB then (if l.length > 64 then 31 else 0) else 30
theorem checkN_no {l : List Pl} {k : Nat} {p : Pl} (hp : l[k]? = some p) (h : mayB p = false) : checkN l = 30 := by
  unfold checkN
  rw [if_neg]
  intro ha
  rw [List.all_eq_true] at ha
  have := ha p (List.mem_of_getElem? hp)
  rw [h] at this; cases this

set_option maxRecDepth 100000 in
set_option maxHeartbeats 4000000 in
theorem Check_in (l : List Pl) (hs : Slim l) (B : Nat) (v : Value) (w : World) (h : PlSl B w v l) :
    Calls Tryd.prog 40 #[v] w fun e w' => e = .returned (.int .i64 (checkN l)) ∧ Below w.heap.size w w' := by
  obtain ⟨a, c, rfl, hc1, hc2, hcells⟩ := h
  generalize hM : checkN l = M at *
  have HM := Lib.hid hM
  clear hM
  go_enter Tryd.func40, Tryd.ntmps40
  go_wp2
  go_loopw [7] (fun i wr => ∃ (k : Nat), k ≤ l.length ∧ i = .int .i64 k ∧ (l.take k).all mayB = true ∧ Below w.heap.size w wr)
    (fun i _ => l.length - (intOf i).toNat)
  case atStart => exact ⟨0, Nat.zero_le _, rfl, rfl, Below.refl _ _⟩
  case round =>
    obtain ⟨k, hk, rfl, hall, hbw⟩ := hrel
    have hszr := hbw.size
    have HA := Lib.hid hall
    clear hall
    by_cases hlt : k < l.length
    · obtain ⟨bk, o, rfl, hbk, hA⟩ := hcells (by intro e; subst e; simp at hlt)
      have hx : l[k]? = some l[k] := List.getElem?_eq_getElem hlt
      have kp : ∀ (p : Addr) (u : Value), w.cell? p = some u → wr.cell? p = some u := fun p u hp => (hbw.cell (World.block_lt_of_cell? w p hp)).trans hp
      have c1 := kp _ _ (hA k _ hx).1
      have c2 := kp _ _ (hA k _ hx).2
      have hsl := hs.at hx
      have htk : (l.take (k + 1)).all mayB = ((l.take k).all mayB && mayB l[k]) := all_step mayB hx
      clear hA hcells
      generalize l[k] = x at *
      have HX := Lib.hid hx
      have HT := Lib.hid htk
      clear hx htk
      generalize hL : l.length = n at *
      have hN : decide ((k : Int) < (n : Int)) = true := by simp; omega
      have hbx := hbw.alloc hszr (.cells #[.string x.n, .int .i64 x.k] 39)
      generalize hb : mayB x = b at *
      have HB := Lib.hid hb
      have hMy := fun W => (mayBe_in x (by omega) W)
      rw [hb] at hMy
      clear hb
      cases b with
      | true =>
        go_wp2_with (go_at_call 71; refine (hMy _).mono ?_; rintro e w1 ⟨rfl, hb1⟩; have hb2 := hbx.trans (hb1.mono (by simp; omega)))
        go_roundw
        case rel => exact ⟨k + 1, hlt, by go_num, by rw [HT.out, HA.out]; rfl, hb2⟩
        case measure => simp [intOf]; omega
      | false =>
        have : M = 30 := by rw [← HM.out]; exact checkN_no HX.out HB.out
        subst this
        go_wp2_with (go_at_call 71; refine (hMy _).mono ?_; rintro e w1 ⟨rfl, hb1⟩; have hb2 := hbx.trans (hb1.mono (by simp; omega)))
        go_ret
        exact ⟨rfl, hb2⟩
    · have : k = l.length := by omega
      subst this
      have hall : l.all mayB = true := by have := HA.out; rwa [List.take_length] at this
      by_cases h64 : l.length > 64
      · have : M = 31 := by rw [← HM.out]; unfold checkN; rw [if_pos hall, if_pos h64]
        subst this
        have hN : decide ((l.length : Int) > 64) = true := by simp; omega
        go_wp2
        go_ret
        exact ⟨rfl, hbw⟩
      · have : M = 0 := by rw [← HM.out]; unfold checkN; rw [if_pos hall, if_neg h64]
        subst this
        have hN : decide ((l.length : Int) > 64) = false := by simp; omega
        go_wp2
        go_ret
        exact ⟨rfl, hbw⟩

set_option maxRecDepth 100000 in
set_option maxHeartbeats 4000000 in
theorem refCheck_in (l : List Pl) (hs : Slim l) (B : Nat) (v : Value) (w : World) (h : PlSl B w v l) :
    Calls Tryd.prog 43 #[v] w fun e w' => e = .returned (.int .i64 (checkN l)) ∧ Below w.heap.size w w' := by
  obtain ⟨a, c, rfl, hc1, hc2, hcells⟩ := h
  generalize hM : checkN l = M at *
  have HM := Lib.hid hM
  clear hM
  go_enter Tryd.func43, Tryd.ntmps43
  go_wp2
  go_loopw [3] (fun i wr => ∃ (k : Nat), k ≤ l.length ∧ i = .int .i64 k ∧ (l.take k).all mayB = true ∧ Below w.heap.size w wr)
    (fun i _ => l.length - (intOf i).toNat)
  case atStart => exact ⟨0, Nat.zero_le _, rfl, rfl, Below.refl _ _⟩
  case round =>
    obtain ⟨k, hk, rfl, hall, hbw⟩ := hrel
    have hszr := hbw.size
    have HA := Lib.hid hall
    clear hall
    by_cases hlt : k < l.length
    · obtain ⟨bk, o, rfl, hbk, hA⟩ := hcells (by intro e; subst e; simp at hlt)
      have hx : l[k]? = some l[k] := List.getElem?_eq_getElem hlt
      have kp : ∀ (p : Addr) (u : Value), w.cell? p = some u → wr.cell? p = some u := fun p u hp => (hbw.cell (World.block_lt_of_cell? w p hp)).trans hp
      have c1 := kp _ _ (hA k _ hx).1
      have c2 := kp _ _ (hA k _ hx).2
      have hsl := hs.at hx
      have htk : (l.take (k + 1)).all mayB = ((l.take k).all mayB && mayB l[k]) := all_step mayB hx
      clear hA hcells
      generalize l[k] = x at *
      have HX := Lib.hid hx
      have HT := Lib.hid htk
      clear hx htk
      generalize hL : l.length = n at *
      have hN : decide ((k : Int) < (n : Int)) = true := by simp; omega
      generalize hb : mayB x = b at *
      have HB := Lib.hid hb
      have hMy := fun W => (May_in x (by omega) W)
      rw [hb] at hMy
      clear hb
      cases b with
      | true =>
        go_wp2_with (go_at_call 46; refine (hMy _).mono ?_; rintro e w1 ⟨rfl, hb1⟩; have hb2 := hbw.trans (hb1.mono hszr))
        go_roundw
        case rel => exact ⟨k + 1, hlt, by go_num, by rw [HT.out, HA.out]; rfl, hb2⟩
        case measure => simp [intOf]; omega
      | false =>
        have : M = 30 := by rw [← HM.out]; exact checkN_no HX.out HB.out
        subst this
        go_wp2_with (go_at_call 46; refine (hMy _).mono ?_; rintro e w1 ⟨rfl, hb1⟩; have hb2 := hbw.trans (hb1.mono hszr))
        go_ret
        exact ⟨rfl, hb2⟩
    · have : k = l.length := by omega
      subst this
      have hall : l.all mayB = true := by have := HA.out; rwa [List.take_length] at this
      by_cases h64 : l.length > 64
      · have : M = 31 := by rw [← HM.out]; unfold checkN; rw [if_pos hall, if_pos h64]
        subst this
        have hN : decide ((l.length : Int) > 64) = true := by simp; omega
        go_wp2
        go_ret
        exact ⟨rfl, hbw⟩
      · have : M = 0 := by rw [← HM.out]; unfold checkN; rw [if_pos hall, if_neg h64]
        subst this
        have hN : decide ((l.length : Int) > 64) = false := by simp; omega
        go_wp2
        go_ret
        exact ⟨rfl, hbw⟩
end Go.Proofs.YtbldeiejlebbiaaDoor.T
