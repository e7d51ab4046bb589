/-
  cases.Check.
-/
import Derived.Test.YtefmffofboddgaaGreatCasesChk
set_option linter.unusedVariables false
namespace Go.Proofs.YtefmffofboddgaaGreat.T
open Go Go.Lib Go.RowKit

/-- what is wrong with clauses, and with which -/
def goF (i : Nat) (seen : List Tm) (hd : Bool) : List Cl → Nat × Int
  | [] => (0, 0)
  | x :: r => if chkF seen hd x = 0 then goF (i + 1) ((addT seen x.t).getD []) (hd || x.d) r else (i, chkF seen hd x)
def checkF (l : List Cl) : Nat × Int := if manyB l then (0, 1) else goF 0 [] false l
theorem drop_at {l : List Cl} {k : Nat} {x : Cl} (h : l[k]? = some x) : l.drop k = x :: l.drop (k + 1) := by
  obtain ⟨h1, h2⟩ := List.getElem?_eq_some_iff.1 h
  rw [List.drop_eq_getElem_cons h1, h2]
set_option maxRecDepth 100000 in
set_option maxHeartbeats 4000000 in
theorem Check_in (l : List Cl) (hl : l.length ≤ 1000000) (hts : ∀ x ∈ l, x.t.length ≤ 1000000) (v : Value) (w : World) (h : ClSl w.heap.size w v l) :
    Calls Tryz.prog 8 #[v] w fun e w' => e = .returned (.tuple #[.int .i64 (checkF l).1, .int .i64 (checkF l).2]) ∧ Below w.heap.size w w' := by
  have hT := tooMany_in l hl hts v w h
  obtain ⟨a, c, rfl, hc1, hc2, hcells⟩ := h
  cases hM : manyB l with
  | true =>
    have hF : checkF l = (0, 1) := by unfold checkF; rw [hM]; rfl
    rw [hF]
    rw [hM] at hT
    go_enter Tryz.func8, Tryz.ntmps8
    go_wp2_with (go_at_call 14; refine hT.mono ?_; rintro e w1 ⟨rfl, hb1⟩)
    go_ret2
    exact ⟨rfl, hb1⟩
  | false =>
    have hF : checkF l = goF 0 [] false l := by unfold checkF; rw [hM]; rfl
    have h64 : l.length ≤ 64 := by
      unfold manyB at hM
      simp at hM
      omega
    rw [hF]
    rw [hM] at hT
    go_enter Tryz.func8, Tryz.ntmps8
    go_wp2_with (go_at_call 14; refine hT.mono ?_; rintro e w1 ⟨rfl, hb1⟩)
    have hsz1 := hb1.size
    obtain ⟨p0, p1⟩ := read_new2 w1 (.slice none 0 0) (.bool false) 61
    have hz : ∀ j, (w1.alloc (.cells #[.slice none 0 0, .bool false] 61)).frozen? ⟨w1.heap.size, j, none⟩ = false := fun j => World.frozen?_alloc_at _ _ _ _ rfl
    have hC : ChkAt (w1.alloc (.cells #[.slice none 0 0, .bool false] 61)) w1.heap.size [] false := ⟨_, p0, p1, TRow.nil _ _ _, hz⟩
    have hbA : Below w1.heap.size w1 (w1.alloc (.cells #[.slice none 0 0, .bool false] 61)) := (Below.refl _ _).alloc (Nat.le_refl _) _
    have hsA : w1.heap.size < (w1.alloc (.cells #[.slice none 0 0, .bool false] 61)).heap.size := by simp
    generalize w1.alloc (.cells #[.slice none 0 0, .bool false] 61) = wA at *
    go_loopw [12] (fun i wr => ∃ (k : Nat) (seen : List Tm) (hd : Bool), k ≤ l.length ∧ i = .int .i64 k ∧ goF 0 [] false l = goF k seen hd (l.drop k) ∧ seen.length ≤ k * 1000000 ∧ ChkAt wr w1.heap.size seen hd ∧ Below w1.heap.size w1 wr ∧ w1.heap.size < wr.heap.size)
      (fun i _ => l.length - (intOf i).toNat)
    case atStart => exact ⟨0, [], false, Nat.zero_le _, rfl, rfl, by simp, hC, hbA, hsA⟩
    case round =>
      obtain ⟨k, seen, hd, hk, rfl, hgo, hse, hchk, hbr, hsr⟩ := hrel
      have hbw : Below w.heap.size w wr := more hb1 hbr
      by_cases hlt : k < l.length
      · obtain ⟨bk, o, rfl, hbk, hat⟩ := hcells (by intro e; subst e; simp at hlt)
        have hx : l[k]? = some l[k] := List.getElem?_eq_getElem hlt
        have hsw := hbw.size
        obtain ⟨u, c1, c2, c3, ht⟩ := (hat.below hbw hbk (Nat.le_refl _)) k _ hx
        rw [drop_at hx, goF] at hgo
        have htl := hts _ (List.getElem_mem hlt)
        generalize l[k] = x at *
        obtain ⟨ta, tc, hu, _⟩ := id ht
        have hCK := fun W (hb : Below wr.heap.size wr W) => check_in x seen hd w1.heap.size u W htl (by omega) (by have := hb.size; omega) (ht.below (hb.mono hsw) hsz1) (hchk.below hb hsr)
        have HGO := Lib.hid hgo
        clear hgo hx hat hcells hts
        generalize hn : l.length = n at *
        have hNk : decide ((k : Int) < (n : Int)) = true := by simp; omega
        subst hu
        by_cases h0 : chkF seen hd x = 0
        · go_wp2_with (go_at_call 15; refine (hCK _ ((Below.refl _ _).alloc (Nat.le_refl _) _)).mono ?_; rw [h0]; rintro e w3 ⟨rfl, hb3, hq⟩)
          obtain ⟨s, ha, hs⟩ := hq trivial
          go_roundw
          case rel =>
            have hsl := addT_length _ _ _ ha
            exact ⟨k + 1, s, hd || x.d, hlt, by go_num, by rw [HGO.out, if_pos h0, ha]; rfl, by omega, hs, (hbr.alloc (by omega) _).trans hb3, by have := hb3.size; simp at this; omega⟩
          case measure => simp [intOf]; omega
        · have hne : (chkF seen hd x != 0) = true := by simp [h0]
          have hg := HGO.out
          rw [if_neg h0] at hg
          go_wp2_with (go_at_call 15; refine (hCK _ ((Below.refl _ _).alloc (Nat.le_refl _) _)).mono ?_; rintro e w3 ⟨rfl, hb3, hq⟩)
          go_ret2
          exact ⟨by rw [hg]; rfl, more hb1 ((hbr.alloc (by omega) _).trans hb3)⟩
      · have : k = l.length := by omega
        subst this
        rw [List.drop_length, goF] at hgo
        go_wp2
        go_ret2
        exact ⟨by rw [hgo]; rfl, hbw⟩
end Go.Proofs.YtefmffofboddgaaGreat.T
