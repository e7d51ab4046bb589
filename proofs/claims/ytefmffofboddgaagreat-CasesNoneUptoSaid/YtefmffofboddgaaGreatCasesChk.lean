/-
  (*cases.checker).check and cases.Check.
-/
import Derived.Test.YtefmffofboddgaaGreatCasesSeek
import Derived.StillTailTactics
set_option linter.unusedVariables false
namespace Go.Proofs.YtefmffofboddgaaGreat.T
open Go Go.Lib Go.RowKit

/-- terms behind those that were seen; none, if one stands twice -/
def addT (seen : List Tm) : List Tm → Option (List Tm)
  | [] => some seen
  | t :: r => if seen.any (fun y => decide (t = y)) then none else addT (seen ++ [t]) r
/-- what is wrong with the next clause -/
def chkF (seen : List Tm) (hd : Bool) (x : Cl) : Int :=
  if (x.d == decide (0 < x.t.length)) || x.t.any noneB then 90
  else if x.d && hd then 91
  else if (addT seen x.t).isSome then 0 else 91
theorem addT_length : ∀ (r seen s : List Tm), addT seen r = some s → s.length = seen.length + r.length
  | [], seen, s, h => by simp [addT] at h; rw [h]; simp
  | t :: r, seen, s, h => by
    unfold addT at h
    split at h
    · cases h
    · have := addT_length r _ _ h
      simp at this
      simp; omega
/-- a checker: what it has seen -/
def ChkAt (w : World) (bc : Nat) (seen : List Tm) (hd : Bool) : Prop := ∃ tv, w.cell? ⟨bc, 0, none⟩ = some tv ∧ w.cell? ⟨bc, 1, none⟩ = some (.bool hd) ∧ TRow 51 (bc + 1) w tv seen ∧ ∀ j, w.frozen? ⟨bc, j, none⟩ = false
theorem ChkAt.below {w w' : World} {bc : Nat} {seen : List Tm} {hd : Bool} (h : ChkAt w bc seen hd) (hb : Below w.heap.size w w') (hs : bc < w.heap.size) : ChkAt w' bc seen hd := by
  obtain ⟨tv, h1, h2, h3, h4⟩ := h
  exact ⟨tv, (hb.cell (p := ⟨bc, 0, none⟩) hs).trans h1, (hb.cell (p := ⟨bc, 1, none⟩) hs).trans h2, h3.below hb, fun j => (World.frozen?_of_block (hb.block bc hs)).trans (h4 j)⟩

theorem TmSl.mono {B B' : Nat} {w : World} {v : Value} {l : List Tm} (h : TmSl B w v l) (hB : B ≤ B') : TmSl B' w v l := h.below (Below.refl _ _) hB
theorem addT_snoc : ∀ (r seen s : List Tm) (t : Tm), addT seen r = some s → addT seen (r ++ [t]) = if s.any (fun y => decide (t = y)) then none else some (s ++ [t])
  | [], seen, s, t, h => by
    simp only [addT, Option.some.injEq] at h
    subst h
    simp [addT]
  | y :: r, seen, s, t, h => by
    unfold addT at h
    split at h
    · cases h
    · rename_i hy
      have := addT_snoc r _ s t h
      rw [List.cons_append, addT, if_neg hy, this]
theorem addT_none : ∀ (r seen r' : List Tm), addT seen r = none → addT seen (r ++ r') = none
  | [], seen, r', h => by simp [addT] at h
  | y :: r, seen, r', h => by
    unfold addT at h
    rw [List.cons_append, addT]
    split at h
    · rename_i hy
      rw [if_pos hy]
    · rename_i hy
      rw [if_neg hy]
      exact addT_none r _ r' h
theorem below_set {B : Nat} {w w' : World} (h : Below B w w') (a : Addr) (v : Value) (ha : B ≤ a.block) : Below B w (w'.setCell a v) := h.setCell ha v
theorem box3 {w w1 : World} {x y z : Value} {t : TypeId} (hb : Below (w.alloc (.cells #[x, y, z] t)).heap.size (w.alloc (.cells #[x, y, z] t)) w1) :
    w1.cell? ⟨w.heap.size, 0, none⟩ = some x ∧ w1.cell? ⟨w.heap.size, 1, none⟩ = some y ∧ w1.cell? ⟨w.heap.size, 2, none⟩ = some z := by
  have h : ∀ k, w1.cell? ⟨w.heap.size, k, none⟩ = (w.alloc (.cells #[x, y, z] t)).cell? ⟨w.heap.size, k, none⟩ := fun k => hb.cell (by simp)
  refine ⟨?_, ?_, ?_⟩ <;> (rw [h, World.cell?_alloc_at _ _ _ _ rfl]; rfl)
theorem set_hd {w : World} {bc : Nat} {seen : List Tm} {hd : Bool} (h : ChkAt w bc seen hd) (b : Bool) : ChkAt (w.setCell ⟨bc, 1, none⟩ (.bool b)) bc seen b := by
  obtain ⟨tv, h1, h2, h3, h4⟩ := h
  exact ⟨tv, (World.cell?_setCell_other _ _ _ _ (by simp)).trans h1, World.cell?_setCell_same _ _ _ h2, ownsRow_setCell_below h3 (by simp) _, fun j => (World.frozen?_setCell _ _ _ _).trans (h4 j)⟩
theorem TRow.isSl {e : TypeId} {B : Nat} {w : World} {v : Value} {l : List Tm} (h : TRow e B w v l) : ∃ a n c, v = .slice a n c := by
  obtain ⟨a, c, e, _⟩ := h.sl
  exact ⟨a, _, c, e⟩
theorem set_seen {w w' : World} {bc : Nat} {seen s : List Tm} {hd : Bool} {v' : Value} (h : ChkAt w bc seen hd) (hb : Below (bc + 1) w w') (hr : TRow 51 (bc + 1) w' v' s) : ChkAt (w'.setCell ⟨bc, 0, none⟩ v') bc s hd := by
  obtain ⟨tv, h1, h2, h3, h4⟩ := h
  have e1 := (hb.cell (p := ⟨bc, 0, none⟩) (by simp)).trans h1
  have e2 := (hb.cell (p := ⟨bc, 1, none⟩) (by simp)).trans h2
  exact ⟨v', World.cell?_setCell_same _ _ _ e1, (World.cell?_setCell_other _ _ _ _ (by simp)).trans e2, ownsRow_setCell_below hr (by simp) _, fun j => (World.frozen?_setCell _ _ _ _).trans ((World.frozen?_of_block (hb.block bc (by omega))).trans (h4 j))⟩
set_option maxRecDepth 100000 in
set_option maxHeartbeats 4000000 in
theorem check_in (x : Cl) (seen : List Tm) (hd : Bool) (bc : Nat) (u : Value) (w : World) (hx : x.t.length ≤ 1000000) (hse : seen.length ≤ 100000000) (hbc : bc < w.heap.size) (ht : TmSl bc w u x.t) (hc : ChkAt w bc seen hd) :
    Calls Tryz.prog 15 #[.pointer (some ⟨bc, 0, none⟩), .agg #[u, .bool x.d, .int .i64 x.to]] w fun e w' => e = .returned (.int .i64 (chkF seen hd x)) ∧ Below bc w w' ∧ (chkF seen hd x = 0 → ∃ s, addT seen x.t = some s ∧ ChkAt w' bc s (hd || x.d)) := by
  have hC := hc
  obtain ⟨tv, c1, c2, hrow, hfz⟩ := hc
  obtain ⟨xt, xd, xto⟩ := x
  simp only at *
  have hN : ∀ W, Below w.heap.size w W → Calls Tryz.prog 25 #[u, noneV] W fun e w' => e = .returned (.bool (xt.any noneB)) ∧ Below W.heap.size W w' := fun W hb =>
    anyNone_in xt hx u W (ht.below (hb.mono (by omega)) (by have := hb.size; omega))
  unfold noneV at hN
  have hlt := ht
  obtain ⟨a, c, rfl, hc1, hc2, hcells⟩ := ht
  have hbA : ∀ o, Below w.heap.size w (w.alloc o) := fun o => (Below.refl _ _).alloc (Nat.le_refl _) _
  by_cases h0 : xt = []
  · subst h0
    have hB : ([] : List Tm).any noneB = false := rfl
    cases xd with
    | false =>
      have e : chkF seen hd ⟨[], false, xto⟩ = 90 := rfl
      rw [e]
      go_enter Tryz.func15, Tryz.ntmps15
      go_wp2
      go_ret
      exact ⟨rfl, (hbA _).mono (by omega), fun h => by cases h⟩
    | true =>
      cases hd with
      | true =>
        have e : chkF seen true ⟨[], true, xto⟩ = 91 := rfl
        rw [e]
        go_enter Tryz.func15, Tryz.ntmps15
        go_wp2_with (go_at_call 25; refine (hN _ (hbA _)).mono ?_; rw [hB]; rintro e w1 ⟨rfl, hb1⟩; have hb2 := more (hbA _) hb1; have d1 := (hb2.cell (p := ⟨bc, 0, none⟩) hbc).trans c1; have d2 := (hb2.cell (p := ⟨bc, 1, none⟩) hbc).trans c2; obtain ⟨g0, g1, g2⟩ := box3 hb1; have z1 := (World.frozen?_of_block (hb2.block bc hbc)).trans (hfz 1))
        go_ret
        exact ⟨rfl, hb2.mono (by omega), fun h => by cases h⟩
      | false =>
        have e : chkF seen false ⟨[], true, xto⟩ = 0 := rfl
        rw [e]
        go_enter Tryz.func15, Tryz.ntmps15
        go_wp2_with (go_at_call 25; refine (hN _ (hbA _)).mono ?_; rw [hB]; rintro e w1 ⟨rfl, hb1⟩; have hb2 := more (hbA _) hb1; have d1 := (hb2.cell (p := ⟨bc, 0, none⟩) hbc).trans c1; have d2 := (hb2.cell (p := ⟨bc, 1, none⟩) hbc).trans c2; obtain ⟨g0, g1, g2⟩ := box3 hb1; have z1 := (World.frozen?_of_block (hb2.block bc hbc)).trans (hfz 1))
        have hS := set_hd (b := true) (hC.below hb2 hbc)
        have hbS : Below bc w (w1.setCell ⟨bc, 1, none⟩ (.bool true)) := (hb2.mono (by omega)).setCell (by simp) _
        generalize w1.setCell ⟨bc, 1, none⟩ (.bool true) = wS at *
        go_loopw [41] (fun i wr => i = .int .i64 0 ∧ wr = wS) (fun _ _ => 0)
        case atStart => exact ⟨rfl, rfl⟩
        case round =>
          obtain ⟨rfl, rfl⟩ := hrel
          go_wp2
          go_ret
          exact ⟨rfl, hbS, fun _ => ⟨seen, rfl, hS⟩⟩
  · have hpos : 0 < xt.length := List.length_pos_iff.2 h0
    have hP : decide (((xt.length : Nat) : Int) > 0) = true := by simp; omega
    cases xd with
    | true =>
      have e : chkF seen hd ⟨xt, true, xto⟩ = 90 := by unfold chkF; simp [hpos]
      rw [e]
      go_enter Tryz.func15, Tryz.ntmps15
      go_wp2
      go_ret
      exact ⟨rfl, (hbA _).mono (by omega), fun h => by cases h⟩
    | false =>
      cases hB : xt.any noneB with
      | true =>
        have e : chkF seen hd ⟨xt, false, xto⟩ = 90 := by unfold chkF; simp only [hB, Bool.or_true, if_true]
        rw [e]
        go_enter Tryz.func15, Tryz.ntmps15
        go_wp2_with (go_at_call 25; refine (hN _ (hbA _)).mono ?_; rw [hB]; rintro e w1 ⟨rfl, hb1⟩; have hb2 := more (hbA _) hb1; have d1 := (hb2.cell (p := ⟨bc, 0, none⟩) hbc).trans c1; have d2 := (hb2.cell (p := ⟨bc, 1, none⟩) hbc).trans c2; obtain ⟨g0, g1, g2⟩ := box3 hb1; have z1 := (World.frozen?_of_block (hb2.block bc hbc)).trans (hfz 1))
        go_ret
        exact ⟨rfl, hb2.mono (by omega), fun h => by cases h⟩
      | false =>
        have e : chkF seen hd ⟨xt, false, xto⟩ = if (addT seen xt).isSome then 0 else 91 := by
          unfold chkF
          simp only [hB, hpos, decide_true, Bool.or_false, Bool.false_and, Bool.false_eq_true, if_false]
          rfl
        rw [e]
        cases hd with
        | true =>
          go_enter Tryz.func15, Tryz.ntmps15
          go_wp2_with (go_at_call 25; refine (hN _ (hbA _)).mono ?_; rw [hB]; rintro e w1 ⟨rfl, hb1⟩; have hb2 := more (hbA _) hb1; have d1 := (hb2.cell (p := ⟨bc, 0, none⟩) hbc).trans c1; have d2 := (hb2.cell (p := ⟨bc, 1, none⟩) hbc).trans c2; obtain ⟨g0, g1, g2⟩ := box3 hb1; have z1 := (World.frozen?_of_block (hb2.block bc hbc)).trans (hfz 1))
          have hS := set_hd (b := true) (hC.below hb2 hbc)
          have hbS : Below bc w (w1.setCell ⟨bc, 1, none⟩ (.bool true)) := (hb2.mono (by omega)).setCell (by simp) _
          have hsS : bc < (w1.setCell ⟨bc, 1, none⟩ (.bool true)).heap.size := by have := hb2.size; simp; omega
          generalize w1.setCell ⟨bc, 1, none⟩ (.bool true) = wS at *
          go_loopw [41] (fun i wr => ∃ (k : Nat) (s : List Tm), k ≤ xt.length ∧ i = .int .i64 k ∧ addT seen (xt.take k) = some s ∧ ChkAt wr bc s true ∧ Below bc w wr ∧ bc < wr.heap.size)
            (fun i _ => xt.length - (intOf i).toNat)
          case atStart => exact ⟨0, seen, Nat.zero_le _, rfl, by simp [addT], hS, hbS, hsS⟩
          case round =>
            obtain ⟨k, s, hk, rfl, hadd, hchk, hbw, hbr⟩ := hrel
            by_cases hlk : k < xt.length
            · obtain ⟨bk, o, rfl, hbk, hat⟩ := hcells h0
              have hx2 : xt[k]? = some xt[k] := List.getElem?_eq_getElem hlk
              have htk : xt.take (k + 1) = xt.take k ++ [xt[k]] := by rw [List.take_add_one, hx2]; rfl
              obtain ⟨e1, e2⟩ := (hat.below hbw hbk) k _ hx2
              obtain ⟨tv2, s1, s2, srow, sz⟩ := id hchk
              have hsl := addT_length _ _ _ hadd
              have hsn := addT_snoc _ _ _ xt[k] hadd
              rw [← htk] at hsn
              have hno := fun h => addT_none (xt.take (k + 1)) seen (xt.drop (k + 1)) h
              rw [List.take_append_drop] at hno
              rw [List.length_take] at hsl
              generalize xt[k] = y at *
              have hCI := fun W (hb : Below wr.heap.size wr W) => contains_in s (by omega) y tv2 W (srow.sl.below hb hb.size)
              have HSN := Lib.hid hsn
              have HNO := Lib.hid hno
              have HA := Lib.hid hadd
              clear hx2 htk hsn hno hadd hat hcells hN
              generalize hn : xt.length = n at *
              have hNk : decide ((k : Int) < (n : Int)) = true := by simp; omega
              go_wp2
              have hbT : Below wr.heap.size wr (wr.alloc (.cells #[.int .u8 y.k, .int .u8 y.f] 51)) := (Below.refl _ _).alloc (Nat.le_refl _) _
              obtain ⟨p0, p1⟩ := read_new2 wr (.int .u8 y.k) (.int .u8 y.f) 51
              have q0 := (hbT.cell (p := ⟨bc, 0, none⟩) hbr).trans s1
              have hszT : wr.heap.size < (wr.alloc (.cells #[.int .u8 y.k, .int .u8 y.f] 51)).heap.size := by simp
              generalize wr.alloc (.cells #[.int .u8 y.k, .int .u8 y.f] 51) = wa at *
              have f0 : World.cell? { heap := wa.heap, tape := wa.tape, drawn := wa.drawn + 1, os := wa.os, output := wa.output } ⟨bc, 0, none⟩ = some tv2 := q0
              have f1 : World.cell? { heap := wa.heap, tape := wa.tape, drawn := wa.drawn + 1, os := wa.os, output := wa.output } ⟨wr.heap.size, 0, none⟩ = some (.int .u8 y.k) := p0
              have f2 : World.cell? { heap := wa.heap, tape := wa.tape, drawn := wa.drawn + 1, os := wa.os, output := wa.output } ⟨wr.heap.size, 1, none⟩ = some (.int .u8 y.f) := p1
              go_still_tail 5, (by kernel_rfl)
              change wpList _ _ _ _ _ wa.drew
              have hbD : Below wr.heap.size wr wa.drew := hbT.drew
              have hszD : wr.heap.size < wa.drew.heap.size := hszT
              have p0' : wa.drew.cell? ⟨wr.heap.size, 0, none⟩ = some (.int .u8 y.k) := p0
              have p1' : wa.drew.cell? ⟨wr.heap.size, 1, none⟩ = some (.int .u8 y.f) := p1
              clear f0 f1 f2 q0 p0 p1 hbT hszT
              generalize wa.drew = wd at *
              clear wa
              cases hin : s.any (fun z => decide (y = z)) with
              | true =>
                have hnone : addT seen xt = none := HNO.out (by rw [HSN.out, hin]; rfl)
                go_wp2_with (go_at_call 27; refine (hCI _ hbD).mono ?_; rw [hin]; rintro e w3 ⟨rfl, hb3⟩)
                all_goals
                  go_ret
                  first
                    | exact ⟨rfl, hbw.trans ((more hbD hb3).mono (by omega))⟩
                    | exact ⟨rfl, hbw.trans ((more hbD hb3).mono (by omega)), fun h => by cases h⟩
              | false =>
                go_wp2_with (go_at_call 27; refine (hCI _ hbD).mono ?_; rw [hin]; rintro e w3 ⟨rfl, hb3⟩; have hb4 := more hbD hb3; have hs3 := hb3.size; have hbc3 := Nat.lt_of_lt_of_le (Nat.lt_trans hbr hszD) hs3; have r0 := (hb4.cell (p := ⟨bc, 0, none⟩) hbr).trans s1; have r1 := (hb3.cell (p := ⟨wr.heap.size, 0, none⟩) hszD).trans p0'; have r2 := (hb3.cell (p := ⟨wr.heap.size, 1, none⟩) hszD).trans p1'; obtain ⟨v', w', hrun, hrow', hgrow⟩ := app_run (sl := 50) (by kernel_rfl) infoTerm (bc + 1) w3 tv2 s (srow.below hb4) y (by omega) (by omega) _ (.inr rfl); obtain ⟨a5, n5, c5, rfl⟩ := hrow'.isSl; have hb5 : Below (bc + 1) w3 w' := grown_below hgrow (by omega) (fun g hg => (World.ownsRow.lt (srow.below hb4) g hg).1); have t0 := (hb5.cell (p := ⟨bc, 0, none⟩) (by simp)).trans r0; have zz := (World.frozen?_of_block (hb5.block bc (by omega))).trans ((World.frozen?_of_block (hb4.block bc hbr)).trans (sz 0)))
                go_region_law (refine step_append_run rfl (.tmp 55) (.tmp 57) 50 rfl _ (.slice (some ⟨w3.heap.size, 0, none⟩) 1 1) _ w' (by simp [Act.eval]) (by simp [Act.eval]) hrun ?_)
                all_goals
                  go_wp2
                  go_roundw
                  case rel => exact ⟨k + 1, s ++ [y], hlk, by go_num, by rw [HSN.out, hin]; rfl, set_seen (hchk.below hb4 hbr) hb5 hrow', (hbw.trans ((hb4.mono (by omega)).trans (hb5.mono (by omega)))).setCell (by simp) _, by have := hb5.size; simp; omega⟩
                  case measure => simp [intOf]; omega
            · have : k = xt.length := by omega
              subst this
              rw [List.take_length] at hadd
              go_wp2
              all_goals
                go_ret
                exact ⟨rfl, hbw, hchk⟩
        | false =>
          go_enter Tryz.func15, Tryz.ntmps15
          go_wp2_with (go_at_call 25; refine (hN _ (hbA _)).mono ?_; rw [hB]; rintro e w1 ⟨rfl, hb1⟩; have hb2 := more (hbA _) hb1; have d1 := (hb2.cell (p := ⟨bc, 0, none⟩) hbc).trans c1; have d2 := (hb2.cell (p := ⟨bc, 1, none⟩) hbc).trans c2; obtain ⟨g0, g1, g2⟩ := box3 hb1; have z1 := (World.frozen?_of_block (hb2.block bc hbc)).trans (hfz 1))
          have hS := set_hd (b := false) (hC.below hb2 hbc)
          have hbS : Below bc w (w1.setCell ⟨bc, 1, none⟩ (.bool false)) := (hb2.mono (by omega)).setCell (by simp) _
          have hsS : bc < (w1.setCell ⟨bc, 1, none⟩ (.bool false)).heap.size := by have := hb2.size; simp; omega
          generalize w1.setCell ⟨bc, 1, none⟩ (.bool false) = wS at *
          go_loopw [41] (fun i wr => ∃ (k : Nat) (s : List Tm), k ≤ xt.length ∧ i = .int .i64 k ∧ addT seen (xt.take k) = some s ∧ ChkAt wr bc s false ∧ Below bc w wr ∧ bc < wr.heap.size)
            (fun i _ => xt.length - (intOf i).toNat)
          case atStart => exact ⟨0, seen, Nat.zero_le _, rfl, by simp [addT], hS, hbS, hsS⟩
          case round =>
            obtain ⟨k, s, hk, rfl, hadd, hchk, hbw, hbr⟩ := hrel
            by_cases hlk : k < xt.length
            · obtain ⟨bk, o, rfl, hbk, hat⟩ := hcells h0
              have hx2 : xt[k]? = some xt[k] := List.getElem?_eq_getElem hlk
              have htk : xt.take (k + 1) = xt.take k ++ [xt[k]] := by rw [List.take_add_one, hx2]; rfl
              obtain ⟨e1, e2⟩ := (hat.below hbw hbk) k _ hx2
              obtain ⟨tv2, s1, s2, srow, sz⟩ := id hchk
              have hsl := addT_length _ _ _ hadd
              have hsn := addT_snoc _ _ _ xt[k] hadd
              rw [← htk] at hsn
              have hno := fun h => addT_none (xt.take (k + 1)) seen (xt.drop (k + 1)) h
              rw [List.take_append_drop] at hno
              rw [List.length_take] at hsl
              generalize xt[k] = y at *
              have hCI := fun W (hb : Below wr.heap.size wr W) => contains_in s (by omega) y tv2 W (srow.sl.below hb hb.size)
              have HSN := Lib.hid hsn
              have HNO := Lib.hid hno
              have HA := Lib.hid hadd
              clear hx2 htk hsn hno hadd hat hcells hN
              generalize hn : xt.length = n at *
              have hNk : decide ((k : Int) < (n : Int)) = true := by simp; omega
              go_wp2
              have hbT : Below wr.heap.size wr (wr.alloc (.cells #[.int .u8 y.k, .int .u8 y.f] 51)) := (Below.refl _ _).alloc (Nat.le_refl _) _
              obtain ⟨p0, p1⟩ := read_new2 wr (.int .u8 y.k) (.int .u8 y.f) 51
              have q0 := (hbT.cell (p := ⟨bc, 0, none⟩) hbr).trans s1
              have hszT : wr.heap.size < (wr.alloc (.cells #[.int .u8 y.k, .int .u8 y.f] 51)).heap.size := by simp
              generalize wr.alloc (.cells #[.int .u8 y.k, .int .u8 y.f] 51) = wa at *
              have f0 : World.cell? { heap := wa.heap, tape := wa.tape, drawn := wa.drawn + 1, os := wa.os, output := wa.output } ⟨bc, 0, none⟩ = some tv2 := q0
              have f1 : World.cell? { heap := wa.heap, tape := wa.tape, drawn := wa.drawn + 1, os := wa.os, output := wa.output } ⟨wr.heap.size, 0, none⟩ = some (.int .u8 y.k) := p0
              have f2 : World.cell? { heap := wa.heap, tape := wa.tape, drawn := wa.drawn + 1, os := wa.os, output := wa.output } ⟨wr.heap.size, 1, none⟩ = some (.int .u8 y.f) := p1
              go_still_tail 5, (by kernel_rfl)
              change wpList _ _ _ _ _ wa.drew
              have hbD : Below wr.heap.size wr wa.drew := hbT.drew
              have hszD : wr.heap.size < wa.drew.heap.size := hszT
              have p0' : wa.drew.cell? ⟨wr.heap.size, 0, none⟩ = some (.int .u8 y.k) := p0
              have p1' : wa.drew.cell? ⟨wr.heap.size, 1, none⟩ = some (.int .u8 y.f) := p1
              clear f0 f1 f2 q0 p0 p1 hbT hszT
              generalize wa.drew = wd at *
              clear wa
              cases hin : s.any (fun z => decide (y = z)) with
              | true =>
                have hnone : addT seen xt = none := HNO.out (by rw [HSN.out, hin]; rfl)
                go_wp2_with (go_at_call 27; refine (hCI _ hbD).mono ?_; rw [hin]; rintro e w3 ⟨rfl, hb3⟩)
                all_goals
                  go_ret
                  first
                    | exact ⟨rfl, hbw.trans ((more hbD hb3).mono (by omega))⟩
                    | exact ⟨rfl, hbw.trans ((more hbD hb3).mono (by omega)), fun h => by cases h⟩
              | false =>
                go_wp2_with (go_at_call 27; refine (hCI _ hbD).mono ?_; rw [hin]; rintro e w3 ⟨rfl, hb3⟩; have hb4 := more hbD hb3; have hs3 := hb3.size; have hbc3 := Nat.lt_of_lt_of_le (Nat.lt_trans hbr hszD) hs3; have r0 := (hb4.cell (p := ⟨bc, 0, none⟩) hbr).trans s1; have r1 := (hb3.cell (p := ⟨wr.heap.size, 0, none⟩) hszD).trans p0'; have r2 := (hb3.cell (p := ⟨wr.heap.size, 1, none⟩) hszD).trans p1'; obtain ⟨v', w', hrun, hrow', hgrow⟩ := app_run (sl := 50) (by kernel_rfl) infoTerm (bc + 1) w3 tv2 s (srow.below hb4) y (by omega) (by omega) _ (.inr rfl); obtain ⟨a5, n5, c5, rfl⟩ := hrow'.isSl; have hb5 : Below (bc + 1) w3 w' := grown_below hgrow (by omega) (fun g hg => (World.ownsRow.lt (srow.below hb4) g hg).1); have t0 := (hb5.cell (p := ⟨bc, 0, none⟩) (by simp)).trans r0; have zz := (World.frozen?_of_block (hb5.block bc (by omega))).trans ((World.frozen?_of_block (hb4.block bc hbr)).trans (sz 0)))
                go_region_law (refine step_append_run rfl (.tmp 55) (.tmp 57) 50 rfl _ (.slice (some ⟨w3.heap.size, 0, none⟩) 1 1) _ w' (by simp [Act.eval]) (by simp [Act.eval]) hrun ?_)
                all_goals
                  go_wp2
                  go_roundw
                  case rel => exact ⟨k + 1, s ++ [y], hlk, by go_num, by rw [HSN.out, hin]; rfl, set_seen (hchk.below hb4 hbr) hb5 hrow', (hbw.trans ((hb4.mono (by omega)).trans (hb5.mono (by omega)))).setCell (by simp) _, by have := hb5.size; simp; omega⟩
                  case measure => simp [intOf]; omega
            · have : k = xt.length := by omega
              subst this
              rw [List.take_length] at hadd
              go_wp2
              all_goals
                go_ret
                exact ⟨rfl, hbw, hchk⟩
end Go.Proofs.YtefmffofboddgaaGreat.T
