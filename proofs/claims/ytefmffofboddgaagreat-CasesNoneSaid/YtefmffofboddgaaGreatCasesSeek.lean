/-
  cases.isNone; slices.ContainsFunc with it; slices.Contains of terms; cases.tooMany.
-/
import Derived.Test.YtefmffofboddgaaGreatCasesB
import Derived.Laws.StructEq
set_option linter.unusedVariables false
namespace Go.Proofs.YtefmffofboddgaaGreat.T
open Go Go.Lib Go.RowKit

/-- a term that asks for none of the three -/
def noneB (t : Tm) : Bool := decide (t.k > 26) || decide (t.f > 19) || (t.k != 0 && t.f != 0)
theorem read_new2 (w : World) (a b : Value) (t : TypeId) : (w.alloc (.cells #[a, b] t)).cell? ⟨w.heap.size, 0, none⟩ = some a ∧ (w.alloc (.cells #[a, b] t)).cell? ⟨w.heap.size, 1, none⟩ = some b := by
  constructor <;> rw [World.cell?_alloc_at _ _ _ _ rfl] <;> rfl
set_option maxRecDepth 100000 in
theorem isNone_in (t : Tm) (w : World) : Calls Tryz.prog 26 #[.agg #[.int .u8 t.k, .int .u8 t.f]] w fun e w' => e = .returned (.bool (noneB t)) ∧ Below w.heap.size w w' := by
  go_enter Tryz.func26, Tryz.ntmps26
  unfold noneB
  by_cases h1 : t.k > 26
  · have g1 : decide (t.k > 26) = true := by simp; omega
    rw [g1]
    go_wp2
    go_ret
    exact ⟨rfl, (Below.refl _ _).alloc (Nat.le_refl _) _⟩
  · have g1 : decide (t.k > 26) = false := by simp; omega
    rw [g1]
    by_cases h2 : t.f > 19
    · have g2 : decide (t.f > 19) = true := by simp; omega
      rw [g2]
      go_wp2
      go_ret
      exact ⟨rfl, (Below.refl _ _).alloc (Nat.le_refl _) _⟩
    · have g2 : decide (t.f > 19) = false := by simp; omega
      rw [g2]
      go_wp2
      all_goals
        go_ret
        exact ⟨rfl, (Below.refl _ _).alloc (Nat.le_refl _) _⟩
def noneV : Value := .func (.func 26) #[] #[]
theorem any_take_succ {l : List Tm} {p : Tm → Bool} {k : Nat} {x : Tm} (hx : l[k]? = some x) (h : (l.take k).any p = false) (hp : p x = false) : (l.take (k + 1)).any p = false := by
  rw [List.take_add_one, hx, List.any_append, h]
  simp [hp]
theorem any_of_at {l : List Tm} {p : Tm → Bool} {k : Nat} {x : Tm} (hx : l[k]? = some x) (hp : p x = true) : l.any p = true := List.any_eq_true.2 ⟨x, List.mem_of_getElem? hx, hp⟩
set_option maxRecDepth 100000 in
set_option maxHeartbeats 2000000 in
theorem indexNone_in (l : List Tm) (hl : l.length ≤ 1000000) (v : Value) (w : World) (h : TmSl w.heap.size w v l) :
    Calls Tryz.prog 35 #[v, noneV] w fun e w' => ∃ r : Int, e = .returned (.int .i64 r) ∧ decide (r ≥ 0) = l.any noneB ∧ Below w.heap.size w w' := by
  obtain ⟨a, c, rfl, hc1, hc2, hcells⟩ := h
  unfold noneV
  go_enter Tryz.func35, Tryz.ntmps35
  go_wp2
  go_loopw [8] (fun i wr => ∃ (k : Nat), k ≤ l.length ∧ i = .int .i64 k ∧ (l.take k).any noneB = false ∧ Below w.heap.size w wr)
    (fun i _ => l.length - (intOf i).toNat)
  case atStart => exact ⟨0, Nat.zero_le _, rfl, by simp, Below.refl _ _⟩
  case round =>
    obtain ⟨k, hk, rfl, hany, hbw⟩ := hrel
    have hszr := hbw.size
    by_cases hlt : k < l.length
    · obtain ⟨bk, o, rfl, hbk, hat⟩ := hcells (by intro e; subst e; simp at hlt)
      have hx : l[k]? = some l[k] := List.getElem?_eq_getElem hlt
      obtain ⟨c1, c2⟩ := (hat.below hbw hbk) k _ hx
      have hstep := fun hp => any_take_succ hx hany hp
      have hstop := fun hp => any_of_at (p := noneB) hx hp
      generalize l[k] = x at *
      have HS := Lib.hid hstep
      have HT := Lib.hid hstop
      clear hstep hstop hany hx hat hcells
      generalize hn : l.length = n at *
      have hN : decide ((k : Int) < (n : Int)) = true := by simp; omega
      cases hx : noneB x with
      | true =>
        go_wp2_with (go_at_call 26; refine (isNone_in x _).mono ?_; rw [hx]; rintro e w1 ⟨rfl, hb1⟩)
        go_ret
        exact ⟨_, rfl, by rw [HT.out hx]; simp, more hbw hb1⟩
      | false =>
        go_wp2_with (go_at_call 26; refine (isNone_in x _).mono ?_; rw [hx]; rintro e w1 ⟨rfl, hb1⟩)
        go_roundw
        case rel => exact ⟨k + 1, hlt, by go_num, HS.out hx, more hbw hb1⟩
        case measure => simp [intOf]; omega
    · have : k = l.length := by omega
      subst this
      rw [List.take_length] at hany
      go_wp2
      go_ret
      exact ⟨_, rfl, by rw [hany]; rfl, hbw⟩
set_option maxRecDepth 100000 in
theorem anyNone_in (l : List Tm) (hl : l.length ≤ 1000000) (v : Value) (w : World) (h : TmSl w.heap.size w v l) :
    Calls Tryz.prog 25 #[v, noneV] w fun e w' => e = .returned (.bool (l.any noneB)) ∧ Below w.heap.size w w' := by
  have hI := indexNone_in l hl v w h
  unfold noneV at *
  go_enter Tryz.func25, Tryz.ntmps25
  go_wp2_with (go_at_call 35; refine hI.mono ?_; rintro e w1 ⟨r, rfl, hr, hb1⟩)
  go_ret
  exact ⟨by rw [← hr]; rfl, hb1⟩
set_option maxRecDepth 100000 in
set_option maxHeartbeats 2000000 in
theorem index_in (l : List Tm) (hl : l.length ≤ 1000000000) (x : Tm) (v : Value) (w : World) (h : TmSl w.heap.size w v l) :
    Calls Tryz.prog 36 #[v, .agg #[.int .u8 x.k, .int .u8 x.f]] w fun e w' => ∃ r : Int, e = .returned (.int .i64 r) ∧ decide (r ≥ 0) = l.any (fun y => decide (x = y)) ∧ Below w.heap.size w w' := by
  obtain ⟨a, c, rfl, hc1, hc2, hcells⟩ := h
  go_enter Tryz.func36, Tryz.ntmps36
  go_wp2
  have c3 : (w.alloc (.cells #[.int .u8 x.k, .int .u8 x.f] 51)).cell? ⟨w.heap.size, 0, none⟩ = some (.int .u8 x.k) := (read_new2 w _ _ _).1
  have c4 : (w.alloc (.cells #[.int .u8 x.k, .int .u8 x.f] 51)).cell? ⟨w.heap.size, 1, none⟩ = some (.int .u8 x.f) := (read_new2 w _ _ _).2
  have hbA : Below w.heap.size w (w.alloc (.cells #[.int .u8 x.k, .int .u8 x.f] 51)) := (Below.refl _ _).alloc (Nat.le_refl _) _
  have hsA : w.heap.size < (w.alloc (.cells #[.int .u8 x.k, .int .u8 x.f] 51)).heap.size := by simp
  generalize w.alloc (.cells #[.int .u8 x.k, .int .u8 x.f] 51) = wA at *
  go_loopw [8] (fun i wr => ∃ (k : Nat), k ≤ l.length ∧ i = .int .i64 k ∧ (l.take k).any (fun y => decide (x = y)) = false ∧ Below wA.heap.size wA wr)
    (fun i _ => l.length - (intOf i).toNat)
  case atStart => exact ⟨0, Nat.zero_le _, rfl, by simp, Below.refl _ _⟩
  case round =>
    obtain ⟨k, hk, rfl, hany, hbr⟩ := hrel
    have hbw : Below w.heap.size w wr := hbA.trans (hbr.mono (by omega))
    have hszr := hbw.size
    by_cases hlt : k < l.length
    · obtain ⟨bk, o, rfl, hbk, hat⟩ := hcells (by intro e; subst e; simp at hlt)
      have hx : l[k]? = some l[k] := List.getElem?_eq_getElem hlt
      obtain ⟨c1, c2⟩ := (hat.below hbw hbk) k _ hx
      have d3 := (hbr.cell (p := ⟨w.heap.size, 0, none⟩) hsA).trans c3
      have d4 := (hbr.cell (p := ⟨w.heap.size, 1, none⟩) hsA).trans c4
      have hstep := fun hp => any_take_succ hx hany hp
      have hstop := fun hp => any_of_at (p := fun y => decide (x = y)) hx hp
      generalize l[k] = y at *
      have HS := Lib.hid hstep
      have HT := Lib.hid hstop
      clear hstep hstop hany hx hat hcells
      generalize hn : l.length = n at *
      have hN : decide ((k : Int) < (n : Int)) = true := by simp; omega
      obtain ⟨xk, xf⟩ := x
      obtain ⟨yk, yf⟩ := y
      simp only at *
      by_cases e1 : xk = yk
      · have t1 : (xk == yk) = true := by simp [e1]
        by_cases e2 : xf = yf
        · have t2 : (xf == yf) = true := by simp [e2]
          go_wp2
          go_quiet (fail)
          go_wp2
          go_ret
          exact ⟨_, rfl, by rw [HT.out (by simp [e1, e2])]; simp, by first | exact below_drewN hbw _ | exact hbw.drew | exact hbw⟩
        · have t2 : (xf == yf) = false := by simp [e2]
          go_wp2
          go_quiet (fail)
          go_wp2
          go_roundw
          case rel => exact ⟨k + 1, hlt, by go_num, HS.out (by simp [e2]), by first | exact below_drewN hbr _ | exact hbr.drew | exact hbr⟩
          case measure => simp [intOf]; omega
      · have t1 : (xk == yk) = false := by simp [e1]
        go_wp2
        go_quiet (fail)
        go_wp2
        go_roundw
        case rel => exact ⟨k + 1, hlt, by go_num, HS.out (by simp [e1]), by first | exact below_drewN hbr _ | exact hbr.drew | exact hbr⟩
        case measure => simp [intOf]; omega
    · have : k = l.length := by omega
      subst this
      rw [List.take_length] at hany
      go_wp2
      go_ret
      exact ⟨_, rfl, by rw [hany]; rfl, hbw⟩
set_option maxRecDepth 100000 in
theorem contains_in (l : List Tm) (hl : l.length ≤ 1000000000) (x : Tm) (v : Value) (w : World) (h : TmSl w.heap.size w v l) :
    Calls Tryz.prog 27 #[v, .agg #[.int .u8 x.k, .int .u8 x.f]] w fun e w' => e = .returned (.bool (l.any (fun y => decide (x = y)))) ∧ Below w.heap.size w w' := by
  have hI := fun W (hb : Below w.heap.size w W) => index_in l hl x v W (h.below hb hb.size)
  go_enter Tryz.func27, Tryz.ntmps27
  have hbA : Below w.heap.size w (w.alloc (.cells #[.int .u8 x.k, .int .u8 x.f] 51)) := (Below.refl _ _).alloc (Nat.le_refl _) _
  go_wp2_with (go_at_call 36; refine (hI _ (by first | exact hbA | exact hbA.drew)).mono ?_; rintro e w1 ⟨r, rfl, hr, hb1⟩)
  go_ret
  exact ⟨by rw [← hr]; rfl, more hbA hb1⟩
/-- more than 256 terms, or more than 64 clauses -/
def sumT (l : List Cl) : Nat := (l.map fun x => x.t.length).sum
def manyB (l : List Cl) : Bool := decide (64 < l.length) || decide (256 < sumT l)
theorem sumT_take {l : List Cl} {k : Nat} {x : Cl} (hx : l[k]? = some x) : sumT (l.take (k + 1)) = sumT (l.take k) + x.t.length := by
  unfold sumT
  rw [List.take_add_one, hx]
  simp
set_option maxRecDepth 100000 in
set_option maxHeartbeats 2000000 in
theorem tooMany_in (l : List Cl) (hl : l.length ≤ 1000000) (hts : ∀ x ∈ l, x.t.length ≤ 1000000) (v : Value) (w : World) (h : ClSl w.heap.size w v l) :
    Calls Tryz.prog 14 #[v] w fun e w' => e = .returned (.bool (manyB l)) ∧ Below w.heap.size w w' := by
  obtain ⟨a, c, rfl, hc1, hc2, hcells⟩ := h
  go_enter Tryz.func14, Tryz.ntmps14
  by_cases h64 : 64 < l.length
  · have hM : manyB l = true := by unfold manyB; simp [h64]
    rw [hM]
    have hN : decide ((l.length : Int) > 64) = true := by simp; omega
    go_wp2
    go_ret
    exact ⟨rfl, Below.refl _ _⟩
  · have hN : decide ((l.length : Int) > 64) = false := by simp; omega
    go_wp2
    go_loopw [3, 11] (fun s i wr => ∃ (k : Nat), k ≤ l.length ∧ i = .int .i64 k ∧ s = .int .i64 (sumT (l.take k) : Nat) ∧ sumT (l.take k) ≤ k * 1000000 ∧ Below w.heap.size w wr)
      (fun _ i _ => l.length - (intOf i).toNat)
    case atStart => exact ⟨0, Nat.zero_le _, rfl, by simp [sumT], by simp [sumT], Below.refl _ _⟩
    case round =>
      obtain ⟨k, hk, rfl, rfl, hsum, hbw⟩ := hrel
      have hszr := hbw.size
      by_cases hlt : k < l.length
      · obtain ⟨bk, o, rfl, hbk, hat⟩ := hcells (by intro e; subst e; simp at hlt)
        have hx : l[k]? = some l[k] := List.getElem?_eq_getElem hlt
        obtain ⟨u, c1, c2, c3, ht⟩ := (hat.below hbw hbk hszr) k _ hx
        have HST := Lib.hid (sumT_take hx)
        have htl := hts _ (List.getElem_mem hlt)
        generalize l[k] = x at *
        obtain ⟨ta, tc, rfl, ht1, ht2, ht3⟩ := ht
        clear hx hat hcells hts ht3
        have HU := Lib.hid hsum
        generalize hs : sumT (l.take k) = s at *
        generalize hn : l.length = n at *
        generalize x.t.length = m at *
        have hN : decide ((k : Int) < (n : Int)) = true := by simp; omega
        go_wp2
        go_roundw
        case rel => exact ⟨k + 1, hlt, by go_num, by rw [HST.out]; go_num, by rw [HST.out]; omega, hbw.alloc hszr _⟩
        case measure => simp [intOf]; omega
      · have : k = l.length := by omega
        subst this
        rw [List.take_length] at *
        have hM : manyB l = decide (256 < sumT l) := by unfold manyB; simp [h64]
        have hD : decide ((sumT l : Int) > 256) = decide (256 < sumT l) := by
          by_cases e : 256 < sumT l <;> simp [e] <;> omega
        go_wp2
        go_ret
        exact ⟨by rw [hM, ← hD]; rfl, hbw⟩
end Go.Proofs.YtefmffofboddgaaGreat.T
