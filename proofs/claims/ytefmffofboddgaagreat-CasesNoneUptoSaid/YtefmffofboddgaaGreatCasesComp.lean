/-
  cases.Compile of what is wrong, of nothing, of a default alone.
-/
import Derived.Test.YtefmffofboddgaaGreatCasesCheck
set_option linter.unusedVariables false
namespace Go.Proofs.YtefmffofboddgaaGreat.T
open Go Go.Lib Go.RowKit

set_option maxRecDepth 100000 in
theorem compile_bad (l : List Cl) (hl : l.length ≤ 1000000) (hts : ∀ x ∈ l, x.t.length ≤ 1000000) (i : Nat) (c : Int) (hc : checkF l = (i, c)) (hne : c ≠ 0) (v : Value) (w : World) (h : ClSl w.heap.size w v l) :
    Calls Tryz.prog 10 #[v] w fun e w' => e = .returned (.tuple #[.pointer none, .int .i64 c]) ∧ Below w.heap.size w w' := by
  have hK := Check_in l hl hts v w h
  rw [hc] at hK
  have hn : (c != 0) = true := by simp [hne]
  go_enter Tryz.func10, Tryz.ntmps10
  go_wp2_with (go_at_call 8; refine hK.mono ?_; rintro e w1 ⟨rfl, hb1⟩)
  go_ret2
  exact ⟨rfl, hb1⟩
theorem frozen_new {w w1 : World} {c : Array Value} {t : TypeId} (hb : Below (w.alloc (.cells c t)).heap.size (w.alloc (.cells c t)) w1) (j : Nat) : w1.frozen? ⟨w.heap.size, j, none⟩ = false :=
  (World.frozen?_of_block (hb.block _ (by simp))).trans (World.frozen?_alloc_at _ _ _ _ rfl)
theorem nil_sl (w : World) : ClSl w.heap.size w (.slice none 0 0) [] := ⟨none, 0, rfl, Nat.le_refl _, by omega, fun h => absurd rfl h⟩
set_option maxRecDepth 100000 in
theorem compile_nil (w : World) :
    Calls Tryz.prog 10 #[.slice none 0 0] w fun e w' => ∃ q, e = .returned (.tuple #[.pointer (some ⟨q, 0, none⟩), .int .i64 0]) ∧ w'.cell? ⟨q, 0, none⟩ = some (.slice none 0 0) ∧ w'.cell? ⟨q, 1, none⟩ = some (.int .i64 0) ∧ Below w.heap.size w w' := by
  have hK := Check_in [] (by simp) (fun x hx => by cases hx) _ w (nil_sl w)
  rw [show checkF [] = (0, 0) from rfl] at hK
  go_enter Tryz.func10, Tryz.ntmps10
  go_wp2_with (go_at_call 8; refine hK.mono ?_; rintro e w1 ⟨rfl, hb1⟩)
  obtain ⟨p0, p1⟩ := read_new2 w1 (.slice none 0 0) (.int .i64 0) 65
  have hbA : Below w.heap.size w (w1.alloc (.cells #[.slice none 0 0, .int .i64 0] 65)) := hb1.alloc hb1.size _
  generalize w1.alloc (.cells #[.slice none 0 0, .int .i64 0] 65) = wA at *
  go_loopw [27] (fun i wr => i = .int .i64 0 ∧ wr = wA) (fun _ _ => 0)
  case atStart => exact ⟨rfl, rfl⟩
  case round =>
    obtain ⟨rfl, rfl⟩ := hrel
    go_wp2
    go_loopw [64] (fun i wx => i = .int .i64 0 ∧ wx = wr) (fun _ _ => 0)
    case atStart => exact ⟨rfl, rfl⟩
    case round =>
      obtain ⟨rfl, rfl⟩ := hrel
      go_wp2
      go_ret2
      exact ⟨_, rfl, p0, p1, hbA⟩
set_option maxRecDepth 100000 in
theorem choices_def (u : Value) (to i : Int) (a : Option Addr) (n c : Nat) (w : World) : Calls Tryz.prog 16 #[.agg #[.slice a n c, .bool true, .int .i64 to], .int .i64 i] w fun e w' => ∃ q, e = .returned (.slice (some ⟨q, 0, none⟩) 1 1) ∧ w.heap.size ≤ q ∧ w'.cell? ⟨q, 0, none⟩ = some (.int .i64 i) ∧ w'.cell? ⟨q, 1, none⟩ = some (.int .i64 (-1)) ∧ w'.cell? ⟨q, 2, none⟩ = some (.int .i64 to) ∧ Below w.heap.size w w' := by
  go_enter Tryz.func16, Tryz.ntmps16
  go_wp2
  go_ret
  have hS : (w.alloc (.cells #[.slice a n c, .bool true, .int .i64 to] 53)).heap.size = w.heap.size + 1 := by simp
  have hb : Below w.heap.size w (w.alloc (.cells #[.slice a n c, .bool true, .int .i64 to] 53)) := (Below.refl _ _).alloc (Nat.le_refl _) _
  generalize w.alloc (.cells #[.slice a n c, .bool true, .int .i64 to] 53) = W at *
  obtain ⟨r0, r1, r2⟩ := box3 (w := W) (x := .int .i64 i) (y := .int .i64 (-1)) (z := .int .i64 to) (t := 32) (Below.refl _ _)
  rw [hS] at r0 r1 r2
  exact ⟨_, rfl, by omega, r0, r1, r2, hb.alloc (by omega) _⟩
def alwaysV (b : Nat) : Value := .func (.func 31) #[] #[.pointer (some ⟨b, 0, none⟩)]
set_option maxRecDepth 100000 in
theorem always_in (x y z : Int) (w : World) : Calls Tryz.prog 18 #[.agg #[.int .i64 x, .int .i64 y, .int .i64 z]] w fun e w' => e = .returned (alwaysV w.heap.size) ∧ Below w.heap.size w w' := by
  unfold alwaysV
  go_enter Tryz.func18, Tryz.ntmps18
  go_wp2
  go_ret
  exact ⟨rfl, (Below.refl _ _).alloc (Nat.le_refl _) _⟩
theorem infoAtt : (Tryz.prog.info? 69).map (fun i => (i.zero, i.size, i.bytes)) = some (some Value.nilFunc, 1, 8) := by kernel_rfl
theorem read_new1 (w : World) (a : Value) (t : TypeId) : (w.alloc (.cells #[a] t)).cell? ⟨w.heap.size, 0, none⟩ = some a := by
  rw [World.cell?_alloc_at _ _ _ _ rfl]; rfl
/-- the first attempt of a row, within a region that draws its order -/
theorem step_append_first {ops : Array Oper} {o : Oper} {a : Act} {w : World} {K : Act → World → Prop} {Q : Exit → Act → World → Prop} {E : Prop}
    (hg : o.guard = none) (s x : Operand) (hop : o.op = Op.call { callee := Callee.builtin Builtin.append, args := #[s, x], argTypes := #[63, 63] }) (hty : o.type = 63)
    (p : Addr) (f : Value) (hs : a.eval s = .slice none 0 0) (hx : a.eval x = .slice (some p) 1 1) (hp : p.spot = none) (hf : w.cell? p = some f) (h1 : f.oneCell' = true)
    (hK : ∀ b c w', Below w.heap.size w w' → K (a.put o.dst (.slice (some ⟨b, 0, none⟩) 1 c)) w') :
    if Region.wanted o (yielded ops a.tmps) = true then Oper.wp Tryz.prog o a w K Q else E := by
  obtain ⟨i0, hi, hz0, hz1, hz2⟩ := info_parts infoAtt
  obtain ⟨v', w', r1, r2, r3, _⟩ := run_append_own (P := Tryz.prog) w w.heap.size 63 63 69 i0 Value.nilFunc 1 8 (by kernel_rfl) hi hz0 hz1 hz2 rfl (by decide) (.slice none 0 0) 0 [] (World.ownsRow_nil _ _ _ _) p 1 1 [f] rfl
    (by intro j u hj
        cases j with
        | zero =>
          simp at hj
          subst hj
          have : p.add 0 = p := by unfold Addr.add; cases p; simp_all
          rw [this]; exact hf
        | succ j => simp at hj)
    (by intro y hy; obtain rfl := List.mem_singleton.1 hy; exact h1) (by unfold maxLen; omega) (by decide) (Nat.le_refl _)
  have hb : Below w.heap.size w w' := grown_below r3 (Nat.le_refl _) (fun k hk => by simp [Value.ownBlock] at hk)
  rcases r2.2 with ⟨_, h0⟩ | ⟨g, cap, cur, rfl, _⟩
  · simp at h0
  · exact step_append_run hg s x 63 hop _ _ _ w' hs hx (by rw [hty]; exact r1) (hK g cap w' hb)
set_option maxRecDepth 100000 in
set_option maxHeartbeats 4000000 in
theorem compile_def (to : Int) (v : Value) (w : World) (h : ClSl w.heap.size w v [⟨[], true, to⟩]) :
    Calls Tryz.prog 10 #[v] w fun e w' => ∃ q, e = .returned (.tuple #[.pointer (some ⟨q, 0, none⟩), .int .i64 0]) ∧ w'.cell? ⟨q, 1, none⟩ = some (.int .i64 1) ∧ Below w.heap.size w w' := by
  have hK := Check_in [⟨[], true, to⟩] (by simp) (fun x hx => by simp at hx; subst hx; simp) _ w h
  rw [show checkF [⟨[], true, to⟩] = (0, 0) from rfl] at hK
  obtain ⟨a, c, rfl, hc1, hc2, hcells⟩ := h
  obtain ⟨bk, o, rfl, hbk, hat⟩ := hcells (by simp)
  obtain ⟨u, c1, c2, c3, ta, tc, rfl, ht⟩ := hat 0 _ rfl
  clear ht hat hcells
  simp only [List.length_cons, List.length_nil, Nat.zero_add, Nat.zero_mul, Nat.add_zero] at *
  go_enter Tryz.func10, Tryz.ntmps10
  go_wp2_with (go_at_call 8; refine hK.mono ?_; rintro e w1 ⟨rfl, hb1⟩)
  obtain ⟨p0, p1⟩ := read_new2 w1 (.slice none 0 0) (.int .i64 1) 65
  have pz := frozen_new (w := w1) (c := #[.slice none 0 0, .int .i64 1]) (t := 65) (Below.refl _ _)
  have hbA : Below w.heap.size w (w1.alloc (.cells #[.slice none 0 0, .int .i64 1] 65)) := hb1.alloc hb1.size _
  have hq : w1.heap.size < (w1.alloc (.cells #[.slice none 0 0, .int .i64 1] 65)).heap.size := by simp
  generalize w1.alloc (.cells #[.slice none 0 0, .int .i64 1] 65) = wA at *
  go_loopw [27] (fun i wr => ∃ (k : Nat), k ≤ 1 ∧ i = .int .i64 k ∧ Below wA.heap.size wA wr) (fun i _ => 1 - (intOf i).toNat)
  case atStart => exact ⟨0, by omega, rfl, Below.refl _ _⟩
  case round =>
    obtain ⟨k, hk, rfl, hbr⟩ := hrel
    obtain ⟨W0, hW0⟩ : ∃ W0, W0 = wr := ⟨_, rfl⟩
    subst hW0
    by_cases h0 : k = 0
    · subst h0
      have hbw := hbA.trans (hbr.mono hbA.size)
      have d1 := (hbw.cell (p := ⟨bk, o, none⟩) hbk).trans c1
      have d2 := (hbw.cell (p := ⟨bk, o + 1, none⟩) hbk).trans c2
      have d3 := (hbw.cell (p := ⟨bk, o + 2, none⟩) hbk).trans c3
      go_wp2_with (go_at_call 16; refine (choices_def .nilIface to _ _ _ _ _).mono ?_; rintro e w2 ⟨q2, rfl, hq2, e0, e1, e2, hb2⟩)
      have hb3 := more ((Below.refl W0.heap.size W0).alloc (Nat.le_refl _) (.cells #[.slice ta 0 tc, .bool true, .int .i64 to] 53)) hb2
      have hq2l : q2 < w2.heap.size := World.block_lt_of_cell? _ _ e0
      obtain ⟨W2, hW2⟩ : ∃ W2, W2 = w2 := ⟨_, rfl⟩
      subst hW2
      go_loopw [36] (fun i wi => ∃ (j : Nat), j ≤ 1 ∧ i = .int .i64 j ∧ Below W2.heap.size W2 wi) (fun i _ => 1 - (intOf i).toNat)
      case atStart => exact ⟨0, by omega, rfl, Below.refl _ _⟩
      case round =>
        obtain ⟨j, hj, rfl, hbi⟩ := hrel
        by_cases hj0 : j = 0
        · subst hj0
          have f0 := (hbi.cell (p := ⟨q2, 0, none⟩) hq2l).trans e0
          have f1 := (hbi.cell (p := ⟨q2, 1, none⟩) hq2l).trans e1
          have f2 := (hbi.cell (p := ⟨q2, 2, none⟩) hq2l).trans e2
          go_wp2
          go_roundw
          case rel => exact ⟨1, by omega, by go_num, hbi.alloc hbi.size _⟩
          case measure => simp [intOf]
        · have : j = 1 := by omega
          subst this
          go_wp2
          go_roundw
          case rel => exact ⟨1, by omega, by go_num, hbr.trans ((hb3.mono hbr.size).trans (hbi.mono (by have := hb3.size; have := hbr.size; omega)))⟩
          case measure => simp [intOf]
    · have : k = 1 := by omega
      subst this
      have qW := Nat.lt_of_lt_of_le hq hbr.size
      have r0 := (hbr.cell (p := ⟨w1.heap.size, 0, none⟩) hq).trans p0
      have r1 := (hbr.cell (p := ⟨w1.heap.size, 1, none⟩) hq).trans p1
      have rz := fun j => (World.frozen?_of_block (hbr.block w1.heap.size hq)).trans (pz j)
      have hbw := hbA.trans (hbr.mono hbA.size)
      clear hbr p0 p1 pz
      go_wp2
      go_loopw [64] (fun i wi => ∃ (k : Nat), k ≤ 1 ∧ i = .int .i64 k ∧ wi.cell? ⟨w1.heap.size, 1, none⟩ = some (.int .i64 1) ∧ Below w.heap.size w wi ∧ (k = 0 → wi = W0)) (fun i _ => 1 - (intOf i).toNat)
      case atStart => exact ⟨0, by omega, rfl, r1, hbw, fun _ => rfl⟩
      case round =>
        obtain ⟨j, hj, rfl, s1, hbs, hwi⟩ := hrel
        by_cases hj0 : j = 0
        · subst hj0
          obtain rfl := hwi rfl
          have d1 := (hbw.cell (p := ⟨bk, o, none⟩) hbk).trans c1
          have d2 := (hbw.cell (p := ⟨bk, o + 1, none⟩) hbk).trans c2
          have d3 := (hbw.cell (p := ⟨bk, o + 2, none⟩) hbk).trans c3
          go_wp2
          obtain ⟨g0, g1, g2⟩ := box3 (w := wr) (x := .slice ta 0 tc) (y := .bool true) (z := .int .i64 to) (t := 53) (Below.refl _ _)
          have hbV : Below wr.heap.size wr (wr.alloc (.cells #[.slice ta 0 tc, .bool true, .int .i64 to] 53)) := (Below.refl _ _).alloc (Nat.le_refl _) _
          have hsV : wr.heap.size < (wr.alloc (.cells #[.slice ta 0 tc, .bool true, .int .i64 to] 53)).heap.size := by simp
          have v0 := (hbV.cell (p := ⟨w1.heap.size, 0, none⟩) qW).trans r0
          have v1 := (hbV.cell (p := ⟨w1.heap.size, 1, none⟩) qW).trans r1
          have vz := (World.frozen?_of_block (hbV.block w1.heap.size qW)).trans (rz 0)
          have hqV := Nat.lt_trans qW hsV
          have hbv := more hbw hbV
          generalize wr.alloc (.cells #[.slice ta 0 tc, .bool true, .int .i64 to] 53) = wv at *
          go_region_law (first
            | (refine step_append_first rfl (.tmp 75) (.tmp 82) rfl rfl _ _ (by simp [Act.eval]) (by simp [Act.eval]) rfl (read_new1 _ _ _) rfl ?_; intro b9 c9 w6 hb6; have hb7 := more ((Below.refl w3.heap.size w3).alloc (Nat.le_refl _) _) hb6; have y0 := (hb7.cell (p := ⟨w1.heap.size, 0, none⟩) hq3).trans x0; have y1 := (hb7.cell (p := ⟨w1.heap.size, 1, none⟩) hq3).trans x1; have yz := (World.frozen?_of_block (hb7.block w1.heap.size hq3)).trans xz)
            | (go_simp; go_at_call 16; refine (choices_def .nilIface to _ _ _ _ _).mono ?_; rintro e w2 ⟨q2, rfl, hq2, e0, e1, e2, hb2⟩; have z0 := (hb2.cell (p := ⟨w1.heap.size, 0, none⟩) hqV).trans v0; have z1 := (hb2.cell (p := ⟨w1.heap.size, 1, none⟩) hqV).trans v1; have zz := (World.frozen?_of_block (hb2.block w1.heap.size hqV)).trans vz; have hq2' := Nat.lt_of_lt_of_le hqV hb2.size)
            | (go_simp; go_at_call 18; refine (always_in _ _ _ _).mono ?_; unfold alwaysV; rintro e w3 ⟨rfl, hb3⟩; have x0 := (hb3.cell (p := ⟨w1.heap.size, 0, none⟩) hq2').trans z0; have x1 := (hb3.cell (p := ⟨w1.heap.size, 1, none⟩) hq2').trans z1; have xz := (World.frozen?_of_block (hb3.block w1.heap.size hq2')).trans zz; have hq3 := Nat.lt_of_lt_of_le hq2' hb3.size))
          all_goals
            have hbF : Below w.heap.size w w6 := by
              have q1 := hbv.size
              have q2 : wv.heap.size ≤ w2.heap.size := hb2.size
              have q3 := hb3.size
              exact hbv.drew.trans ((hb2.mono q1).trans ((hb3.mono (by omega)).trans (hb7.mono (by omega))))
            have hbG := hbF.setCell (p := ⟨w1.heap.size, 0, none⟩) hb1.size (.slice (some ⟨b9, 0, none⟩) 1 c9)
            have yS := (World.cell?_setCell_other w6 ⟨w1.heap.size, 0, none⟩ ⟨w1.heap.size, 1, none⟩ (.slice (some ⟨b9, 0, none⟩) 1 c9) (by simp)).trans y1
            go_wp2
            go_roundw
            case rel =>
              refine ⟨_, _, _, _, _, _, _, _, _, _, _, _, _, _, _, _, _, _, _, _, _, _, _, _, _, ?_, rfl⟩
              exact ⟨1, by omega, by go_num, yS, hbG, fun h => by cases h⟩
            case measure => simp [intOf]
        · have : j = 1 := by omega
          subst this
          go_wp2
          go_ret2
          exact ⟨_, rfl, s1, hbs⟩
end Go.Proofs.YtefmffofboddgaaGreat.T
