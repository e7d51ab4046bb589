/-
  All places of one list behind a row's; errataref03.Trim.
-/
import Derived.Test.YtiolmpilgkippaaDoorPlaceTrim
set_option linter.unusedVariables false
namespace Go.Proofs.YtiolmpilgkippaaDoor.T
open Go Go.Lib Go.RowKit

theorem wpList_append_run {P : Program} {ops : Array Oper} {rest : List Oper} {o : Oper} {a : Act} {w : World} {Q : Exit → Act → World → Prop} (hgd : o.guard = none) (s x : Operand) (t : TypeId)
    (ho : o.op = .call { callee := .builtin .append, args := #[s, x], argTypes := #[t, t] }) (v u v' : Value) (w' : World) (hs : a.eval s = v) (hx : a.eval x = u)
    (hrun : (Builtin.append_ #[t, t] o.type #[v, u]).run P w = .ok v' w') (h : wpList P ops Q rest (a.put o.dst v') w') : wpList P ops Q (o :: rest) a w :=
  wpList_plain hgd fun K hK => by
    unfold Oper.wp execOp
    simp only [ho, resolve, invoke, builtin, Sem.run_bind, Sem.run_pure, Result.andThen_ok, List.map_toArray, List.map_cons, List.map_nil, hs, hx, hrun]
    exact hK _ _ h
/-- an append of no thing whose address is none -/
theorem app_none {e sl : TypeId} (hu : Tryd.prog.underlying sl = some (.slice e)) {z : Value} {n b : Nat} (hinf : (Tryd.prog.info? e).map (fun i => (i.zero, i.size, i.bytes)) = some (some z, n, b))
    (W : World) (p : Option Addr) (k cap c : Nat) (hk : k ≤ cap) : (Builtin.append_ #[sl, sl] sl #[.slice p k cap, .slice none 0 c]).run Tryd.prog W = .ok (.slice p k cap) W := by
  obtain ⟨i0, hi, hz0, hz1, hz2⟩ := info_parts hinf
  cases p with
  | none => simp [Builtin.append_, run_underlying hu, sizeOf, typeInfo, hi, Builtin.lenOf, Builtin.firstCells, hk]
  | some p => simp [Builtin.append_, run_underlying hu, sizeOf, typeInfo, hi, Builtin.lenOf, Builtin.firstCells, loadCells, storeCells, hk]
/-- the places of a slice, cell by cell -/
theorem PlAt.cells {w : World} {bk o : Nat} {m : List Pl} (h : PlAt w bk o m) : ∀ j u, (plCs m)[j]? = some u → w.cell? ((⟨bk, o, none⟩ : Addr).add j) = some u := by
  intro j u hj
  have hlt : j < m.length * 2 := by
    rcases Nat.lt_or_ge j (m.length * 2) with h | h
    · exact h
    · rw [List.getElem?_eq_none (by rw [plCs_length]; exact h)] at hj; cases hj
  have hx : m[j / 2]? = some m[j / 2] := List.getElem?_eq_getElem (by omega)
  have hc := h _ _ hx
  have hp := plCs_at m _ _ hx
  have ha : ((⟨bk, o, none⟩ : Addr).add j) = ⟨bk, o + j, none⟩ := by unfold Addr.add; split <;> simp_all
  rw [ha]
  rcases Nat.mod_two_eq_zero_or_one j with e | e
  · rw [show j = 2 * (j / 2) from by omega] at hj ⊢
    rw [hp.1] at hj
    cases hj
    rw [show o + 2 * (j / 2) = o + j / 2 * 2 from by omega]
    exact hc.1
  · rw [show j = 2 * (j / 2) + 1 from by omega] at hj ⊢
    rw [hp.2] at hj
    cases hj
    rw [show o + (2 * (j / 2) + 1) = o + j / 2 * 2 + 1 from by omega]
    exact hc.2
theorem app_all {e sl : TypeId} (hu : Tryd.prog.underlying sl = some (.slice e)) (hinf : (Tryd.prog.info? e).map (fun i => (i.zero, i.size, i.bytes)) = some (some (.agg #[.string ⟨#[]⟩, .int .i64 0]), 2, 24))
    (B B' : Nat) (W : World) (v s : Value) (l m : List Pl) (hrow : PRow e B W v l) (hs : PlSl B' W s m) (h63 : l.length + m.length ≤ 5864062014800) (hB : B ≤ W.heap.size) :
    ∃ v' w', (Builtin.append_ #[sl, sl] sl #[v, s]).run Tryd.prog W = .ok v' w' ∧ PRow e B w' v' (l ++ m) ∧ W.grownBy w' v.ownBlock := by
  obtain ⟨a, c, rfl, h1, h2, h3⟩ := hs
  cases a with
  | none =>
    have hm : m = [] := by
      rcases m with _ | ⟨p, m⟩
      · rfl
      · obtain ⟨bk, o, e, _⟩ := h3 (by simp); cases e
    subst hm
    obtain ⟨p, k, cap, rfl, hk⟩ : ∃ p k cap, v = .slice p k cap ∧ k ≤ cap := by
      rcases hrow.2 with ⟨rfl, _⟩ | ⟨g, cap, cur, rfl, _, _, h3, _⟩
      · exact ⟨_, _, _, rfl, Nat.le_refl _⟩
      · exact ⟨_, _, _, rfl, h3⟩
    exact ⟨_, W, app_none hu hinf W p k cap c hk, by rw [List.append_nil]; exact hrow, ⟨rfl, rfl, rfl, Nat.le_refl _, fun _ _ _ => rfl⟩⟩
  | some ad =>
    obtain ⟨i0, hi, hz0, hz1, hz2⟩ := info_parts hinf
    have hnews : ∀ j u, (plCs m)[j]? = some u → W.cell? (ad.add j) = some u := by
      rcases m with _ | ⟨p, m⟩
      · intro j u hj; simp [plCs] at hj
      · obtain ⟨bk, o, e, _, hat⟩ := h3 (by simp)
        cases e
        exact hat.cells
    obtain ⟨v', w', h1, h2, h3, _⟩ := run_append_own (P := Tryd.prog) W B sl sl e i0 (.agg #[.string ⟨#[]⟩, .int .i64 0]) 2 24 hu hi hz0 hz1 hz2 rfl (by decide) v l.length (plCs l) hrow ad m.length c (plCs m) (plCs_length m) hnews (by
        intro u hu
        simp only [plCs, List.mem_flatMap] at hu
        obtain ⟨p, _, hu⟩ := hu
        simp only [plC, List.mem_cons, List.not_mem_nil, or_false] at hu
        rcases hu with rfl | rfl <;> rfl) (by unfold maxLen; omega) (by omega) hB
    refine ⟨v', w', h1, ?_, h3⟩
    unfold PRow
    rw [plCs_app, List.length_append]
    exact h2
/-- the first of some places of the document's -/
theorem slice_ref (B : Nat) (w : World) (v : Value) (l : List Pl) (h : PlSl B w v l) (k : Nat) (hk : k ≤ l.length) :
    ∃ v', (∀ W : World, (Instr.slice 29 v none (some (.int .i64 (k : Int))) none).run Tryd.prog W = .ok v' W) ∧ PlSl B w v' (l.take k) := by
  obtain ⟨a, c, rfl, h1, h2, h3⟩ := h
  refine ⟨sliced a 0 k c 2, fun W => ?_, ?_⟩
  · rw [run_slice_h (P := Tryd.prog) W 29 a l.length c (by kernel_rfl) .i64 (k : Int) (by omega) (by omega)]
    have hz : (sizeOf (Tryd.prog.elem 29)).run Tryd.prog W = .ok 2 W := by kernel_rfl
    rw [hz]
    simp only [Result.andThen, Int.toNat_natCast]
  · have hlk : (l.take k).length = k := by rw [List.length_take]; omega
    refine ⟨_, c, by unfold sliced; rw [hlk]; rfl, by omega, h2, fun hne => ?_⟩
    have hl0 : l ≠ [] := by intro e; subst e; simp at hne
    obtain ⟨bk, o, rfl, hb, hat⟩ := h3 hl0
    refine ⟨bk, o, ?_, hb, hat.take k⟩
    split <;> simp [Addr.add]
theorem PRow.empty (e : TypeId) (W : World) (B : Nat) (hB : B ≤ W.heap.size) : PRow e B (W.alloc (.cells #[] e)) (.slice (some ⟨W.heap.size, 0, none⟩) 0 0) [] :=
  World.ownsRow_made W #[] 0 hB (by decide) rfl
set_option maxRecDepth 100000 in
set_option maxHeartbeats 4000000 in
theorem refTrim_in (l : List Pl) (hl : l.length ≤ 5864062014700) (hs : Slim l) (xs : List ByteArray) (v u : Value) (w : World) (h : PlSl w.heap.size w v l) (hu : StrSl w.heap.size w u xs) :
    Calls Tryd.prog 26 #[v, u] w (IsTwo 111 (trA l xs) (checkN l) w) := by
  have hC := refCheck_in l hs w.heap.size v w h
  generalize hR : trA l xs = R at *
  have HR := Lib.hid hR
  clear hR
  have h0 := h
  obtain ⟨a, c, rfl, hc1, hc2, hcells⟩ := h
  obtain ⟨ua, uc, rfl, _⟩ : ∃ ua uc, u = .slice ua xs.length uc ∧ True := by
    obtain ⟨ua, uc, e, _⟩ := hu
    exact ⟨ua, uc, e, trivial⟩
  generalize hc : checkN l = C at *
  have HC := Lib.hid hc
  clear hc
  go_enter Tryd.func26, Tryd.ntmps26
  by_cases hC0 : C = 0
  · subst hC0
    go_wp2_with (go_at_call 16; refine hC.mono ?_; rintro e w1 ⟨rfl, hb1⟩; have hsz1 := hb1.size)
    go_loop [7] (fun i => ∃ (k : Nat), k ≤ l.length ∧ i = .int .i64 k ∧ trimK l xs l.length = trimK l xs k) (fun i => (RowKit.intOf i).toNat)
    case atStart => exact ⟨l.length, Nat.le_refl _, rfl, rfl⟩
    case round =>
      obtain ⟨k, hk, rfl, hall⟩ := hrel
      have HA := Lib.hid hall
      clear hall
      have hfin : trimK l xs k = k → R = l.take k := fun e => by
        rw [← HR.out]; unfold trA; rw [if_pos HC.out, HA.out, e]
      have HF := Lib.hid hfin
      clear hfin
      have hltk : (l.take k).length = k := by rw [List.length_take]; omega
      obtain ⟨v', hsl, hv'⟩ := slice_ref _ w _ l h0 k hk
      have hbA := hb1.alloc hsz1 (.cells #[] 111)
      obtain ⟨v2, w2, hrun, hrow, hgrow⟩ := app_all (sl := 29) (by kernel_rfl) infoRef w.heap.size w.heap.size (w1.alloc (.cells #[] 111)) (.slice (some ⟨w1.heap.size, 0, none⟩) 0 0) v' [] (l.take k) (PRow.empty _ w1 _ hsz1) (hv'.below hbA (Nat.le_refl _)) (by rw [hltk]; simp; omega) (by simp; omega)
      have hb2 := hbA.grown hgrow (by simp; omega) (fun j hj => by simp [Value.ownBlock] at hj; omega)
      rw [List.nil_append] at hrow
      clear hltk hgrow hbA
      cases k with
      | zero =>
        have hR0 : R = l.take 0 := HF.out rfl
        have hsl0 : ∀ W : World, (Instr.slice 29 (.slice a l.length c) none (some (.int .i64 0)) none).run Tryd.prog W = .ok v' W := hsl
        clear hsl
        rw [← hR0] at hrow
        clear hR0
        go_wp2_with (at_builtin; refine wpList_append_run rfl _ _ 29 rfl _ _ _ _ rfl rfl hrun ?_)
        go_ret2
        exact ⟨v2, rfl, hrow, hb2⟩
      | succ k =>
        obtain ⟨bk, o, rfl, hbk, hat⟩ := hcells (by intro e; subst e; simp at hk)
        have hx : l[k]? = some l[k] := List.getElem?_eq_getElem (by omega)
        have c1 := ((hat.below hb1 hbk) k _ hx).1
        have hxs := hs.at hx
        have hsl1 : ∀ W : World, (Instr.slice 29 (.slice (some ⟨bk, o, none⟩) l.length c) none (some (.int .i64 ((k : Int) + 1))) none).run Tryd.prog W = .ok v' W := fun W => by
          have := hsl W
          simpa using this
        clear hsl
        have hnm := nmAt_eq hx
        generalize l[k] = x at *
        have hB := fun W (h : StrSl w1.heap.size W (.slice ua xs.length uc) xs) => begins_in x.n (by omega) xs (.slice ua xs.length uc) w1.heap.size W h
        have hB1 := hB w1 (hu.below hb1 hsz1)
        clear hB hx hat hcells
        generalize hb : begB x.n xs = b at *
        have hstep : trimK l xs (k + 1) = if b = true then trimK l xs k else k + 1 := by rw [trimK, hnm, hb]
        have HS := Lib.hid hstep
        clear hstep hnm hb
        cases b with
        | true =>
          go_wp2_with (go_at_call 64; refine hB1.mono ?_; rintro e w3 ⟨rfl, rfl⟩)
          go_round
          case rel => exact ⟨k, by omega, by go_num, by rw [HA.out, HS.out]; rfl⟩
          case measure => simp [RowKit.intOf]
        | false =>
          have hR0 : R = l.take (k + 1) := HF.out HS.out
          rw [← hR0] at hrow
          clear hR0
          go_wp2_with (first | (go_at_call 64; refine hB1.mono ?_; rintro e w3 ⟨rfl, rfl⟩) | (at_builtin; refine wpList_append_run rfl _ _ 29 rfl _ _ _ _ rfl rfl hrun ?_))
          go_ret2
          exact ⟨v2, rfl, hrow, hb2⟩
  · have : R = [] := by rw [← HR.out]; unfold trA; rw [HC.out, if_neg hC0]
    subst this
    have hC1 : ((C : Int) != 0) = true := by simp; omega
    go_wp2_with (go_at_call 16; refine hC.mono ?_; rintro e w1 ⟨rfl, hb1⟩; have hsz1 := hb1.size)
    go_ret2
    exact ⟨_, rfl, PRow.nil _ _ _, hb1⟩
end Go.Proofs.YtiolmpilgkippaaDoor.T
