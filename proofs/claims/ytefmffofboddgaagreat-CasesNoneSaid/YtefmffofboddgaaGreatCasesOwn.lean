/-
  erratalaw09.own: clauses of the program's, in memory of their own.
-/
import Derived.Test.YtefmffofboddgaaGreatCasesB
set_option linter.unusedVariables false
namespace Go.Proofs.YtefmffofboddgaaGreat.T
open Go Go.Lib Go.RowKit

theorem slice_front (bk o n c k : Nat) (hk : k ≤ c) (hc : 0 < c) (W : World) : (Instr.slice 50 (.slice (some ⟨bk, o, none⟩) n c) none (some (.int .i64 (k : Int))) none).run Tryz.prog W = .ok (.slice (some ⟨bk, o, none⟩) k c) W := by
  rw [run_slice_h (P := Tryz.prog) W 50 (some ⟨bk, o, none⟩) n c (by kernel_rfl) .i64 (k : Int) (by omega) (by omega)]
  have hz : (sizeOf (Tryz.prog.elem 50)).run Tryz.prog W = .ok 2 W := by kernel_rfl
  rw [hz]
  simp only [Result.andThen, sliced, Int.toNat_natCast]
  rw [if_neg (by omega)]
  simp [Addr.add]
theorem slice_frontC (bk o n c k : Nat) (hk : k ≤ c) (hc : 0 < c) (W : World) : (Instr.slice 25 (.slice (some ⟨bk, o, none⟩) n c) none (some (.int .i64 (k : Int))) none).run Tryz.prog W = .ok (.slice (some ⟨bk, o, none⟩) k c) W := by
  rw [run_slice_h (P := Tryz.prog) W 25 (some ⟨bk, o, none⟩) n c (by kernel_rfl) .i64 (k : Int) (by omega) (by omega)]
  have hz : (sizeOf (Tryz.prog.elem 25)).run Tryz.prog W = .ok 3 W := by kernel_rfl
  rw [hz]
  simp only [Result.andThen, sliced, Int.toNat_natCast]
  rw [if_neg (by omega)]
  simp [Addr.add]
theorem own_slice {w : World} {B : Nat} {e : TypeId} {size : Nat} {v : Value} {n : Nat} {xs : List Value} (h : w.ownsRow B e size v (n + 1) xs) : ∃ g cap, v = .slice (some ⟨g, 0, none⟩) (n + 1) cap ∧ n + 1 ≤ cap := by
  rcases h.2 with ⟨_, h0⟩ | ⟨g, cap, cur, hv, _, _, h3, _⟩
  · omega
  · exact ⟨g, cap, hv, h3⟩

set_option maxRecDepth 100000 in
set_option maxHeartbeats 4000000 in
theorem own_in (l : List Cl) (hl : l.length ≤ 1000000) (hts : ∀ x ∈ l, x.t.length ≤ 1000000) (v : Value) (w : World) (h : ClSl w.heap.size w v l) :
    Calls Tryz.prog 5 #[v] w fun e w' => ∃ u, e = .returned u ∧ ClSl w'.heap.size w' u l ∧ Below w.heap.size w w' := by
  obtain ⟨a, c, rfl, hc1, hc2, hcells⟩ := h
  go_enter Tryz.func5, Tryz.ntmps5
  go_wp2
  go_loopw [3, 4] (fun v i wr => ∃ (k : Nat) (qs : List (Value × Cl)), k ≤ l.length ∧ i = .int .i64 k ∧ qs.map (·.2) = l.take k ∧ Cls w.heap.size wr v qs ∧ Below w.heap.size w wr)
    (fun _ i _ => l.length - (intOf i).toNat)
  case atStart => exact ⟨0, [], Nat.zero_le _, rfl, by simp, Cls.nil _ _, Below.refl _ _⟩
  case round =>
    obtain ⟨k, qs, hk, rfl, hqs, hrow, hbw⟩ := hrel
    have hszr := hbw.size
    by_cases hlt : k < l.length
    · obtain ⟨bk, o, rfl, hbk, hat⟩ := hcells (by intro e; subst e; simp at hlt)
      have hx : l[k]? = some l[k] := List.getElem?_eq_getElem hlt
      obtain ⟨u, c1, c2, c3, ht⟩ := (hat.below hbw hbk hszr) k _ hx
      have htk : l.take (k + 1) = l.take k ++ [l[k]] := by rw [List.take_add_one, hx]; rfl
      have htl := hts _ (List.getElem_mem hlt)
      have HTK := Lib.hid htk
      generalize l[k] = x at *
      obtain ⟨ta, tc, rfl, ht1, ht2, ht3⟩ := ht
      have hqk : qs.length = k := by
        have := congrArg List.length hqs
        rw [List.length_map, List.length_take] at this
        omega
      have HQS := Lib.hid hqs
      have HHT := Lib.hid hts
      clear htk hx hat hcells hqs hts
      generalize l.length = n at *
      have hN : decide ((k : Int) < (n : Int)) = true := by simp; omega
      have hbkr : bk < wr.heap.size := by omega
      obtain ⟨W0, hW0⟩ : ∃ W0, W0 = wr := ⟨_, rfl⟩
      subst hW0
      have hfar : ∀ q ∈ qs, ∃ g, q.1.ownBlock = some g ∧ g < W0.heap.size := by
        intro q hq
        obtain ⟨g, cap, e, hr⟩ := hrow.each q hq
        exact ⟨g, by rw [e]; rfl, (World.ownsRow.lt hr g rfl).2⟩
      go_wp2
      go_loopw [5, 6] (fun v i wi => ∃ (j : Nat), j ≤ x.t.length ∧ i = .int .i64 j ∧ TRow 51 W0.heap.size wi v (x.t.take j) ∧ Cls w.heap.size wi u3 qs ∧ Below W0.heap.size W0 wi)
        (fun _ i _ => x.t.length - (intOf i).toNat)
      case atStart => exact ⟨0, Nat.zero_le _, rfl, TRow.nil _ _ _, hrow, Below.refl _ _⟩
      case round =>
        obtain ⟨j, hj, rfl, htrow, hcls, hbi⟩ := hrel
        have hszi := hbi.size
        have d1 := (hbi.cell (p := ⟨bk, o + k * 3, none⟩) hbkr).trans c1
        have d2 := (hbi.cell (p := ⟨bk, o + k * 3 + 1, none⟩) hbkr).trans c2
        have d3 := (hbi.cell (p := ⟨bk, o + k * 3 + 2, none⟩) hbkr).trans c3
        by_cases hjl : j < x.t.length
        · obtain ⟨bk2, o2, rfl, hbk2, hat2⟩ := ht3 (by intro e; rw [e] at hjl; simp at hjl)
          have hy : x.t[j]? = some x.t[j] := List.getElem?_eq_getElem hjl
          obtain ⟨e1, e2⟩ := (hat2.below hbi hbk2) j _ hy
          have hjk : x.t.take (j + 1) = x.t.take j ++ [x.t[j]] := by rw [List.take_add_one, hy]; rfl
          have HJK := Lib.hid hjk
          generalize x.t[j] = y at *
          have hlj : (x.t.take j).length = j := by rw [List.length_take]; omega
          obtain ⟨v', w', hrun, hrow', hgrow⟩ := app_run (sl := 50) (by kernel_rfl) infoTerm W0.heap.size wr _ (x.t.take j) htrow y (by omega) hszi _ (.inr rfl)
          have hb' := hbi.trans (grown_below hgrow hszi (fun g hg => (World.ownsRow.lt htrow g hg).1))
          have hcls' := hcls.far (u := u5) (row_base htrow hszr) hgrow (fun q hq e => by
            obtain ⟨g, h1, h2⟩ := hfar q hq
            have := (World.ownsRow.lt htrow g (e ▸ h1)).1
            omega)
          clear hjk hy
          generalize x.t.length = m at *
          have hM : decide ((j : Int) < (m : Int)) = true := by simp; omega
          go_wp2
          go_region_law (refine step_append_run rfl (.tmp 23) (.tmp 43) 50 rfl _ (.slice (some ⟨wr.heap.size, 0, none⟩) 1 1) v' w' (by simp [Act.eval]) (by simp [Act.eval]) hrun ?_)
          all_goals
            go_wp2
            go_roundw
            case rel => exact ⟨j + 1, hjl, by go_num, by rw [HJK.out]; exact hrow', hcls', hb'⟩
            case measure => simp [intOf]; omega
        · have : j = x.t.length := by omega
          subst this
          rw [List.take_length] at htrow
          have hM : decide ((x.t.length : Int) < (x.t.length : Int)) = false := by simp
          obtain ⟨v', w', hrun, hrow', hgrow⟩ := app_run (sl := 50) (by kernel_rfl) infoTerm W0.heap.size wr _ x.t htrow mark (by omega) hszi _ (.inl rfl)
          have hb' := hbi.trans (grown_below hgrow hszi (fun g hg => (World.ownsRow.lt htrow g hg).1))
          have hcls' := hcls.far (u := u5) (row_base htrow hszr) hgrow (fun q hq e => by
            obtain ⟨g, h1, h2⟩ := hfar q hq
            have := (World.ownsRow.lt htrow g (e ▸ h1)).1
            omega)
          have hszw := hb'.size
          unfold TRow at hrow'
          rw [List.length_append] at hrow'
          obtain ⟨g, cap, rfl, hcap⟩ := own_slice hrow'
          have hlent : Lent W0.heap.size w' (.slice (some ⟨g, 0, none⟩) x.t.length cap) x.t := ⟨g, cap, rfl, hrow'⟩
          have hsl := slice_front g 0 (x.t.length + 1) cap x.t.length (by omega) (by omega) w'.drew
          have f1 := (hb'.cell (p := ⟨bk, o + k * 3, none⟩) hbkr).trans c1
          have f2 := (hb'.cell (p := ⟨bk, o + k * 3 + 1, none⟩) hbkr).trans c2
          have f3 := (hb'.cell (p := ⟨bk, o + k * 3 + 2, none⟩) hbkr).trans c3
          obtain ⟨v2, w2, hrun2, hcls2, hgrow2⟩ := push_cl w.heap.size w' u3 qs hcls' (.slice (some ⟨g, 0, none⟩) x.t.length cap, x) (hlent.base hszr) (by omega) (by omega) _ (.inr rfl)
          have hb2 := (more hbw hb').trans (grown_below hgrow2 (by omega) (fun g hg => (World.ownsRow.lt hcls'.row g hg).1))
          go_wp2_with (at_builtin; refine wpList_append_run rfl _ _ 50 rfl _ _ _ _ rfl rfl hrun ?_)
          go_region_law (refine step_append_run rfl (.tmp 49) (.tmp 69) 25 rfl _ (.slice (some ⟨w'.heap.size, 0, none⟩) 1 1) v2 w2 (by simp [Act.eval]) (by simp [Act.eval]) hrun2 ?_)
          all_goals
            go_wp2
            go_roundw
            case rel => exact ⟨k + 1, qs ++ [(_, x)], hlt, by go_num, by rw [HTK.out, List.map_append, HQS.out]; rfl, hcls2, hb2⟩
            case measure => simp [intOf]; omega
    · have : k = l.length := by omega
      subst this
      rw [List.take_length] at hqs
      have hqk : qs.length = l.length := by
        have := congrArg List.length hqs
        rw [List.length_map] at this
        omega
      obtain ⟨v2, w2, hrun2, hr2, he2, _, hgrow2⟩ := push_raw w.heap.size wr u3 qs hrow (.slice none 0 0, ⟨[], false, 4711⟩) rfl (by omega) (by omega) _ (.inl rfl)
      have hb2 := hbw.trans (grown_below hgrow2 (by omega) (fun g hg => (World.ownsRow.lt hrow.row g hg).1))
      obtain ⟨g, cap, rfl, hcap, hsl⟩ := front_sl hr2 he2
      have hS := slice_frontC g 0 (qs.length + 1) cap qs.length (by omega) (by omega) w2
      rw [hqs] at hsl
      have hN : decide ((l.length : Int) < (l.length : Int)) = false := by simp
      clear hqs hts hcells
      have HSL := Lib.hid hsl
      clear hsl
      have HH := Lib.hid hqk
      rw [hqk] at hS
      go_wp2_with (at_builtin; refine wpList_append_run rfl _ _ 25 rfl _ _ _ _ rfl rfl hrun2 ?_)
      go_ret
      exact ⟨_, rfl, HH.out ▸ HSL.out, hb2⟩
end Go.Proofs.YtefmffofboddgaaGreat.T
